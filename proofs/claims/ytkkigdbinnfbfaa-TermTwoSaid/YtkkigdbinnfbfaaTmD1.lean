/-
  The walk of slices.DeleteFunc where what is empty goes, at most the last of a row. Conditions: at most 1000 types.
-/
import Derived.Test.YtkkigdbinnfbfaaTmC
import Derived.Lib.SliceRun
namespace Go.Proofs.Ytkkigdbinnfbfaa
open Go.RowKit

theorem empty1_any (A : Option Addr) (n cap : Nat) (w : World) : Calls Try.prog 30 #[.slice A n cap] w fun e w' => e = .returned (.bool ((n : Int) == 0)) ∧ w = w' := by
  go_enter Try.func30, Try.ntmps30
  go_wp2
  go_ret
  exact ⟨rfl, rfl⟩
theorem enter_empty1 (args : Array Value) (W : World) : (callFunc 30 args).run Try.prog W = .ok (.enter 30 args) W := by kernel_rfl

set_option maxHeartbeats 4000000 in
set_option maxRecDepth 100000 in
/-- What is looked for is at place m, or nowhere. -/
theorem indexE_any (ks : List VT) (m : Nat) (hm : m ≤ ks.length) (hne : ∀ (i : Nat) (h : i < ks.length), i < m → ks[i].2 ≠ []) (he : ∀ h : m < ks.length, (ks[m]'h).2 = []) (hn : ks.length ≤ 1000) (v : Value) (w : World) (hx : RdR w w.heap.size v ks) :
    Calls Try.prog 61 #[v, .func (.func 30) #[] #[]] w fun e w' => e = .returned (.int .i64 (if m < ks.length then (m : Int) else -1)) ∧ w = w' := by
  obtain ⟨⟨A, cap, rfl, hl1, hl2, -, hc⟩, hR⟩ := hx
  unfold maxLen at hl2
  have HR := hid hR
  have HNE := hid hne
  have HE := hid he
  have HC := hid (fun (k : Nat) (hk : k < ks.length) => show ∃ b o, A = some ⟨b, o, none⟩ ∧ b < w.heap.size ∧ ∀ (i : Nat) (h : i < ks.length), w.cell? ⟨b, o + i, none⟩ = some ks[i].1 from hc (by rintro rfl; simp at hk))
  have hent := enter_empty1
  clear hR hc hne he
  go_enter Try.func61, Try.ntmps61
  go_wp2
  go_loop [8] (fun v8 => ∃ k : Nat, v8 = .int .i64 k ∧ k ≤ m) (fun v8 => ks.length - (intOf v8).toNat)
  case atStart => exact ⟨0, rfl, by omega⟩
  case round =>
    obtain ⟨k, rfl, hk⟩ := hrel
    by_cases hlt : k < ks.length
    · obtain ⟨b, o, rfl, hb, hcc⟩ := HC.out k hlt
      have c0 := hcc k hlt
      have hm2 := List.getElem_mem hlt
      obtain ⟨A2, cp, hv, -⟩ := (HR.out _ hm2).len
      rw [hv] at c0
      by_cases hkm : k < m
      · have e0 : (((ks[k].2.length : Nat) : Int) == 0) = false := by simpa using HNE.out k hlt hkm
        have E0 := hid e0
        clear hm2 hv hcc e0
        generalize ks[k].2.length = y at *
        go_wp2_with fail
        refine (empty1_any A2 y cp _).mono ?_
        rintro e w' ⟨rfl, rfl⟩
        rw [E0.out]
        go_wp2_with fail
        go_round
        case rel => exact ⟨k + 1, by go_num, by omega⟩
        case measure => simp [intOf]; omega
      · obtain rfl : k = m := by omega
        have e0 : (((ks[k].2.length : Nat) : Int) == 0) = true := by
          rw [HE.out hlt]; rfl
        have E0 := hid e0
        clear hm2 hv hcc e0
        generalize ks[k].2.length = y at *
        go_wp2_with fail
        refine (empty1_any A2 y cp _).mono ?_
        rintro e w' ⟨rfl, rfl⟩
        rw [E0.out]
        go_wp2_with fail
        go_ret
        exact ⟨rfl, rfl⟩
    · have hm0 : ¬ m < ks.length := by omega
      have hk0 : k = ks.length := by omega
      subst hk0
      go_wp2_with fail
      go_ret
      first
        | exact ⟨rfl, rfl⟩
        | exact ⟨by rw [if_neg hm0]; rfl, rfl⟩

def fullT (ks : List VT) : List VT := ks.filter fun t => !t.2.isEmpty
def DelPost (C : Nat) (kv : Value) (ks : List VT) (w : World) (e : Ending) (w' : World) : Prop :=
  ∃ v', e = .returned v' ∧ RdR w' C v' (fullT ks) ∧ Fr (fun i => kv.ownBlock = some i) w w'
/-- At most the last one is empty. -/
def LastE (ks : List VT) : Prop := (∀ t ∈ ks, t.2 ≠ []) ∨ ∃ init t, ks = init ++ [t] ∧ t.2 = [] ∧ ∀ t ∈ init, t.2 ≠ []
theorem fullT_all {ks : List VT} (h : ∀ t ∈ ks, t.2 ≠ []) : fullT ks = ks := by
  unfold fullT
  rw [List.filter_eq_self]
  intro t ht
  have := h t ht
  cases hl : t.2 with
  | nil => exact absurd hl this
  | cons _ _ => rfl

set_option maxHeartbeats 4000000 in
set_option maxRecDepth 100000 in
theorem delete_any (ks : List VT) (hf : LastE ks) (hn : ks.length ≤ 1000) {B C : Nat} (kv : Value) (w : World) (hr : RowT B kv ks w) (hC : RdR w C kv ks) :
    Calls Try.prog 29 #[kv, .func (.func 30) #[] #[]] w (DelPost C kv ks w) := by
  rcases hf with hall | ⟨init, t, rfl, ht, hall⟩
  · have HI := hid (indexE_any ks ks.length (Nat.le_refl _) (fun i h _ => hall _ (List.getElem_mem h)) (fun h => absurd h (by omega)) hn kv w hr.rdr)
    rw [if_neg (by omega)] at HI
    have EX : Hid (DelPost C kv ks w (.returned kv) w) := hid ⟨kv, rfl, by rw [fullT_all hall]; exact hC, Fr.refl _ _⟩
    obtain ⟨A, cap, rfl, -⟩ := hr.val
    clear hr hall
    go_enter Try.func29, Try.ntmps29
    go_wp2_with fail
    refine (HI.out).mono ?_
    rintro e w' ⟨rfl, rfl⟩
    go_wp2
    go_ret
    exact EX.out
  · have HI := hid (indexE_any (init ++ [t]) init.length (by simp) (fun i h hi => by rw [List.getElem_append_left hi]; exact hall _ (List.getElem_mem hi)) (fun h => by simp [ht]) hn kv w hr.rdr)
    rw [if_pos (by simp)] at HI
    rcases hr.own.2 with ⟨-, h0⟩ | ⟨g, cap, cur, rfl, -, hh, hc, hm, -⟩
    · simp at h0
    have hrow := hr.own
    have c0 := World.ownsRow.cellAt hrow init.length (by simp)
    have f0 := World.ownsRow.frozenAt hrow init.length
    simp only [List.map_append, List.map_cons, List.map_nil] at c0
    rw [List.getElem?_append_right (by simp)] at c0
    simp at c0
    have hcl : ∀ ty, (Builtin.clear_ #[27] ty #[.slice (some ⟨g, init.length, none⟩) 1 (cap - init.length)]).run Try.prog w = .ok (.tuple #[]) (w.setCell ⟨g, init.length, none⟩ (.slice none 0 0)) := fun ty => by
      have := Lib.run_clear_slice (P := Try.prog) w 27 23 ty (.slice none 0 0) Try.underlying27 (fun w => by kernel_rfl) rfl rfl g init.length 1 (cap - init.length) (by omega) (fun j hj => by
        have : j = 0 := by omega
        subst this
        rw [Nat.add_zero, c0]; rfl) (fun j hj => by
        have : j = 0 := by omega
        subst this
        exact f0)
      exact this
    have EX : Hid (DelPost C (.slice (some ⟨g, 0, none⟩) (init ++ [t]).length cap) (init ++ [t]) w (.returned (.slice (some ⟨g, 0, none⟩) init.length cap)) (w.setCell ⟨g, init.length, none⟩ (.slice none 0 0))) := hid (by
      have hfr : Fr (fun i => (Value.slice (some ⟨g, 0, none⟩) (init ++ [t]).length cap).ownBlock = some i) w (w.setCell ⟨g, init.length, none⟩ (.slice none 0 0)) :=
        ⟨rfl, rfl, rfl, by simp, fun i hi hp => heap_setCell_other w ⟨g, init.length, none⟩ i _ (fun e => hp (by rw [e]; rfl))⟩
      refine ⟨_, rfl, ?_, hfr⟩
      have hgC : g < C := by
        obtain ⟨⟨A2, c2, e, -, -, -, hx⟩, -⟩ := hC
        obtain ⟨b2, o2, e2, hb2, -⟩ := hx (by simp)
        rw [e2] at e
        injection e with e _ _
        injection e with e
        injection e with e _ _
        omega
      have hfl : fullT (init ++ [t]) = init := by
        have h1 := fullT_all hall
        unfold fullT at h1 ⊢
        rw [List.filter_append, h1]
        simp [ht]
      rw [hfl]
      refine ⟨⟨_, cap, rfl, by simp at hc; omega, hm, by simp, fun _ => ⟨g, 0, rfl, hgC, fun i hi => ?_⟩⟩, fun x hx => ?_⟩
      · rw [Nat.zero_add]
        have := World.ownsRow.cellAt hrow i (by simp; omega)
        have hne : (⟨g, init.length, none⟩ : Addr) ≠ ⟨g, i, none⟩ := by intro e; injection e with _ e2 _; omega
        refine ((World.cell?_setCell_other (h := hne) ..).trans this).trans ?_
        rw [List.map_append, List.getElem?_append_left (by simpa using hi)]
        simp [hi]
      · have hm : x ∈ init ++ [t] := by simp [hx]
        exact (hC.2 x hm).fr hfr fun b hb g => hr.off x hm b hb g)
    have hcn : init.length < cap := by simp at hc; omega
    have hn2 : init.length ≤ 1000 := by simp at hn; omega
    unfold maxLen at hm
    obtain ⟨n0, hn0⟩ : ∃ n0, init.length = n0 := ⟨_, rfl⟩
    have hlen : (init ++ [t]).length = n0 + 1 := by simp [hn0]
    rw [hlen, hn0] at EX
    rw [hlen] at HI ⊢
    rw [hn0] at hcl HI hcn hn2
    clear hrow c0 f0 hh hc hr hall ht hn hn0 hlen
    go_enter Try.func29, Try.ntmps29
    go_wp2_with fail
    refine (HI.out).mono ?_
    rintro e w' ⟨rfl, rfl⟩
    have e1 : ((n0 : Int) == -1) = false := by first | (simp; done) | (simp; omega)
    go_wp2
    go_loopw [5, 6] (fun v5 v6 wr => v5 = .int .i64 n0 ∧ v6 = .int .i64 (n0 + 1) ∧ w = wr) (fun _ _ _ => 0)
    case atStart => exact ⟨rfl, rfl, rfl⟩
    case round =>
      obtain ⟨rfl, rfl, rfl⟩ := hrel
      go_wp2
      go_ret
      exact EX.out
end Go.Proofs.Ytkkigdbinnfbfaa
