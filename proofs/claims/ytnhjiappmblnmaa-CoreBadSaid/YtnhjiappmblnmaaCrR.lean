/-
  The walks of the reference's In, Set, Part, Fits, Few, Ints, Without, With. Conditions: rows of at most 2000 numbers.
-/
import Derived.Test.YtnhjiappmblnmaaCrA
import Derived.Deep.QuietTactic
namespace Go.Proofs.Ytnhjiappmblnmaa.Cr
open Go
theorem rise_of : ∀ {s : List Int}, (∀ (j : Nat) (h : j + 1 < s.length), s[j] < s[j + 1]) → isSet s
  | [], _ => List.Pairwise.nil
  | [x], _ => List.pairwise_singleton _ _
  | x :: y :: r, h => by
    have ih : isSet (y :: r) := rise_of fun j hj => by
      have := h (j + 1) (by simpa using hj)
      simpa using this
    unfold isSet at ih ⊢
    rw [List.pairwise_cons]
    refine ⟨fun a ha => ?_, ih⟩
    have h0 : x < y := by simpa using h 0 (by simp)
    rcases List.mem_cons.1 ha with rfl | ha
    · exact h0
    · have := (List.pairwise_cons.1 ih).1 a ha; omega
theorem rise_at {s : List Int} (h : isSet s) (j : Nat) (hj : j + 1 < s.length) : s[j] < s[j + 1] := (List.pairwise_iff_getElem.1 h) j (j + 1) (by omega) hj (by omega)
/-- Few sets, of few numbers. -/
def fewB (l : List (List Int)) : Bool := decide (l.length ≤ 20) && l.all fun b => decide (b.length ≤ 20) && setB b
theorem fewB_iff (l : List (List Int)) : fewB l = true ↔ l.length ≤ 20 ∧ ∀ b ∈ l, b.length ≤ 20 ∧ isSet b := by
  unfold fewB
  rw [Bool.and_eq_true, List.all_eq_true, decide_eq_true_eq]
  simp only [Bool.and_eq_true, decide_eq_true_eq, setB_iff]
theorem subB_nil (t : List Int) : subB [] t = true := rfl
/-- Insertion with a mark whether it has been put. -/
def insM (n : Int) (put : Bool) : List Int → List Int
  | [] => if put then [] else [n]
  | x :: r => if !put && decide (n < x) then n :: x :: insM n true r else x :: insM n put r
theorem insM_put (n : Int) : ∀ r : List Int, insM n true r = r
  | [] => rfl
  | x :: r => by simp [insM, insM_put n r]
theorem insM_not (n : Int) : ∀ r : List Int, insM n false r = insS n r
  | [] => rfl
  | x :: r => by
    unfold insM insS
    by_cases h : n < x
    · simp [h, insM_put]
    · simp [h, insM_not n r]
theorem insM_with (n : Int) (s : List Int) : insM n (decide (n ∈ s)) s = withL s n := by
  unfold withL
  by_cases h : n ∈ s
  · rw [if_pos h, decide_eq_true h, insM_put]
  · rw [if_neg h, decide_eq_false h, insM_not]
end Go.Proofs.Ytnhjiappmblnmaa.Cr
namespace Go.Proofs.Ytnhjiappmblnmaa
open Go.RowKit

set_option maxHeartbeats 2000000 in
set_option maxRecDepth 100000 in
theorem in_any {B : Nat} (zs : List Int) (n : Int) (v : Value) (w : World) (h : RdZ w B v zs) :
    Calls Try.prog 30 #[v, .int .i64 n] w fun e w' => e = .returned (.bool (decide (n ∈ zs))) ∧ w = w' := by
  have HO := hid h
  obtain ⟨A, cap, rfl, h1, h2⟩ := h.val
  unfold maxLen at h2
  clear h
  go_enter Try.func30, Try.ntmps30
  go_wp2
  go_loop [5] (fun v5 => ∃ k : Nat, v5 = .int .i64 k ∧ k ≤ zs.length ∧ Hid (n ∉ zs.take k)) (fun v5 => zs.length - (intOf v5).toNat)
  case atStart => exact ⟨0, rfl, by omega, hid (by simp)⟩
  case round =>
    obtain ⟨k, rfl, hk, hN⟩ := hrel
    by_cases hlt : k < zs.length
    · have hkz : (k : Int) < (zs.length : Int) := by omega
      obtain ⟨g, o, rfl, -, c0⟩ := HO.out.atv (Below.refl _ _) hlt
      have hst : zs.take (k + 1) = zs.take k ++ [zs[k]] := List.take_succ_eq_append_getElem hlt
      have HST := hid hst
      have HM := hid (show zs[k] ∈ zs from List.getElem_mem hlt)
      generalize zs[k] = x at *
      clear hst
      by_cases hx : x = n
      · subst hx
        have e1 : Hid (decide (x ∈ zs) = true) := hid (decide_eq_true HM.out)
        go_wp2
        go_ret
        exact ⟨ret_bool (by rw [e1.out]), rfl⟩
      · have ex : (x == n) = false := by simpa using hx
        have HN2 := hid (show n ∉ zs.take (k + 1) from by rw [HST.out]; simp [hN.out]; exact fun e => hx e.symm)
        clear hx hN
        go_wp2
        go_round
        case rel => exact ⟨k + 1, by go_num, by omega, HN2⟩
        case measure => simp [intOf]; omega
    · have hkz : ¬ (k : Int) < (zs.length : Int) := by omega
      have e1 : Hid (decide (n ∈ zs) = false) := hid (by
        have := hN.out
        rw [List.take_of_length_le (by omega)] at this
        exact decide_eq_false this)
      clear hN
      go_wp2
      go_ret
      exact ⟨ret_bool (by rw [e1.out]), rfl⟩

set_option maxHeartbeats 2000000 in
set_option maxRecDepth 100000 in
theorem part_any {B C : Nat} (s t : List Int) (v u : Value) (w : World) (hv : RdZ w B v s) (hu : RdZ w C u t) :
    Calls Try.prog 23 #[v, u] w fun e w' => e = .returned (.bool (Cr.subB s t)) ∧ w = w' := by
  have HO := hid hv
  have HU := hid hu
  obtain ⟨A, cap, rfl, h1, h2⟩ := hv.val
  obtain ⟨A2, cap2, rfl, -⟩ := hu.val
  unfold maxLen at h2
  clear hv hu
  go_enter Try.func23, Try.ntmps23
  go_wp2
  go_loop [5] (fun v5 => ∃ k : Nat, v5 = .int .i64 k ∧ k ≤ s.length ∧ Hid (∀ x ∈ s.take k, x ∈ t)) (fun v5 => s.length - (intOf v5).toNat)
  case atStart => exact ⟨0, rfl, by omega, hid (by simp)⟩
  case round =>
    obtain ⟨k, rfl, hk, hN⟩ := hrel
    by_cases hlt : k < s.length
    · have hkz : (k : Int) < (s.length : Int) := by omega
      obtain ⟨g, o, rfl, -, c0⟩ := HO.out.atv (Below.refl _ _) hlt
      have hst : s.take (k + 1) = s.take k ++ [s[k]] := List.take_succ_eq_append_getElem hlt
      have HST := hid hst
      have HM := hid (show s[k] ∈ s from List.getElem_mem hlt)
      generalize s[k] = x at *
      have HI := hid (in_any t x _ w HU.out)
      obtain ⟨q, hq⟩ : ∃ q, decide (x ∈ t) = q := ⟨_, rfl⟩
      rw [hq] at HI
      have HQ := hid hq
      clear hst hq
      go_wp2_with fail
      refine (HI.out).mono ?_
      rintro e w' ⟨rfl, rfl⟩
      cases q with
      | true =>
        have HN2 := hid (show ∀ y ∈ s.take (k + 1), y ∈ t from fun y hy => by
          rw [HST.out, List.mem_append, List.mem_singleton] at hy
          rcases hy with h | h
          · exact hN.out y h
          · rw [h]; exact of_decide_eq_true HQ.out)
        clear hN
        go_wp2
        go_round
        case rel => exact ⟨k + 1, by go_num, by omega, HN2⟩
        case measure => simp [intOf]; omega
      | false =>
        have HE := hid (show Cr.subB s t = false by
          rw [Bool.eq_false_iff]
          intro h
          exact absurd ((Cr.subB_iff _ _).1 h x HM.out) (of_decide_eq_false HQ.out))
        clear hN
        go_wp2
        go_ret
        exact ⟨ret_bool HE.out.symm, rfl⟩
    · have hkz : ¬ (k : Int) < (s.length : Int) := by omega
      have HE := hid (show Cr.subB s t = true by
        have := hN.out
        rw [List.take_of_length_le (by omega)] at this
        exact (Cr.subB_iff _ _).2 this)
      clear hN
      go_wp2
      go_ret
      exact ⟨ret_bool HE.out.symm, rfl⟩

set_option maxHeartbeats 2000000 in
set_option maxRecDepth 100000 in
theorem rfits_any (bad : List (List Int)) (s : List Int) (u v : Value) (w : World) (hu : RdZZ w w.heap.size u bad) (hv : RdZ w w.heap.size v s) :
    Calls Try.prog 16 #[u, v] w fun e w' => e = .returned (.bool (Cr.fitsB bad s)) ∧ w = w' := by
  have HO := hid hv
  have HU := hid hu
  obtain ⟨A, cap, rfl, h1, h2⟩ := hu.val
  obtain ⟨A2, cap2, rfl, -⟩ := hv.val
  unfold maxLen at h2
  clear hv hu
  go_enter Try.func16, Try.ntmps16
  go_wp2
  go_loop [5] (fun v5 => ∃ k : Nat, v5 = .int .i64 k ∧ k ≤ bad.length ∧ Hid (∀ b ∈ bad.take k, Cr.subB b s = false)) (fun v5 => bad.length - (intOf v5).toNat)
  case atStart => exact ⟨0, rfl, by omega, hid (by simp)⟩
  case round =>
    obtain ⟨k, rfl, hk, hN⟩ := hrel
    by_cases hlt : k < bad.length
    · have hkz : (k : Int) < (bad.length : Int) := by omega
      obtain ⟨g, o, A', c', rfl, -, c0, hr⟩ := HU.out.atv (Below.refl _ _) hlt
      have hst : bad.take (k + 1) = bad.take k ++ [bad[k]] := List.take_succ_eq_append_getElem hlt
      have HST := hid hst
      have HM := hid (show bad[k] ∈ bad from List.getElem_mem hlt)
      generalize bad[k] = x at *
      have HI := hid (part_any x s _ _ w hr HO.out)
      obtain ⟨q, hq⟩ : ∃ q, Cr.subB x s = q := ⟨_, rfl⟩
      rw [hq] at HI
      have HQ := hid hq
      clear hst hq hr
      go_wp2_with fail
      refine (HI.out).mono ?_
      rintro e w' ⟨rfl, rfl⟩
      cases q with
      | false =>
        have HN2 := hid (show ∀ y ∈ bad.take (k + 1), Cr.subB y s = false from fun y hy => by
          rw [HST.out, List.mem_append, List.mem_singleton] at hy
          rcases hy with h | h
          · exact hN.out y h
          · rw [h]; exact HQ.out)
        clear hN
        go_wp2
        go_round
        case rel => exact ⟨k + 1, by go_num, by omega, HN2⟩
        case measure => simp [intOf]; omega
      | true =>
        have HE := hid (show Cr.fitsB bad s = false by
          rw [Bool.eq_false_iff]
          intro h
          exact (Cr.fitsB_iff _ _).1 h x HM.out ((Cr.subB_iff _ _).1 HQ.out))
        clear hN
        go_wp2
        go_ret
        exact ⟨ret_bool HE.out.symm, rfl⟩
    · have hkz : ¬ (k : Int) < (bad.length : Int) := by omega
      have HE := hid (show Cr.fitsB bad s = true by
        have := hN.out
        rw [List.take_of_length_le (by omega)] at this
        rw [Cr.fitsB_iff]
        intro b hb g
        have := this b hb
        rw [(Cr.subB_iff _ _).2 g] at this
        cases this)
      clear hN
      go_wp2
      go_ret
      exact ⟨ret_bool HE.out.symm, rfl⟩

set_option maxHeartbeats 2000000 in
set_option maxRecDepth 100000 in
theorem rset_any (s : List Int) (hl : s.length ≤ 1000000) (v : Value) (w : World) (hv : RdZ w w.heap.size v s) :
    Calls Try.prog 22 #[v] w fun e w' => e = .returned (.bool (Cr.setB s)) ∧ Below w.heap.size w w' := by
  have HO := hid hv
  obtain ⟨A, cap, rfl, h1, h2⟩ := hv.val
  clear hv
  go_enter Try.func22, Try.ntmps22
  go_wp2
  go_loopw [3] (fun v3 wr => ∃ k : Nat, v3 = .int .i64 k ∧ 1 ≤ k ∧ k ≤ s.length + 1 ∧ Hid (∀ (j : Nat) (h : j + 1 < s.length), j + 1 < k → s[j] < s[j + 1]) ∧ Hid (Below w.heap.size w wr)) (fun v3 _ => s.length + 1 - (intOf v3).toNat)
  case atStart => exact ⟨1, rfl, by omega, by omega, hid (fun j h hj => by omega), hid (Below.refl _ _)⟩
  case round =>
    obtain ⟨k, rfl, hk1, hk, hN, hB⟩ := hrel
    obtain ⟨wo, hwo⟩ : ∃ wo : World, wo = wr := ⟨_, rfl⟩
    subst hwo
    by_cases hlt : k < s.length
    · have hkz : (k : Int) < (s.length : Int) := by omega
      obtain ⟨p, rfl⟩ : ∃ p, k = p + 1 := ⟨k - 1, by omega⟩
      have hp : p < s.length := by omega
      have hpz : (p : Int) < (s.length : Int) := by omega
      obtain ⟨g, o, rfl, -, c0⟩ := HO.out.atv hB.out hp
      obtain ⟨g', o', e', -, c1⟩ := HO.out.atv hB.out hlt
      simp only [Option.some.injEq, Addr.mk.injEq, and_true] at e'
      obtain ⟨rfl, rfl⟩ := e'
      have HST := hid (show ∀ a b, s[p] = a → s[p + 1] = b → a < b → ∀ (j : Nat) (h : j + 1 < s.length), j + 1 < p + 1 + 1 → s[j] < s[j + 1] from fun a b ha hb hab j h hj => by
        by_cases e : j = p
        · subst e; rw [ha, hb]; exact hab
        · exact hN.out j h (by omega))
      have HNO := hid (show ∀ a b, s[p] = a → s[p + 1] = b → ¬ a < b → Cr.setB s = false from fun a b ha hb hab => by
        rw [Bool.eq_false_iff]
        intro h
        have := Cr.rise_at ((Cr.setB_iff s).1 h) p hlt
        rw [ha, hb] at this
        exact hab this)
      obtain ⟨x, hx⟩ : ∃ x, s[p] = x := ⟨_, rfl⟩
      obtain ⟨y, hy⟩ : ∃ y, s[p + 1] = y := ⟨_, rfl⟩
      rw [hx] at c0
      rw [hy] at c1
      have HX := hid hx
      have HY := hid hy
      have e1 : IntKind.i64.wrap ((((p + 1 : Nat) : Int)) - 1) = (p : Int) := by rw [IntWalk.i64_in _ (by omega)]; omega
      obtain ⟨m, hm⟩ : ∃ m, s.length = m := ⟨_, rfl⟩
      clear hx hy e1 hN hm
      by_cases hxy : x < y
      · have hb : decide (y ≤ x) = false := decide_eq_false (by omega)
        have hb2 : ¬ y ≤ x := by omega
        have HN2 := hid (HST.out x y HX.out HY.out hxy)
        clear hxy
        go_wp2_with fail
        go_quiet (fail)
        obtain ⟨wq, hwq⟩ : ∃ wq, wo.drewN nq = wq := ⟨_, rfl⟩
        have HQ := hid (show Below w.heap.size w wq from hwq ▸ below_drewN hB.out _)
        rw [hwq]
        clear hwq c0 c1 hb hb2
        go_wp2_with fail
        go_roundw
        case rel => exact ⟨p + 1 + 1, by go_num, by omega, by omega, HN2, HQ⟩
        case measure => simp [intOf]; omega
      · have hb : decide (y ≤ x) = true := decide_eq_true (by omega)
        have hb2 : y ≤ x := by omega
        have HE := hid (HNO.out x y HX.out HY.out hxy)
        clear hxy
        go_wp2_with fail
        go_quiet (fail)
        obtain ⟨wq, hwq⟩ : ∃ wq, wo.drewN nq = wq := ⟨_, rfl⟩
        have HQ := hid (show Below w.heap.size w wq from hwq ▸ below_drewN hB.out _)
        rw [hwq]
        clear hwq c0 c1 hb hb2
        go_wp2_with fail
        go_ret
        exact ⟨ret_bool HE.out.symm, HQ.out⟩
    · have hkz : ¬ (k : Int) < (s.length : Int) := by omega
      have HE := hid (show Cr.setB s = true from (Cr.setB_iff s).2 (Cr.rise_of fun j h => hN.out j h (by omega)))
      clear hN
      go_wp2_with fail
      go_ret
      exact ⟨ret_bool HE.out.symm, hB.out⟩
end Go.Proofs.Ytnhjiappmblnmaa
