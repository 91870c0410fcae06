/-
  The walks of ty.isRow, with slices.ContainsFunc and IndexFunc at texts. Conditions: texts of at most 2000000 bytes, at most 1000000 of them.
-/
import Derived.Test.YtimlblbmfckeiaaDoorTyA
namespace Go.Proofs.YtimlblbmfckeiaaDoor.L
open Go

/-- May a node of this kind have n children of these labels, if none is there twice? -/
def isRow (kind : Int) (ss : List ByteArray) (n : Int) : Bool := (decide (kind = 6) || decide (kind = 7)) && (decide ((ss.length : Int) = n) && (numbered ⟨kind, ⟨#[]⟩, n⟩ && ss.all (isLabel kind)))

theorem anyS_step {p : ByteArray → Bool} {l : List ByteArray} {i : Nat} (h : i < l.length) : (l.drop i).any p = (p l[i] || (l.drop (i + 1)).any p) := by
  rw [List.drop_eq_getElem_cons h, List.any_cons]

end Go.Proofs.YtimlblbmfckeiaaDoor.L
namespace Go.Proofs.YtimlblbmfckeiaaDoor
open Go.RowKit

/-- A slice of texts that is read. -/
def RdS (w : World) (B : Nat) (v : Value) (ss : List ByteArray) : Prop :=
  ∃ (A : Option Addr) (cap : Nat), v = .slice A ss.length cap ∧ (ss ≠ [] → ∃ b o, A = some ⟨b, o, none⟩ ∧ b < B ∧ ∀ (i : Nat) (h : i < ss.length), w.cell? ⟨b, o + i, none⟩ = some (.string ss[i]))

theorem RdS.low {w w' : World} {B : Nat} {v : Value} {l : List ByteArray} (h : RdS w B v l) (hb : Below B w w') : RdS w' B v l := by
  obtain ⟨A, cap, hv, hc⟩ := h
  refine ⟨A, cap, hv, fun hn => ?_⟩
  obtain ⟨b, o, ha, hlt, hx⟩ := hc hn
  refine ⟨b, o, ha, hlt, fun i hi => ?_⟩
  rw [hb.cell (p := ⟨b, o + i, none⟩) hlt]
  exact hx i hi
theorem RdS.more {w : World} {B B' : Nat} {v : Value} {l : List ByteArray} (h : RdS w B v l) (hB : B ≤ B') : RdS w B' v l := by
  obtain ⟨A, cap, hv, hc⟩ := h
  refine ⟨A, cap, hv, fun hn => ?_⟩
  obtain ⟨b, o, ha, hlt, hx⟩ := hc hn
  exact ⟨b, o, ha, by omega, hx⟩
theorem RdS.below {w w' : World} {v : Value} {l : List ByteArray} (h : RdS w w.heap.size v l) (hb : Below w.heap.size w w') : RdS w' w'.heap.size v l := (h.low hb).more hb.size

set_option maxHeartbeats 1000000 in
theorem isRow1_any (kind : Int) (X : Nat) (s : ByteArray) (hs : s.size ≤ 2000000) (w : World) (hc : w.cell? ⟨X, 0, none⟩ = some (.int .i64 kind)) :
    Calls Tryd.prog 56 #[.string s, .pointer (some ⟨X, 0, none⟩)] w fun e w' => e = .returned (.bool (!L.isLabel kind s)) ∧ Below w.heap.size w w' := by
  go_enter Tryd.func56, Tryd.ntmps56
  go_wp2_with fail
  refine (isLabel_any _ _ hs _).mono ?_
  rintro e w' ⟨rfl, hb⟩
  go_wp2
  go_ret
  exact ⟨rfl, hb⟩

set_option maxHeartbeats 4000000 in
set_option maxRecDepth 100000 in
theorem indexS_any (kind : Int) (X : Nat) (ss : List ByteArray) (hsz : ∀ s ∈ ss, s.size ≤ 2000000) (hn : ss.length ≤ 1000000) (v : Value) (w : World) (hx : RdS w w.heap.size v ss) (hX : X < w.heap.size) (hc : w.cell? ⟨X, 0, none⟩ = some (.int .i64 kind)) :
    Calls Tryd.prog 71 #[v, .func (.func 56) #[] #[.pointer (some ⟨X, 0, none⟩)]] w fun e w' => ∃ z : Int, e = .returned (.int .i64 z) ∧ -1 ≤ z ∧ z ≤ 1000000 ∧ decide (0 ≤ z) = ss.any (fun s => !L.isLabel kind s) ∧ Below w.heap.size w w' := by
  obtain ⟨A, cap, rfl, hcx⟩ := hx
  have HCX := hid hcx
  have HSZ := hid hsz
  have HC := hid hc
  clear hcx hsz hc
  go_enter Tryd.func71, Tryd.ntmps71
  go_wp2
  go_loopw [8] (fun vi wr => ∃ k : Nat, vi = .int .i64 k ∧ k ≤ ss.length ∧ Below w.heap.size w wr ∧ Hid ((ss.drop k).any (fun s => !L.isLabel kind s) = ss.any (fun s => !L.isLabel kind s))) (fun vi _ => ss.length - (intOf vi).toNat)
  case atStart => exact ⟨0, rfl, by omega, Below.refl _ _, hid rfl⟩
  case round =>
    obtain ⟨k, rfl, hk, hB, hS⟩ := hrel
    by_cases hlt : k < ss.length
    · obtain ⟨b, o, rfl, hb, hcx⟩ := HCX.out (by rintro rfl; simp at hlt)
      have x0 := (hB.cell (p := ⟨b, o + k, none⟩) hb).trans (hcx k hlt)
      have hN : Hid ((ss.drop k).any (fun s => !L.isLabel kind s) = ((!L.isLabel kind ss[k]) || (ss.drop (k + 1)).any (fun s => !L.isLabel kind s))) := hid (L.anyS_step (p := fun s => !L.isLabel kind s) hlt)
      have hs1 := HSZ.out _ (List.getElem_mem hlt)
      have HCL := hid ((hB.cell (p := ⟨X, 0, none⟩) hX).trans HC.out)
      clear hcx
      generalize ss[k] = S at *
      have HI := hid (isRow1_any kind X S hs1 wr HCL.out)
      have hbw := hB.size
      go_wp2_with fail
      refine (HI.out).mono ?_
      rintro e w' ⟨rfl, hb'⟩
      have hB2 : Below w.heap.size w w' := hB.trans (hb'.mono hbw)
      cases hl : L.isLabel kind S with
      | false =>
        go_wp2
        go_ret
        refine ⟨_, rfl, by omega, by omega, ?_, hB2⟩
        rw [← hS.out, hN.out, hl]
        simp
      | true =>
        go_wp2
        go_roundw
        case rel =>
          refine ⟨k + 1, by go_num, by omega, hB2, hid ?_⟩
          rw [← hS.out, hN.out, hl]
          simp
        case measure => simp [intOf]; omega
    · go_wp2
      go_ret
      refine ⟨_, rfl, by omega, by omega, ?_, hB⟩
      rw [← hS.out, List.drop_eq_nil_of_le (by omega)]
      rfl

set_option maxHeartbeats 1000000 in
theorem containsS_any (kind : Int) (X : Nat) (ss : List ByteArray) (hsz : ∀ s ∈ ss, s.size ≤ 2000000) (hn : ss.length ≤ 1000000) (v : Value) (w : World) (hx : RdS w w.heap.size v ss) (hX : X < w.heap.size) (hc : w.cell? ⟨X, 0, none⟩ = some (.int .i64 kind)) :
    Calls Tryd.prog 58 #[v, .func (.func 56) #[] #[.pointer (some ⟨X, 0, none⟩)]] w fun e w' => e = .returned (.bool (!ss.all (L.isLabel kind))) ∧ Below w.heap.size w w' := by
  have h := hid (indexS_any kind X ss hsz hn v w hx hX hc)
  obtain ⟨A, cap, rfl, -⟩ := hx
  have HE : Hid (ss.any (fun s => !L.isLabel kind s) = !ss.all (L.isLabel kind)) := hid (by rw [List.not_all_eq_any_not])
  clear hsz hc
  go_enter Tryd.func58, Tryd.ntmps58
  go_wp2_with fail
  refine (h.out).mono ?_
  rintro e w' ⟨z, rfl, hz1, hz2, hz, hb⟩
  go_wp2
  go_ret
  exact ⟨ret_bool HE.out, hb⟩

set_option maxHeartbeats 4000000 in
set_option maxRecDepth 100000 in
theorem isRow_any (kind n : Int) (ss : List ByteArray) (hsz : ∀ s ∈ ss, s.size ≤ 2000000) (hn : ss.length ≤ 1000000) (v : Value) (w : World) (hx : RdS w w.heap.size v ss) :
    Calls Tryd.prog 39 #[.int .i64 kind, v, .int .i64 n] w fun e w' => e = .returned (.bool (L.isRow kind ss n)) ∧ Below w.heap.size w w' := by
  have HX := hid hx
  have HSZ := hid hsz
  obtain ⟨A, cap, rfl, -⟩ := hx
  clear hsz
  by_cases h6 : kind = 6
  · subst h6
    by_cases hlen : (ss.length : Int) = n
    · subst hlen
      have hu := numbered_any 6 (ss.length : Int) ⟨#[]⟩
      cases hnum : L.numbered ⟨6, ⟨#[]⟩, (ss.length : Int)⟩ with
      | false =>
        simp only [hnum] at hu
        have HU := hid hu
        have HZ : Hid (L.isRow 6 ss (ss.length : Int) = false) := hid (by simp [L.isRow, hnum])
        clear hu hnum
        go_enter Tryd.func39, Tryd.ntmps39
        go_wp2_with fail
        refine (HU.out _).mono ?_
        rintro e w1 ⟨rfl, hb1⟩
        go_wp2
        go_ret
        exact ⟨ret_bool HZ.out.symm, (below_new _).trans (hb1.mono (by simp))⟩
      | true =>
        simp only [hnum] at hu
        have HU := hid hu
        have HZ : Hid (L.isRow 6 ss (ss.length : Int) = ss.all (L.isLabel 6)) := hid (by simp [L.isRow, hnum])
        clear hu hnum
        go_enter Tryd.func39, Tryd.ntmps39
        go_wp2_with fail
        refine (HU.out _).mono ?_
        rintro e w1 ⟨rfl, hb1⟩
        have hB1 : Below w.heap.size w w1 := (below_new _).trans (hb1.mono (by simp))
        have hc1 : w1.cell? ⟨w.heap.size, 0, none⟩ = some (.int .i64 6) := by
          rw [hb1.cell (p := ⟨w.heap.size, 0, none⟩) (by simp)]
          simp
        have HCO := hid (containsS_any 6 w.heap.size ss HSZ.out hn _ w1 (HX.out.below hB1) (by have := hb1.size; simp at this; omega) hc1)
        go_wp2_with fail
        refine (HCO.out).mono ?_
        rintro e w2 ⟨rfl, hb2⟩
        go_wp2
        go_ret
        exact ⟨ret_bool (by rw [HZ.out]), hB1.trans (hb2.mono hB1.size)⟩
    · have hl2 : ((ss.length : Int) == n) = false := by simp [hlen]
      have HZ : Hid (L.isRow 6 ss n = false) := hid (by simp [L.isRow, hlen])
      go_enter Tryd.func39, Tryd.ntmps39
      go_wp2
      go_ret
      exact ⟨ret_bool HZ.out.symm, below_new _⟩
  by_cases h7 : kind = 7
  · subst h7
    by_cases hlen : (ss.length : Int) = n
    · subst hlen
      have hu := numbered_any 7 (ss.length : Int) ⟨#[]⟩
      cases hnum : L.numbered ⟨7, ⟨#[]⟩, (ss.length : Int)⟩ with
      | false =>
        simp only [hnum] at hu
        have HU := hid hu
        have HZ : Hid (L.isRow 7 ss (ss.length : Int) = false) := hid (by simp [L.isRow, hnum])
        clear hu hnum
        go_enter Tryd.func39, Tryd.ntmps39
        go_wp2_with fail
        refine (HU.out _).mono ?_
        rintro e w1 ⟨rfl, hb1⟩
        go_wp2
        go_ret
        exact ⟨ret_bool HZ.out.symm, (below_new _).trans (hb1.mono (by simp))⟩
      | true =>
        simp only [hnum] at hu
        have HU := hid hu
        have HZ : Hid (L.isRow 7 ss (ss.length : Int) = ss.all (L.isLabel 7)) := hid (by simp [L.isRow, hnum])
        clear hu hnum
        go_enter Tryd.func39, Tryd.ntmps39
        go_wp2_with fail
        refine (HU.out _).mono ?_
        rintro e w1 ⟨rfl, hb1⟩
        have hB1 : Below w.heap.size w w1 := (below_new _).trans (hb1.mono (by simp))
        have hc1 : w1.cell? ⟨w.heap.size, 0, none⟩ = some (.int .i64 7) := by
          rw [hb1.cell (p := ⟨w.heap.size, 0, none⟩) (by simp)]
          simp
        have HCO := hid (containsS_any 7 w.heap.size ss HSZ.out hn _ w1 (HX.out.below hB1) (by have := hb1.size; simp at this; omega) hc1)
        go_wp2_with fail
        refine (HCO.out).mono ?_
        rintro e w2 ⟨rfl, hb2⟩
        go_wp2
        go_ret
        exact ⟨ret_bool (by rw [HZ.out]), hB1.trans (hb2.mono hB1.size)⟩
    · have hl2 : ((ss.length : Int) == n) = false := by simp [hlen]
      have HZ : Hid (L.isRow 7 ss n = false) := hid (by simp [L.isRow, hlen])
      go_enter Tryd.func39, Tryd.ntmps39
      go_wp2
      go_ret
      exact ⟨ret_bool HZ.out.symm, below_new _⟩
  have e6 : (kind != 6) = true := by simp; omega
  have e7 : (kind != 7) = true := by simp; omega
  have HZ : Hid (L.isRow kind ss n = false) := hid (by simp [L.isRow, h6, h7])
  go_enter Tryd.func39, Tryd.ntmps39
  go_wp2
  go_ret
  exact ⟨ret_bool HZ.out.symm, below_new _⟩

end Go.Proofs.YtimlblbmfckeiaaDoor
