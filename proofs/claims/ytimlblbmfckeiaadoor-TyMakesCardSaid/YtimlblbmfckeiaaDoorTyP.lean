/-
  The walks of ty.Plain and ty.Static, with slices.ContainsFunc and IndexFunc, and of the reference's twins. No conditions but that the slice reads as nodes.
-/
import Derived.Test.YtimlblbmfckeiaaDoorTyS
namespace Go.Proofs.YtimlblbmfckeiaaDoor.L
open Go

def varN (x : Nd) : Bool := decide (x.kind = 8) || decide (x.kind = 9)
def dynN (x : Nd) : Bool := decide (x.kind = 0)
def plainL (l : List Nd) : Bool := !(l.any varN)
def staticL (l : List Nd) : Bool := !(l.any dynN)

theorem any_step {p : Nd → Bool} {l : List Nd} {i : Nat} (h : i < l.length) : (l.drop i).any p = (p l[i] || (l.drop (i + 1)).any p) := by
  rw [List.drop_eq_getElem_cons h, List.any_cons]

end Go.Proofs.YtimlblbmfckeiaaDoor.L
namespace Go.Proofs.YtimlblbmfckeiaaDoor
open Go.RowKit

set_option maxHeartbeats 400000 in
theorem plain1_any (k n : Int) (s : ByteArray) (w : World) : Calls Tryd.prog 44 #[.agg #[.int .i64 k, .string s, .int .i64 n]] w fun e w' => e = .returned (.bool (L.varN ⟨k, s, n⟩)) ∧ Below w.heap.size w w' := by
  by_cases h8 : k = 8
  · subst h8
    go_enter Tryd.func44, Tryd.ntmps44
    go_wp2
    go_ret
    exact ⟨rfl, below_new _⟩
  have e8 : (k == 8) = false := by simp; omega
  go_enter Tryd.func44, Tryd.ntmps44
  go_wp2
  go_ret
  refine ⟨ret_bool ?_, below_new _⟩
  rw [Bool.eq_iff_iff]
  simp [L.varN, h8]

set_option maxHeartbeats 400000 in
theorem static1_any (k n : Int) (s : ByteArray) (w : World) : Calls Tryd.prog 45 #[.agg #[.int .i64 k, .string s, .int .i64 n]] w fun e w' => e = .returned (.bool (L.dynN ⟨k, s, n⟩)) ∧ Below w.heap.size w w' := by
  go_enter Tryd.func45, Tryd.ntmps45
  go_wp2
  go_ret
  refine ⟨ret_bool ?_, below_new _⟩
  rw [Bool.eq_iff_iff]
  simp [L.dynN]

set_option maxHeartbeats 4000000 in
set_option maxRecDepth 100000 in
theorem index_plain (l : List L.Nd) (v : Value) (w : World) (hx : Rd w w.heap.size v l) :
    Calls Tryd.prog 63 #[v, .func (.func 44) #[] #[]] w fun e w' => ∃ z : Int, e = .returned (.int .i64 z) ∧ -1 ≤ z ∧ z ≤ maxLen ∧ decide (0 ≤ z) = l.any L.varN ∧ Below w.heap.size w w' := by
  obtain ⟨A, cap, rfl, hl1, hl2, _, hcx⟩ := hx
  unfold maxLen at hl2
  have HCX := hid hcx
  clear hcx
  go_enter Tryd.func63, Tryd.ntmps63
  go_wp2
  go_loopw [8] (fun vi wr => ∃ k : Nat, vi = .int .i64 k ∧ k ≤ l.length ∧ Below w.heap.size w wr ∧ Hid ((l.drop k).any L.varN = l.any L.varN)) (fun vi _ => l.length - (intOf vi).toNat)
  case atStart => exact ⟨0, rfl, by omega, Below.refl _ _, hid rfl⟩
  case round =>
    obtain ⟨k, rfl, hk, hB, hS⟩ := hrel
    by_cases hlt : k < l.length
    · obtain ⟨b, o, hA, hb, hcx⟩ := HCX.out (by rintro rfl; simp at hlt)
      obtain ⟨x0, x1, x2⟩ := hcx k hlt
      have ex : ∀ j, wr.cell? ⟨b, j, none⟩ = w.cell? ⟨b, j, none⟩ := fun j => hB.cell (p := ⟨b, j, none⟩) hb
      rw [← ex] at x0 x1 x2
      subst hA
      have hN : Hid ((l.drop k).any L.varN = (L.varN l[k] || (l.drop (k + 1)).any L.varN)) := hid (L.any_step hlt)
      clear hcx ex
      generalize l[k] = X at *
      obtain ⟨k1, s1, n1⟩ := X
      have hbw := hB.size
      have g1 : b < wr.heap.size := by omega
      have g3 : b ≠ wr.heap.size := by omega
      go_wp2_with fail
      refine (plain1_any _ _ _ _).mono ?_
      rintro e w' ⟨rfl, hb'⟩
      have hB2 : Below w.heap.size w w' := hB.trans (hb'.mono hbw)
      go_wp2
      · go_ret
        refine ⟨_, rfl, by omega, by unfold maxLen; omega, ?_, hB2⟩
        rw [← hS.out, hN.out]
        simp_all
      · go_roundw
        case rel =>
          refine ⟨k + 1, by go_num, by omega, hB2, hid ?_⟩
          rw [← hS.out, hN.out]
          simp_all
        case measure => simp [intOf]; omega
    · go_wp2
      go_ret
      refine ⟨_, rfl, by omega, by unfold maxLen; omega, ?_, hB⟩
      rw [← hS.out, List.drop_eq_nil_of_le (by omega)]
      rfl

set_option maxHeartbeats 1000000 in
theorem contains_plain (l : List L.Nd) (v : Value) (w : World) (hx : Rd w w.heap.size v l) :
    Calls Tryd.prog 43 #[v, .func (.func 44) #[] #[]] w fun e w' => e = .returned (.bool (l.any L.varN)) ∧ Below w.heap.size w w' := by
  have h := hid (index_plain l v w hx)
  obtain ⟨A, cap, rfl, _⟩ := hx
  go_enter Tryd.func43, Tryd.ntmps43
  go_wp2_with fail
  refine (h.out).mono ?_
  rintro e w' ⟨z, rfl, hz1, hz2, hz, hb⟩
  go_wp2
  go_ret
  exact ⟨rfl, hb⟩

set_option maxHeartbeats 1000000 in
theorem plain_any (l : List L.Nd) (v : Value) (w : World) (hx : Rd w w.heap.size v l) :
    Calls Tryd.prog 23 #[v] w fun e w' => e = .returned (.bool (L.plainL l)) ∧ Below w.heap.size w w' := by
  have h := hid (contains_plain l v w hx)
  obtain ⟨A, cap, rfl, _⟩ := hx
  go_enter Tryd.func23, Tryd.ntmps23
  go_wp2_with fail
  refine (h.out).mono ?_
  rintro e w' ⟨rfl, hb⟩
  go_wp2
  go_ret
  exact ⟨rfl, hb⟩

set_option maxHeartbeats 4000000 in
set_option maxRecDepth 100000 in
theorem index_static (l : List L.Nd) (v : Value) (w : World) (hx : Rd w w.heap.size v l) :
    Calls Tryd.prog 63 #[v, .func (.func 45) #[] #[]] w fun e w' => ∃ z : Int, e = .returned (.int .i64 z) ∧ -1 ≤ z ∧ z ≤ maxLen ∧ decide (0 ≤ z) = l.any L.dynN ∧ Below w.heap.size w w' := by
  obtain ⟨A, cap, rfl, hl1, hl2, _, hcx⟩ := hx
  unfold maxLen at hl2
  have HCX := hid hcx
  clear hcx
  go_enter Tryd.func63, Tryd.ntmps63
  go_wp2
  go_loopw [8] (fun vi wr => ∃ k : Nat, vi = .int .i64 k ∧ k ≤ l.length ∧ Below w.heap.size w wr ∧ Hid ((l.drop k).any L.dynN = l.any L.dynN)) (fun vi _ => l.length - (intOf vi).toNat)
  case atStart => exact ⟨0, rfl, by omega, Below.refl _ _, hid rfl⟩
  case round =>
    obtain ⟨k, rfl, hk, hB, hS⟩ := hrel
    by_cases hlt : k < l.length
    · obtain ⟨b, o, hA, hb, hcx⟩ := HCX.out (by rintro rfl; simp at hlt)
      obtain ⟨x0, x1, x2⟩ := hcx k hlt
      have ex : ∀ j, wr.cell? ⟨b, j, none⟩ = w.cell? ⟨b, j, none⟩ := fun j => hB.cell (p := ⟨b, j, none⟩) hb
      rw [← ex] at x0 x1 x2
      subst hA
      have hN : Hid ((l.drop k).any L.dynN = (L.dynN l[k] || (l.drop (k + 1)).any L.dynN)) := hid (L.any_step hlt)
      clear hcx ex
      generalize l[k] = X at *
      obtain ⟨k1, s1, n1⟩ := X
      have hbw := hB.size
      have g1 : b < wr.heap.size := by omega
      have g3 : b ≠ wr.heap.size := by omega
      go_wp2_with fail
      refine (static1_any _ _ _ _).mono ?_
      rintro e w' ⟨rfl, hb'⟩
      have hB2 : Below w.heap.size w w' := hB.trans (hb'.mono hbw)
      go_wp2
      · go_ret
        refine ⟨_, rfl, by omega, by unfold maxLen; omega, ?_, hB2⟩
        rw [← hS.out, hN.out]
        simp_all
      · go_roundw
        case rel =>
          refine ⟨k + 1, by go_num, by omega, hB2, hid ?_⟩
          rw [← hS.out, hN.out]
          simp_all
        case measure => simp [intOf]; omega
    · go_wp2
      go_ret
      refine ⟨_, rfl, by omega, by unfold maxLen; omega, ?_, hB⟩
      rw [← hS.out, List.drop_eq_nil_of_le (by omega)]
      rfl

set_option maxHeartbeats 1000000 in
theorem contains_static (l : List L.Nd) (v : Value) (w : World) (hx : Rd w w.heap.size v l) :
    Calls Tryd.prog 43 #[v, .func (.func 45) #[] #[]] w fun e w' => e = .returned (.bool (l.any L.dynN)) ∧ Below w.heap.size w w' := by
  have h := hid (index_static l v w hx)
  obtain ⟨A, cap, rfl, _⟩ := hx
  go_enter Tryd.func43, Tryd.ntmps43
  go_wp2_with fail
  refine (h.out).mono ?_
  rintro e w' ⟨z, rfl, hz1, hz2, hz, hb⟩
  go_wp2
  go_ret
  exact ⟨rfl, hb⟩

set_option maxHeartbeats 1000000 in
theorem static_any (l : List L.Nd) (v : Value) (w : World) (hx : Rd w w.heap.size v l) :
    Calls Tryd.prog 24 #[v] w fun e w' => e = .returned (.bool (L.staticL l)) ∧ Below w.heap.size w w' := by
  have h := hid (contains_static l v w hx)
  obtain ⟨A, cap, rfl, _⟩ := hx
  go_enter Tryd.func24, Tryd.ntmps24
  go_wp2_with fail
  refine (h.out).mono ?_
  rintro e w' ⟨rfl, hb⟩
  go_wp2
  go_ret
  exact ⟨rfl, hb⟩

end Go.Proofs.YtimlblbmfckeiaaDoor
