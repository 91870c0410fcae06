/-
  The walks of End, ty's and the reference's, and of ty.isNode. Conditions: at most 20000 nodes, each of which has from 0 to 50 children.
-/
import Derived.Test.YtimlblbmfckeiaaDoorTyR
namespace Go.Proofs.YtimlblbmfckeiaaDoor
open Go.RowKit

/-- Nodes that have from 0 to 50 children, not too many. -/
def Few (l : List L.Nd) : Prop := l.length ≤ 20000 ∧ ∀ x ∈ l, 0 ≤ L.many x ∧ L.many x ≤ 50

theorem isNode_yes (l : List L.Nd) (A : Option Addr) (cap : Nat) (p : Nat) (hp : p < l.length) (w : World) :
    Calls Tryd.prog 36 #[.slice A l.length cap, .int .i64 p] w fun e w' => e = .returned (.bool true) ∧ w = w' := by
  go_enter Tryd.func36, Tryd.ntmps36
  go_wp2
  go_ret
  exact ⟨ret_bool (by simp), rfl⟩
theorem isNode_no (l : List L.Nd) (A : Option Addr) (cap : Nat) (i : Int) (hp : ¬ (0 ≤ i ∧ i < l.length)) (w : World) :
    Calls Tryd.prog 36 #[.slice A l.length cap, .int .i64 i] w fun e w' => e = .returned (.bool false) ∧ w = w' := by
  by_cases h0 : 0 ≤ i
  · go_enter Tryd.func36, Tryd.ntmps36
    go_wp2
    go_ret
    exact ⟨ret_bool (by first | (simp; done) | (simp; omega)), rfl⟩
  · go_enter Tryd.func36, Tryd.ntmps36
    go_wp2
    go_ret
    exact ⟨ret_bool (by first | (simp; done) | (simp; omega)), rfl⟩

set_option maxHeartbeats 2000000 in
set_option maxRecDepth 100000 in
theorem end_any (l : List L.Nd) (hF : Few l) (v : Value) (p : Nat) (hp : p < l.length) (w : World) (hx : Rd w w.heap.size v l) :
    Calls Tryd.prog 11 #[v, .int .i64 p] w fun e w' => e = .returned (.int .i64 ((p + L.eat 1 (l.drop p) : Nat) : Int)) ∧ Below w.heap.size w w' := by
  obtain ⟨A, cap, rfl, hl1, hl2, _, hcx⟩ := hx
  unfold maxLen at hl2
  obtain ⟨hl, hM⟩ := hF
  have HCX := hid hcx
  have HM := hid hM
  clear hcx hM
  go_enter Tryd.func11, Tryd.ntmps11
  go_wp2_with (go_at_call 36; refine (isNode_yes l A cap p hp _).mono ?_; rintro e w' ⟨rfl, rfl⟩)
  go_loopw [1, 5] (fun vi vc wr => ∃ q c : Nat, vi = .int .i64 q ∧ vc = .int .i64 c ∧ q ≤ l.length ∧ c ≤ 1 + 50 * q ∧ Below w.heap.size w wr ∧ Hid (q + L.eat c (l.drop q) = p + L.eat 1 (l.drop p))) (fun vi _ _ => l.length - (intOf vi).toNat)
  case atStart => exact ⟨p, 1, rfl, rfl, by omega, by omega, Below.refl _ _, hid rfl⟩
  case round =>
    obtain ⟨q, c, rfl, rfl, hq, hc, hB, hE⟩ := hrel
    by_cases h0 : c = 0
    · subst h0
      go_wp2
      go_ret
      refine ⟨ret_int ?_, hB⟩
      rw [← hE.out, L.eat_zero]
      rfl
    by_cases hlt : q < l.length
    · obtain ⟨b, o, rfl, hb, hcx⟩ := HCX.out (by rintro rfl; simp at hlt)
      obtain ⟨x0, x1, x2⟩ := hcx q hlt
      have ex : ∀ j, wr.cell? ⟨b, j, none⟩ = w.cell? ⟨b, j, none⟩ := fun j => hB.cell (p := ⟨b, j, none⟩) hb
      rw [← ex] at x0 x1 x2
      have hm := HM.out _ (List.getElem_mem hlt)
      have hdr : Hid (l.drop q = l[q] :: l.drop (q + 1)) := hid (List.drop_eq_getElem_cons hlt)
      clear hcx ex
      generalize l[q] = X at *
      obtain ⟨k1, s1, n1⟩ := X
      have hmn := many_any k1 n1 s1
      obtain ⟨mm, hmm⟩ : ∃ mm : Nat, L.many ⟨k1, s1, n1⟩ = mm := ⟨(L.many ⟨k1, s1, n1⟩).toNat, by omega⟩
      obtain ⟨c', rfl⟩ : ∃ c', c = c' + 1 := ⟨c - 1, by omega⟩
      have hE2 : Hid (q + (1 + L.eat (c' + mm) (l.drop (q + 1))) = p + L.eat 1 (l.drop p)) := hid (by rw [← hE.out, hdr.out, L.eat, hmm]; rfl)
      rw [hmm] at hmn hm
      have HMN := hid hmn
      have hbw := hB.size
      clear hmn
      go_wp2_with fail
      refine (HMN.out _).mono ?_
      rintro e w1 ⟨rfl, hb1⟩
      have hB1 : Below w.heap.size w w1 := hB.trans (hb1.mono hbw)
      go_wp2
      go_roundw
      case rel => exact ⟨q + 1, c' + mm, by go_num, by go_num, by omega, by omega, hB1, hid (by rw [← hE2.out]; omega)⟩
      case measure => simp [intOf]; omega
    · go_wp2
      go_ret
      refine ⟨ret_int ?_, hB⟩
      rw [← hE.out, List.drop_eq_nil_of_le (by omega), L.eat]
      rfl

set_option maxHeartbeats 2000000 in
set_option maxRecDepth 100000 in
theorem end_out (l : List L.Nd) (v : Value) (i : Int) (hi : ¬ (0 ≤ i ∧ i < l.length)) (w : World) (hx : Rd w w.heap.size v l) :
    Calls Tryd.prog 11 #[v, .int .i64 i] w fun e w' => e = .returned (.int .i64 (-1)) ∧ w = w' := by
  obtain ⟨A, cap, rfl, _⟩ := hx
  go_enter Tryd.func11, Tryd.ntmps11
  go_wp2_with (go_at_call 36; refine (isNode_no l A cap i hi _).mono ?_; rintro e w' ⟨rfl, rfl⟩)
  go_ret
  exact ⟨rfl, rfl⟩

set_option maxHeartbeats 2000000 in
set_option maxRecDepth 100000 in
theorem refEnd_any (l : List L.Nd) (hF : Few l) (v : Value) (p : Nat) (hp : p < l.length) (w : World) (hx : Rd w w.heap.size v l) :
    Calls Tryd.prog 12 #[v, .int .i64 p] w fun e w' => e = .returned (.int .i64 ((p + L.eat 1 (l.drop p) : Nat) : Int)) ∧ Below w.heap.size w w' := by
  obtain ⟨A, cap, rfl, hl1, hl2, _, hcx⟩ := hx
  unfold maxLen at hl2
  obtain ⟨hl, hM⟩ := hF
  have HCX := hid hcx
  have HM := hid hM
  clear hcx hM
  have hd : decide (l.length ≤ p) = false := by simp; omega
  go_enter Tryd.func12, Tryd.ntmps12
  go_wp2
  go_loopw [5, 6] (fun vc vi wr => ∃ q c : Nat, vi = .int .i64 q ∧ vc = .int .i64 ((c + 1 : Nat) : Int) ∧ q ≤ l.length ∧ c ≤ 1 + 50 * q ∧ Below w.heap.size w wr ∧ Hid (q + L.eat (c + 1) (l.drop q) = p + L.eat 1 (l.drop p))) (fun _ vi _ => l.length - (intOf vi).toNat)
  case atStart => exact ⟨p, 0, rfl, rfl, by omega, by omega, Below.refl _ _, hid rfl⟩
  case round =>
    obtain ⟨q, c, rfl, rfl, hq, hc, hB, hE⟩ := hrel
    by_cases hlt : q < l.length
    · obtain ⟨b, o, rfl, hb, hcx⟩ := HCX.out (by rintro rfl; simp at hlt)
      obtain ⟨x0, x1, x2⟩ := hcx q hlt
      have ex : ∀ j, wr.cell? ⟨b, j, none⟩ = w.cell? ⟨b, j, none⟩ := fun j => hB.cell (p := ⟨b, j, none⟩) hb
      rw [← ex] at x0 x1 x2
      have hm := HM.out _ (List.getElem_mem hlt)
      have hdr : Hid (l.drop q = l[q] :: l.drop (q + 1)) := hid (List.drop_eq_getElem_cons hlt)
      clear hcx ex
      generalize l[q] = X at *
      obtain ⟨k1, s1, n1⟩ := X
      have hmn := refMany_any k1 n1 s1
      obtain ⟨mm, hmm⟩ : ∃ mm : Nat, L.many ⟨k1, s1, n1⟩ = mm := ⟨(L.many ⟨k1, s1, n1⟩).toNat, by omega⟩
      have hE2 : Hid (q + (1 + L.eat (c + mm) (l.drop (q + 1))) = p + L.eat 1 (l.drop p)) := hid (by rw [← hE.out, hdr.out, L.eat, hmm]; rfl)
      rw [hmm] at hmn hm
      have HMN := hid hmn
      have hbw := hB.size
      clear hmn
      by_cases hz : c + mm = 0
      · obtain rfl : c = 0 := by omega
        obtain rfl : mm = 0 := by omega
        go_wp2_with fail
        refine (HMN.out _).mono ?_
        rintro e w1 ⟨rfl, hb1⟩
        have hB1 : Below w.heap.size w w1 := hB.trans (hb1.mono hbw)
        go_wp2
        go_ret
        refine ⟨ret_int ?_, hB1⟩
        rw [← hE2.out, L.eat_zero]
        simp
      · go_wp2_with fail
        refine (HMN.out _).mono ?_
        rintro e w1 ⟨rfl, hb1⟩
        have hB1 : Below w.heap.size w w1 := hB.trans (hb1.mono hbw)
        have hz2 : (((c : Int) + 1 - 1 + (mm : Int)) == 0) = false := by simp; omega
        have hz3 : (((c : Int) + (mm : Int)) == 0) = false := by simp; omega
        go_wp2
        go_roundw
        case rel => exact ⟨q + 1, c + mm - 1, by go_num, by go_num, by omega, by omega, hB1, hid (by rw [← hE2.out, show c + mm - 1 + 1 = c + mm by omega]; omega)⟩
        case measure => simp [intOf]; omega
    · go_wp2
      go_ret
      refine ⟨ret_int ?_, hB⟩
      rw [← hE.out, List.drop_eq_nil_of_le (by omega), L.eat]
      simp
      omega

set_option maxHeartbeats 2000000 in
set_option maxRecDepth 100000 in
theorem refEnd_out (l : List L.Nd) (v : Value) (i : Int) (hi : ¬ (0 ≤ i ∧ i < l.length)) (w : World) (hx : Rd w w.heap.size v l) :
    Calls Tryd.prog 12 #[v, .int .i64 i] w fun e w' => e = .returned (.int .i64 (-1)) ∧ w = w' := by
  obtain ⟨A, cap, rfl, _⟩ := hx
  by_cases h0 : i < 0
  · go_enter Tryd.func12, Tryd.ntmps12
    go_wp2
    go_ret
    exact ⟨rfl, rfl⟩
  · have h2 : (l.length : Int) ≤ i := by omega
    go_enter Tryd.func12, Tryd.ntmps12
    go_wp2
    go_ret
    exact ⟨rfl, rfl⟩

end Go.Proofs.YtimlblbmfckeiaaDoor
