/-
  The walks of the reference's Same and One, and of the statements' named. No conditions but that the slices read as nodes.
-/
import Derived.Test.YtimlblbmfckeiaaDoorTyP
import Derived.BigQuiet
import Derived.RegionTactic
import Derived.ChangeAlike
namespace Go.Proofs.YtimlblbmfckeiaaDoor.L
open Go

/-- Are all labels short, and not too many nodes? -/
def namedL (l : List Nd) : Bool := decide (l.length ≤ 200) && l.all fun x => decide (x.name.size ≤ 200)

theorem eq_step {a b : List Nd} {i : Nat} (ha : i < a.length) (hb : i < b.length) : decide (a.drop i = b.drop i) = (decide (a[i] = b[i]) && decide (a.drop (i + 1) = b.drop (i + 1))) := by
  rw [List.drop_eq_getElem_cons ha, List.drop_eq_getElem_cons hb, Bool.eq_iff_iff]
  simp only [decide_eq_true_eq, Bool.and_eq_true, List.cons.injEq]

end Go.Proofs.YtimlblbmfckeiaaDoor.L
namespace Go.Proofs.YtimlblbmfckeiaaDoor
open Go.RowKit

theorem below_drewN {B : Nat} {a w : World} (h : Below B a w) (n : Nat) : Below B a (w.drewN n) := ⟨h.os, h.tape, h.output, h.size, h.block⟩

set_option maxHeartbeats 4000000 in
set_option maxRecDepth 100000 in
theorem one_any (x y : List L.Nd) (vx vy : Value) (w : World) (hx : Rd w w.heap.size vx x) (hy : Rd w w.heap.size vy y) :
    Calls Tryd.prog 16 #[vx, vy] w fun e w' => e = .returned (.bool (decide (x = y))) ∧ Below w.heap.size w w' := by
  obtain ⟨A, cap, rfl, hl1, hl2, _, hcx⟩ := hx
  obtain ⟨A2, cap2, rfl, hm1, hm2, _, hcy⟩ := hy
  unfold maxLen at hl2 hm2
  have HCX := hid hcx
  have HCY := hid hcy
  clear hcx hcy
  by_cases hlen : x.length = y.length
  · go_enter Tryd.func16, Tryd.ntmps16
    rw [hlen]
    go_wp2
    go_loopw [5] (fun vi wr => ∃ k : Nat, vi = .int .i64 k ∧ k ≤ y.length ∧ Below w.heap.size w wr ∧ Hid (decide (x.drop k = y.drop k) = decide (x = y))) (fun vi _ => y.length - (intOf vi).toNat)
    case atStart => exact ⟨0, rfl, by omega, Below.refl _ _, hid rfl⟩
    case round =>
      obtain ⟨k, rfl, hk, hB, hS⟩ := hrel
      by_cases hlt : k < y.length
      · obtain ⟨b, o, hA, hb, hcx⟩ := HCX.out (by rintro rfl; simp at hlen; omega)
        obtain ⟨b2, o2, hA2, hb2, hcy⟩ := HCY.out (by rintro rfl; simp at hlt)
        obtain ⟨x0, x1, x2⟩ := hcx k (by omega)
        obtain ⟨y0, y1, y2⟩ := hcy k hlt
        have ex : ∀ j, wr.cell? ⟨b, j, none⟩ = w.cell? ⟨b, j, none⟩ := fun j => hB.cell (p := ⟨b, j, none⟩) hb
        have ey : ∀ j, wr.cell? ⟨b2, j, none⟩ = w.cell? ⟨b2, j, none⟩ := fun j => hB.cell (p := ⟨b2, j, none⟩) hb2
        rw [← ex] at x0 x1 x2
        rw [← ey] at y0 y1 y2
        subst hA hA2
        have hN : Hid (decide (x.drop k = y.drop k) = (decide (x[k] = y[k]) && decide (x.drop (k + 1) = y.drop (k + 1)))) := hid (L.eq_step (by omega) hlt)
        clear hcx hcy ex ey
        generalize x[k] = X at *
        generalize y[k] = Y at *
        obtain ⟨k1, s1, n1⟩ := X
        obtain ⟨k2, s2, n2⟩ := Y
        by_cases hne : (⟨k1, s1, n1⟩ : L.Nd) = ⟨k2, s2, n2⟩
        · injection hne with e1 e2 e3
          subst e1 e2 e3
          go_wp2
          go_quiet (fail)
          go_wp2
          go_roundw
          case rel =>
            refine ⟨k + 1, by go_num, by omega, below_drewN hB _, hid ?_⟩
            rw [← hS.out, hN.out]
            simp
          case measure => simp [intOf]; omega
        · have hz : Hid (decide (x = y) = false) := hid (by rw [← hS.out, hN.out]; simp [hne])
          have he := eqS s1 s2
          by_cases h1 : k1 = k2
          · by_cases h2 : s1 = s2
            · have e3 : (n1 == n2) = false := by simp; rintro rfl; exact hne (by rw [h1, h2])
              subst h1 h2
              clear he
              go_wp2
              go_quiet (fail)
              go_wp2
              go_ret
              exact ⟨ret_bool hz.out.symm, below_drewN hB _⟩
            · have e2 : (s1.toList == s2.toList) = false := by rw [he]; simp [h2]
              subst h1
              clear he
              go_wp2
              go_quiet (fail)
              go_wp2
              go_ret
              exact ⟨ret_bool hz.out.symm, below_drewN hB _⟩
          · have e1 : (k1 == k2) = false := by simp; omega
            clear he
            go_wp2
            go_quiet (fail)
            go_wp2
            go_ret
            exact ⟨ret_bool hz.out.symm, below_drewN hB _⟩
      · go_wp2
        go_ret
        refine ⟨ret_bool ?_, hB⟩
        rw [← hS.out, List.drop_eq_nil_of_le (by omega), List.drop_eq_nil_of_le (by omega)]
        rfl
  · go_enter Tryd.func16, Tryd.ntmps16
    have h2 : ((x.length : Int) != (y.length : Int)) = true := by simp; omega
    go_wp2
    go_ret
    refine ⟨ret_bool ?_, Below.refl _ _⟩
    symm
    simp
    rintro rfl
    exact hlen rfl

set_option maxHeartbeats 4000000 in
set_option maxRecDepth 100000 in
theorem named_any (l : List L.Nd) (v : Value) (w : World) (hx : Rd w w.heap.size v l) :
    Calls Tryd.prog 6 #[v] w fun e w' => e = .returned (.bool (L.namedL l)) ∧ w' = w := by
  obtain ⟨A, cap, rfl, hl1, hl2, _, hcx⟩ := hx
  unfold maxLen at hl2
  have HCX := hid hcx
  clear hcx
  go_enter Tryd.func6, Tryd.ntmps6
  go_wp2
  go_loop [3] (fun vi => ∃ k : Nat, vi = .int .i64 k ∧ k ≤ l.length ∧ k ≤ 200 ∧ Hid (∀ (j : Nat) (h : j < l.length), j < k → l[j].name.size ≤ 200)) (fun vi => l.length - (intOf vi).toNat)
  case atStart => exact ⟨0, rfl, by omega, by omega, hid fun j _ h => by omega⟩
  case round =>
    obtain ⟨k, rfl, hk, hk2, hS⟩ := hrel
    by_cases hlt : k < l.length
    · by_cases h200 : k = 200
      · subst h200
        go_wp2
        go_ret
        refine ⟨ret_bool ?_, rfl⟩
        symm
        simp [L.namedL]
        omega
      · obtain ⟨b, o, hA, hb, hcx⟩ := HCX.out (by rintro rfl; simp at hlt)
        obtain ⟨x0, x1, x2⟩ := hcx k hlt
        subst hA
        have e200 : ((k : Int) == 200) = false := by simp; omega
        have HM : Hid (l[k] ∈ l) := hid (List.getElem_mem hlt)
        have HL : Hid (∀ (j : Nat) (h : j < l.length), j < k + 1 → l[k].name.size ≤ 200 → l[j].name.size ≤ 200) := hid fun j hj hjk hx => by
          rcases Nat.lt_or_ge j k with hh | hh
          · exact hS.out j hj hh
          · have : j = k := by omega
            subst this
            exact hx
        clear hcx
        generalize l[k] = X at *
        obtain ⟨k1, s1, n1⟩ := X
        by_cases h2 : 200 < s1.size
        · go_wp2
          go_ret
          refine ⟨ret_bool ?_, rfl⟩
          symm
          simp only [L.namedL, Bool.and_eq_false_iff, List.all_eq_false]
          exact Or.inr ⟨_, HM.out, by simp; omega⟩
        · have h3 : s1.size ≤ 200 := by omega
          go_wp2
          go_round
          case rel => exact ⟨k + 1, by go_num, by omega, by omega, hid fun j hj hjk => HL.out j hj hjk h3⟩
          case measure => simp [intOf]; omega
    · go_wp2
      go_ret
      refine ⟨ret_bool ?_, rfl⟩
      symm
      simp only [L.namedL, Bool.and_eq_true, decide_eq_true_eq, List.all_eq_true]
      refine ⟨by omega, fun x hx => ?_⟩
      obtain ⟨j, hj, rfl⟩ := List.getElem_of_mem hx
      exact hS.out j hj (by omega)

end Go.Proofs.YtimlblbmfckeiaaDoor
