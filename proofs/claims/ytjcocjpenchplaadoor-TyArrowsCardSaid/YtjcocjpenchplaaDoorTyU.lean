/-
  The walk of the reference's Same. No conditions but that the slices read as nodes.
-/
import Derived.Test.YtjcocjpenchplaaDoorTyT
namespace Go.Proofs.YtjcocjpenchplaaDoor
open Go.RowKit

set_option maxHeartbeats 8000000 in
set_option maxRecDepth 100000 in
theorem refSame_any (x y : List L.Nd) (vx vy : Value) (w : World) (hx : Rd w w.heap.size vx x) (hy : Rd w w.heap.size vy y) :
    Calls Tryd.prog 19 #[vx, vy] w fun e w' => e = .returned (.bool (L.sameL x y)) ∧ Below w.heap.size w w' := by
  obtain ⟨A, cap, rfl, hl1, hl2, _, hcx⟩ := hx
  obtain ⟨A2, cap2, rfl, hm1, hm2, _, hcy⟩ := hy
  unfold maxLen at hl2 hm2
  have HCX := hid hcx
  have HCY := hid hcy
  clear hcx hcy
  by_cases hlen : x.length = y.length
  · go_enter Tryd.func19, Tryd.ntmps19
    rw [hlen]
    go_wp2
    go_loopw [5] (fun vi wr => ∃ k : Nat, vi = .int .i64 k ∧ k ≤ y.length ∧ Below w.heap.size w wr ∧ Hid (L.sameL (x.drop k) (y.drop k) = L.sameL x y)) (fun vi _ => y.length - (intOf vi).toNat)
    case atStart => exact ⟨0, rfl, by omega, Below.refl _ _, hid rfl⟩
    case round =>
      obtain ⟨k, rfl, hk, hB, hS⟩ := hrel
      by_cases hlt : k < y.length
      · obtain ⟨b, o, hA, hb, hcx⟩ := HCX.out (by rintro rfl; simp at hlen; omega)
        obtain ⟨b2, o2, hA2, hb2, hcy⟩ := HCY.out (by rintro rfl; simp at hlt)
        obtain ⟨x0, x1, x2⟩ := hcx k (by omega)
        obtain ⟨y0, y1, y2⟩ := hcy k hlt
        have ex : ∀ j, wr.cell? ⟨b, j, none⟩ = w.cell? ⟨b, j, none⟩ := fun j => hB.cell (p := ⟨b, j, none⟩) hb
        have ey : ∀ j, wr.cell? ⟨b2, j, none⟩ = w.cell? ⟨b2, j, none⟩ := fun j => hB.cell (p := ⟨b2, j, none⟩) hb2
        rw [← ex] at x0 x1 x2
        rw [← ey] at y0 y1 y2
        subst hA hA2
        have hN : Hid (L.sameL (x.drop k) (y.drop k) = (L.sameN x[k] y[k] && L.sameL (x.drop (k + 1)) (y.drop (k + 1)))) := hid (L.sameL_step (by omega) hlt)
        clear hcx hcy ex ey
        generalize x[k] = X at *
        generalize y[k] = Y at *
        obtain ⟨k1, s1, n1⟩ := X
        obtain ⟨k2, s2, n2⟩ := Y
        have hbw := hB.size
        have g1 : b < wr.heap.size := by omega
        have g2 : b2 < wr.heap.size := by omega
        have g3 : b ≠ wr.heap.size := by omega
        have g4 : b2 ≠ wr.heap.size := by omega
        have he := eqS s1 s2
        by_cases h1 : k1 = k2
        · subst h1
          by_cases h2 : s1 = s2
          · subst h2
            clear he
            by_cases h0 : k1 = 0
            · subst h0
              go_wp2
              go_region
              all_goals go_wp2
              all_goals go_roundw
              all_goals first
                | (refine ⟨k + 1, by go_num, by omega, by (repeat (first | exact hB | refine Below.drew ?_ | refine below_drewN ?_ _ | refine Below.setCell ?_ (by first | omega | (simp; omega)) _ | refine Below.alloc ?_ (by first | omega | (simp; omega)) _)), hid ?_⟩; rw [← hS.out, hN.out]; simp [L.sameN]; done)
                | (simp [intOf]; omega)
            · have e0 : (k1 == 0) = false := by simp; omega
              by_cases h3 : n1 = n2
              · subst h3
                go_wp2
                go_region
                all_goals go_wp2
                all_goals go_roundw
                all_goals first
                  | (refine ⟨k + 1, by go_num, by omega, by (repeat (first | exact hB | refine Below.drew ?_ | refine below_drewN ?_ _ | refine Below.setCell ?_ (by first | omega | (simp; omega)) _ | refine Below.alloc ?_ (by first | omega | (simp; omega)) _)), hid ?_⟩; rw [← hS.out, hN.out]; simp [L.sameN]; done)
                  | (simp [intOf]; omega)
              · have e3 : (n1 == n2) = false := by simp; omega
                have hz : Hid (L.sameL x y = false) := hid (by rw [← hS.out, hN.out]; simp [L.sameN, beq_eq_false_iff_ne.1 e3, beq_eq_false_iff_ne.1 e0])
                go_wp2
                go_region
                all_goals go_wp2
                all_goals go_ret
                all_goals exact ⟨ret_bool hz.out.symm, by (repeat (first | exact hB | refine Below.drew ?_ | refine below_drewN ?_ _ | refine Below.setCell ?_ (by first | omega | (simp; omega)) _ | refine Below.alloc ?_ (by first | omega | (simp; omega)) _))⟩
          · have e2 : (s1.toList == s2.toList) = false := by rw [he]; simp [h2]
            clear he
            by_cases h0 : k1 = 0
            · subst h0
              have hz : Hid (L.sameL x y = false) := hid (by rw [← hS.out, hN.out]; simp [L.sameN, h2])
              go_wp2
              go_region
              all_goals go_wp2
              all_goals go_ret
              all_goals exact ⟨ret_bool hz.out.symm, by (repeat (first | exact hB | refine Below.drew ?_ | refine below_drewN ?_ _ | refine Below.setCell ?_ (by first | omega | (simp; omega)) _ | refine Below.alloc ?_ (by first | omega | (simp; omega)) _))⟩
            · have e0 : (k1 == 0) = false := by simp; omega
              have hz : Hid (L.sameL x y = false) := hid (by rw [← hS.out, hN.out]; simp [L.sameN, h2])
              go_wp2
              go_region
              all_goals go_wp2
              all_goals go_ret
              all_goals exact ⟨ret_bool hz.out.symm, by (repeat (first | exact hB | refine Below.drew ?_ | refine below_drewN ?_ _ | refine Below.setCell ?_ (by first | omega | (simp; omega)) _ | refine Below.alloc ?_ (by first | omega | (simp; omega)) _))⟩
        · have e1 : (k1 == k2) = false := by simp; omega
          clear he
          by_cases h0 : k1 = 0
          · subst h0
            · have e4 : (k2 == 0) = false := by simp; omega
              have hz : Hid (L.sameL x y = false) := hid (by rw [← hS.out, hN.out]; simp [L.sameN, h1])
              go_wp2
              go_region
              all_goals go_wp2
              all_goals go_ret
              all_goals exact ⟨ret_bool hz.out.symm, by (repeat (first | exact hB | refine Below.drew ?_ | refine below_drewN ?_ _ | refine Below.setCell ?_ (by first | omega | (simp; omega)) _ | refine Below.alloc ?_ (by first | omega | (simp; omega)) _))⟩
          · have e0 : (k1 == 0) = false := by simp; omega
            by_cases h5 : k2 = 0
            · subst h5
              have hz : Hid (L.sameL x y = false) := hid (by rw [← hS.out, hN.out]; simp [L.sameN, h1])
              go_wp2
              go_region
              all_goals go_wp2
              all_goals go_ret
              all_goals exact ⟨ret_bool hz.out.symm, by (repeat (first | exact hB | refine Below.drew ?_ | refine below_drewN ?_ _ | refine Below.setCell ?_ (by first | omega | (simp; omega)) _ | refine Below.alloc ?_ (by first | omega | (simp; omega)) _))⟩
            · have e4 : (k2 == 0) = false := by simp; omega
              have hz : Hid (L.sameL x y = false) := hid (by rw [← hS.out, hN.out]; simp [L.sameN, h1])
              go_wp2
              go_region
              all_goals go_wp2
              all_goals go_ret
              all_goals exact ⟨ret_bool hz.out.symm, by (repeat (first | exact hB | refine Below.drew ?_ | refine below_drewN ?_ _ | refine Below.setCell ?_ (by first | omega | (simp; omega)) _ | refine Below.alloc ?_ (by first | omega | (simp; omega)) _))⟩
      · go_wp2
        go_ret
        refine ⟨ret_bool ?_, hB⟩
        rw [← hS.out, List.drop_eq_nil_of_le (by omega), List.drop_eq_nil_of_le (by omega)]
        rfl
  · go_enter Tryd.func19, Tryd.ntmps19
    have h2 : ((x.length : Int) != (y.length : Int)) = true := by simp; omega
    go_wp2
    go_ret
    refine ⟨ret_bool ?_, Below.refl _ _⟩
    cases hh : L.sameL x y with
    | false => rfl
    | true => exact absurd (L.sameL_len hh) hlen

end Go.Proofs.YtjcocjpenchplaaDoor
