/-
  The walks of ty.Same, with slices.EqualFunc, and of the reference's Same and One. Conditions: slices of at most 2^40 nodes.
-/
import Derived.Test.YtjcocjpenchplaaDoorTyO
namespace Go.Proofs.YtjcocjpenchplaaDoor.L
open Go

/-- Are two nodes alike, but for a site? -/
def sameN (x y : Nd) : Bool := decide (x.kind = y.kind) && decide (x.name = y.name) && (decide (x.n = y.n) || decide (x.kind = 0))

/-- Are two rows of nodes alike, but for sites? -/
def sameL : List Nd → List Nd → Bool
  | [], [] => true
  | x :: a, y :: b => sameN x y && sameL a b
  | _, _ => false

theorem sameL_len {a b : List Nd} (h : sameL a b = true) : a.length = b.length := by
  induction a generalizing b with
  | nil => cases b <;> simp_all [sameL]
  | cons x a ih =>
    cases b with
    | nil => simp [sameL] at h
    | cons y b =>
      simp [sameL] at h
      simp [ih h.2]

/-- From place i on. -/
theorem sameL_step {a b : List Nd} {i : Nat} (ha : i < a.length) (hb : i < b.length) : sameL (a.drop i) (b.drop i) = (sameN a[i] b[i] && sameL (a.drop (i + 1)) (b.drop (i + 1))) := by
  rw [List.drop_eq_getElem_cons ha, List.drop_eq_getElem_cons hb, sameL]

theorem sameN_iff (x y : Nd) : sameN x y = true ↔ x.kind = y.kind ∧ x.name = y.name ∧ (x.n = y.n ∨ x.kind = 0) := by
  simp [sameN, and_assoc]

end Go.Proofs.YtjcocjpenchplaaDoor.L
namespace Go.Proofs.YtjcocjpenchplaaDoor
open Go.RowKit

theorem eqS (s t : ByteArray) : (s.toList == t.toList) = decide (s = t) := by
  rw [Bool.eq_iff_iff]
  simp only [beq_iff_eq, decide_eq_true_eq]
  constructor
  · intro h
    rw [Lib.toList_data, Lib.toList_data] at h
    exact ByteArray.ext (Array.toList_inj.1 h)
  · rintro rfl; rfl

set_option maxHeartbeats 1000000 in
theorem same1_any (k n k2 n2 : Int) (s s2 : ByteArray) (w : World) :
    Calls Tryd.prog 46 #[.agg #[.int .i64 k, .string s, .int .i64 n], .agg #[.int .i64 k2, .string s2, .int .i64 n2]] w fun e w' => e = .returned (.bool (L.sameN ⟨k, s, n⟩ ⟨k2, s2, n2⟩)) ∧ Below w.heap.size w w' := by
  have hb : ∀ o o2, Below w.heap.size w ((w.alloc o).alloc o2) := fun o o2 => (below_new _).trans ((below_new _).mono (by simp))
  have he := eqS s s2
  by_cases h1 : k = k2
  · subst h1
    by_cases h2 : s = s2
    · subst h2
      go_enter Tryd.func46, Tryd.ntmps46
      go_wp2
      all_goals go_ret
      all_goals refine ⟨ret_bool ?_, hb _ _⟩
      all_goals rw [Bool.eq_iff_iff]
      all_goals simp [L.sameN]
      all_goals omega
    · have e2 : (s.toList == s2.toList) = false := by rw [he]; simp [h2]
      clear he
      go_enter Tryd.func46, Tryd.ntmps46
      go_wp2
      all_goals go_ret
      all_goals refine ⟨ret_bool ?_, hb _ _⟩
      all_goals simp [L.sameN, h2]
  · have e1 : (k == k2) = false := by simp; omega
    clear he
    go_enter Tryd.func46, Tryd.ntmps46
    go_wp2
    all_goals go_ret
    all_goals refine ⟨ret_bool ?_, hb _ _⟩
    all_goals simp [L.sameN, h1]

set_option maxHeartbeats 4000000 in
set_option maxRecDepth 100000 in
theorem equalFunc_any (x y : List L.Nd) (vx vy : Value) (w : World) (hx : Rd w w.heap.size vx x) (hy : Rd w w.heap.size vy y) :
    Calls Tryd.prog 45 #[vx, vy, .func (.func 46) #[] #[]] w fun e w' => e = .returned (.bool (L.sameL x y)) ∧ Below w.heap.size w w' := by
  have HX := hid hx
  have HY := hid hy
  obtain ⟨A, cap, rfl, hl1, hl2, _, hcx⟩ := hx
  obtain ⟨A2, cap2, rfl, hm1, hm2, _, hcy⟩ := hy
  unfold maxLen at hl2 hm2
  have HCX := hid hcx
  have HCY := hid hcy
  clear hcx hcy
  by_cases hlen : x.length = y.length
  · go_enter Tryd.func45, Tryd.ntmps45
    rw [hlen]
    go_wp2
    go_loopw [17] (fun vi wr => ∃ k : Nat, vi = .int .i64 k ∧ k ≤ y.length ∧ Below w.heap.size w wr ∧ Hid (L.sameL (x.drop k) (y.drop k) = L.sameL x y)) (fun vi _ => y.length - (intOf vi).toNat)
    case atStart => exact ⟨0, rfl, by omega, Below.refl _ _, hid rfl⟩
    case round =>
      obtain ⟨k, rfl, hk, hB, hS⟩ := hrel
      by_cases hlt : k < y.length
      · obtain ⟨b, o, hA, hb, hcx⟩ := HCX.out (by rintro rfl; simp at hlen; omega)
        obtain ⟨b2, o2, hA2, hb2, hcy⟩ := HCY.out (by rintro rfl; simp at hlt)
        obtain ⟨x0, x1, x2⟩ := hcx k (by omega)
        obtain ⟨y0, y1, y2⟩ := hcy k hlt
        have ex : ∀ j, wr.cell? ⟨b, j, none⟩ = w.cell? ⟨b, j, none⟩ := fun j => hB.cell (p := ⟨b, j, none⟩) hb
        have ey : ∀ j, wr.cell? ⟨b2, j, none⟩ = w.cell? ⟨b2, j, none⟩ := fun j => hB.cell (p := ⟨b2, j, none⟩) hb2
        rw [← ex] at x0 x1 x2
        rw [← ey] at y0 y1 y2
        subst hA hA2
        have hN : Hid (L.sameL (x.drop k) (y.drop k) = (L.sameN x[k] y[k] && L.sameL (x.drop (k + 1)) (y.drop (k + 1)))) := hid (L.sameL_step (by omega) hlt)
        clear hcx hcy ex ey
        generalize x[k] = X at *
        generalize y[k] = Y at *
        obtain ⟨k1, s1, n1⟩ := X
        obtain ⟨k2, s2, n2⟩ := Y
        have hbw := hB.size
        have g1 : b < wr.heap.size := by omega
        have g2 : b2 < wr.heap.size := by omega
        have g3 : b ≠ wr.heap.size := by omega
        have g4 : b2 ≠ wr.heap.size := by omega
        go_wp2_with fail
        refine (same1_any _ _ _ _ _ _ _).mono ?_
        rintro e w' ⟨rfl, hb'⟩
        have hB2 : Below w.heap.size w w' := (hB.trans (((below_new _).mono hbw).trans ((below_new _).mono (by simp; omega)))).trans (hb'.mono (by simp; omega))
        go_wp2
        · go_ret
          refine ⟨ret_bool ?_, hB2⟩
          rw [← hS.out, hN.out]
          simp_all
        · go_roundw
          case rel =>
            refine ⟨k + 1, by go_num, by omega, hB2, hid ?_⟩
            rw [← hS.out, hN.out]
            simp_all
          case measure => simp [intOf]; omega
      · go_wp2
        go_ret
        refine ⟨ret_bool ?_, hB⟩
        rw [← hS.out, List.drop_eq_nil_of_le (by omega), List.drop_eq_nil_of_le (by omega)]
        rfl
  · go_enter Tryd.func45, Tryd.ntmps45
    have h2 : ((x.length : Int) != (y.length : Int)) = true := by simp; omega
    go_wp2
    go_ret
    refine ⟨ret_bool ?_, Below.refl _ _⟩
    cases hh : L.sameL x y with
    | false => rfl
    | true => exact absurd (L.sameL_len hh) hlen

end Go.Proofs.YtjcocjpenchplaaDoor
