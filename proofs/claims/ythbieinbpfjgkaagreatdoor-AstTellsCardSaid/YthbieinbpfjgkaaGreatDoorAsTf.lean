/-
  The walks of both Kids at no part, and of the reference's Print. Conditions: a slice that reads as parts; an expression of few parts.
-/
import Derived.Test.YthbieinbpfjgkaaGreatDoorAsTe
import Derived.Test.YthbieinbpfjgkaaGreatDoorMA1
namespace Go.Proofs.YthbieinbpfjgkaaGreatDoor
open Go.RowKit Go.Sort

set_option maxHeartbeats 1000000 in
theorem akids_out (l : List E.Pt) (v : Value) (i : Int) (hi : ¬ (0 ≤ i ∧ i < l.length)) (w : World) (hx : RdP w w.heap.size v l) :
    Calls Tryz.prog 19 #[v, .int .i64 i] w fun e w' => ∃ v', e = .returned v' ∧ OwnI w.heap.size v' [] w' ∧ Below w.heap.size w w' := by
  obtain ⟨A, cap, rfl, _⟩ := hx
  go_enter Tryz.func19, Tryz.ntmps19
  go_wp2_with (go_at_call 40; refine (isPart_no l _ cap i hi _).mono ?_; rintro e w' ⟨rfl, rfl⟩)
  go_ret
  exact ⟨_, rfl, OwnI.nil _ _, Below.refl _ _⟩

set_option maxHeartbeats 1000000 in
theorem rkids_out (l : List E.Pt) (v : Value) (i : Int) (hi : ¬ (0 ≤ i ∧ i < l.length)) (w : World) (hx : RdP w w.heap.size v l) :
    Calls Tryz.prog 20 #[v, .int .i64 i] w fun e w' => ∃ v', e = .returned v' ∧ OwnI w.heap.size v' [] w' ∧ Below w.heap.size w w' := by
  obtain ⟨A, cap, rfl, _⟩ := hx
  have HO : Hid (OwnI w.heap.size (.slice (some ⟨w.heap.size, 0, none⟩) 0 0) [] (w.alloc (.cells #[] 3))) := hid (World.ownsRow_made w #[] 0 (Nat.le_refl _) (Nat.zero_le _) (by simp))
  by_cases h0 : i < 0
  · clear hi
    go_enter Tryz.func20, Tryz.ntmps20
    go_wp2
    go_ret
    exact ⟨_, rfl, HO.out, below_new _⟩
  · have h2 : (l.length : Int) ≤ i := by omega
    clear hi
    go_enter Tryz.func20, Tryz.ntmps20
    go_wp2
    go_ret
    exact ⟨_, rfl, HO.out, below_new _⟩

theorem rPrint_any (l : List E.Pt) (hF : FewP l) (hR : ∀ y ∈ l, E.many y = E.manyR y) (hP : ∀ y ∈ l, E.Pr1 y) (hll : l.length ≤ 120) (x : E.Pt) (ks : E.Fo) (hl : l = x :: ks.flat) (hok : (E.Fo.cons x ks .nil).ok = true) (v : Value) (w : World) (hx : RdP w w.heap.size v l) :
    Calls Tryz.prog 22 #[v] w fun e w' => e = .returned (.string ⟨(E.prT x ks).toArray⟩) ∧ Below w.heap.size w w' := by
  have HC := hid (rprinted_any l hF hR hP hll v (ks.flat.length + 1) x ks (by omega) hok [] 0 w (by rw [List.drop_zero, hl, List.append_nil]) hx)
  obtain ⟨A, cap, rfl, -⟩ := hx
  clear hF hR hP hl hok
  go_enter Tryz.func22, Tryz.ntmps22
  go_wp2_with fail
  refine (HC.out).mono ?_
  rintro e w1 ⟨rfl, h1⟩
  go_wp2
  go_ret
  exact ⟨rfl, h1⟩

end Go.Proofs.YthbieinbpfjgkaaGreatDoor
