/-
  Two rows of choices that come in. No conditions.
-/
import Derived.Test.YtmcdggjcpfkchaaAgLq
namespace Go.Proofs.Ytmcdggjcpfkchaa
open Go.ChangeShapes Go.WideShapes Go.ChangeAt Go.RowKit Go.Deep

set_option maxRecDepth 100000 in
theorem two_of_trod {H : Type} {enc : TypeId × Value → H} {W : World} {fuel : Nat} {v1 : Value} {cs1 : Array Value} {x : DataW H × List MemPlace} (hv1 : v1 = .agg cs1) (hf1 : DataW.trod enc Try.prog W 0 (fun _ => true) true fuel 42 v1.cells.toList = some x) :
    ∃ va vb la lb, v1 = .agg #[va, vb] ∧ RdC W W.heap.size va la ∧ RdC W W.heap.size vb lb ∧ (∀ c ∈ la, c.site ≤ 9223372036854775807 ∧ ∀ y ∈ c.t, y.n ≤ 9223372036854775807 ∧ y.name.size ≤ 9223372036854775807) ∧ ∀ c ∈ lb, c.site ≤ 9223372036854775807 ∧ ∀ y ∈ c.t, y.n ≤ 9223372036854775807 ∧ y.name.size ≤ 9223372036854775807 := by
  obtain ⟨xs, m, -, -, hcl, hxl, hx⟩ := DataW.trod_array Try.underlying42 hf1
  have c1 : Try.prog.cellsOf 22 = 1 := by kernel_rfl
  have c2 : Try.prog.cellsOf 42 = 2 := by kernel_rfl
  rw [c2] at hcl
  subst hv1
  obtain ⟨cl⟩ := cs1
  have hcl2 : cl.length = 2 := by simpa [Value.cells] using hcl
  match cl, hcl2 with
  | [x0, x1], _ =>
    have g0 := hx 0 (by omega)
    have g1 := hx 1 (by omega)
    rw [c1, List.getElem?_eq_getElem (by omega : 0 < xs.length)] at g0
    rw [c1, List.getElem?_eq_getElem (by omega : 1 < xs.length)] at g1
    obtain ⟨v0, l0, h0, r0, n0⟩ := rdc_of_trod g0
    obtain ⟨v1, l1, h1, r1, n1⟩ := rdc_of_trod g1
    simp [Value.cells] at h0 h1
    subst h0 h1
    exact ⟨x0, x1, l0, l1, rfl, r0, r1, n0, n1⟩

end Go.Proofs.Ytmcdggjcpfkchaa
