/-
  What the walks of Print ask, of an expression that comes in. No machine here. No conditions but those that each lemma names.
-/
import Derived.Test.YthbieinbpfjgkaaGreatDoorAsPl
import Derived.Test.YthbieinbpfjgkaaGreatDoorMA17
namespace Go.Proofs.YthbieinbpfjgkaaGreatDoor.E
open Go

/-- What the walks of Print ask, of few parts that are an expression. -/
theorem pr1_of {l : List Pt} {x : Pt} {ks : Fo} (hl : l = x :: ks.flat) (hf : fewL l 120 = true) (hn : ∀ y ∈ l, NumP y) (ho : (Fo.cons x ks .nil).ok = true) : ∀ z ∈ x :: ks.flat, Pr1 z := by
  intro z hz
  have hz' : z ∈ l := by rw [hl]; exact hz
  have hs : sound z = true := sound_flat (Fo.cons x ks .nil) ho z (by simpa [Fo.flat] using hz)
  have h1 := List.all_eq_true.1 ((Bool.and_eq_true _ _).mp hf).2 z hz'
  simp only [fewP, Bool.and_eq_true, decide_eq_true_eq, List.all_eq_true] at h1
  obtain ⟨⟨a, b, c, d, e⟩, f, g⟩ := h1
  obtain ⟨q1, q2⟩ := hn z hz'
  exact ⟨hs, by omega, by omega, by omega, fun y hy => ⟨by have := f y hy; omega, q1 y hy⟩, fun y hy => ⟨by have := g y hy; omega, q2 y hy⟩, by omega, by omega⟩

end Go.Proofs.YthbieinbpfjgkaaGreatDoor.E
