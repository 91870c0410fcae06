/-
  Plain lists of bytes, no program: how great a line and a column can be.
-/
import Derived.Test.YtfmmhmkaphbmpaaDoorGlyK
namespace Go.Proofs.YtfmmhmkaphbmpaaDoor.G
open Go

theorem placeL_le (f : Nat) (k : Int) (l : List UInt8) (a b : Nat) (hb : 1 ≤ b) : (placeL f k l a b).1 ≤ a + f ∧ (placeL f k l a b).2 ≤ b + f := by
  induction f generalizing k l a b with
  | zero => exact ⟨Nat.le_refl _, Nat.le_refl _⟩
  | succ f ih =>
    by_cases h : l = [] ∨ k ≤ 0
    · rw [placeL_stop h]
      omega
    · rw [placeL_step h]
      split
      · have := ih (k - wid l) (l.drop (wid l)) (a + 1) 1 (Nat.le_refl _)
        omega
      · have := ih (k - wid l) (l.drop (wid l)) a (b + 1) (by omega)
        omega

end Go.Proofs.YtfmmhmkaphbmpaaDoor.G
