/-
  Plain lists of bytes, no program: what a token's kind, text and length are. No conditions but those that each lemma names.
-/
import Derived.Test.YtfmmhmkaphbmpaaDoorLexM
namespace Go.Proofs.YtfmmhmkaphbmpaaDoor.L
open Go

theorem firstL_mem (gs : List (List UInt8)) (l : List UInt8) : firstL gs l = [] ∨ (firstL gs l ∈ gs ∧ firstL gs l <+: l) := by
  induction gs with
  | nil => exact Or.inl rfl
  | cons g r ih =>
    rw [firstL]
    split
    · rename_i hp
      exact Or.inr ⟨by simp, List.isPrefixOf_iff_prefix.1 hp⟩
    · rcases ih with h | ⟨h, h2⟩
      · exact Or.inl h
      · exact Or.inr ⟨by simp [h], h2⟩

theorem nameL_pos {lo hi : Int} {l : List UInt8} (h : nameL lo hi l = true) : 0 < l.length := by
  cases l with
  | nil => simp [nameL] at h
  | cons c r => simp
theorem kindL_pos {l : List UInt8} (h : kindL l ≠ 0) : 0 < l.length := by
  cases l with
  | nil => exact absurd (show kindL [] = 0 by decide) h
  | cons c r => simp

theorem oneL_facts {l : List UInt8} {k n : Nat} {x : List UInt8} (h : oneL l = some (k, x, n)) : 1 ≤ k ∧ k ≤ 6 ∧ 1 ≤ n ∧ n ≤ l.length := by
  unfold oneL at h
  split at h
  · split at h
    · rename_i y hy
      have := unqL_le hy
      cases h
      omega
    · cases h
  split at h
  · rename_i hs
    cases h
    have h2 : 0 < (signL l).length := List.length_pos_iff.2 hs
    rcases firstL_mem signsL l with h3 | ⟨_, h3⟩
    · exact absurd h3 hs
    · exact ⟨by omega, by omega, h2, h3.length_le⟩
  split at h
  · cases h
  · rename_i hk
    cases h
    have h1 := kindL_le (l.take (runL goesB l))
    have h2 := kindL_pos hk
    rw [List.length_take] at h2
    have h3 := runL_le goesB l
    omega

end Go.Proofs.YtfmmhmkaphbmpaaDoor.L
