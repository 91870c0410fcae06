/-
  Plain lists of bytes, no program: what a list that begins with a quoted one stands for, piece by piece.
-/
import Derived.Test.YtfmmhmkaphbmpaaDoorGlyE
namespace Go.Proofs.YtfmmhmkaphbmpaaDoor.G
open Go

/-- From place p on (behind the first sign), with what was read: what is meant, and how many bytes; none: it is no quoted text. -/
def unqF : Nat → Nat → List UInt8 → List UInt8 → Option (List UInt8 × Nat)
  | 0, _, _, _ => none
  | f + 1, p, acc, l =>
    if l = [] then none
    else if at0 l 0 = 34 then some (acc, p + 1)
    else if longL l = 0 ∨ at0 l 0 < 32 ∨ at0 l 0 = 127 then none
    else if at0 l 0 = 92 then (if (escL l).2 = 0 then none else unqF f (p + (escL l).2.toNat) (acc ++ [(escL l).1.toNat.toUInt8]) (l.drop (escL l).2.toNat))
    else unqF f (p + longL l) (acc ++ l.take (longL l)) (l.drop (longL l))

def unqL (l : List UInt8) : Option (List UInt8 × Nat) := if at0 l 0 = 34 then unqF l.length 1 [] (l.drop 1) else none

theorem unqF_nil (f p : Nat) (acc : List UInt8) : unqF f p acc [] = none := by
  cases f with
  | zero => rfl
  | succ f => rw [unqF, if_pos rfl]

/-- An escape's bytes are low, and it is within what is left. -/
theorem escL_facts (l : List UInt8) (h0 : at0 l 0 < 128) : 0 ≤ (escL l).1 ∧ (escL l).1 < 256 ∧ ((escL l).2 = 0 ∨ ((escL l).2 = 2 ∨ (escL l).2 = 4) ∧ (escL l).2 ≤ l.length ∧ ∀ k : Nat, (k : Int) < (escL l).2 → at0 l k < 128) := by
  have s2 := sixL_lt (at0 l 2)
  have s3 := sixL_lt (at0 l 3)
  have lo : ∀ c, 0 ≤ sixL c → c < 128 := by
    intro c hc
    unfold sixL at hc
    split at hc
    · omega
    · split at hc <;> omega
  unfold escL
  split
  · exact ⟨by omega, by omega, Or.inl rfl⟩
  split
  · rename_i h1 h2
    have := at0_lt l 1
    refine ⟨by simp, by simp; omega, Or.inr ⟨Or.inl rfl, by simp; omega, ?_⟩⟩
    intro k hk
    match k, hk with
    | 0, _ => exact h0
    | 1, _ => omega
    | k + 2, hk => simp at hk; omega
  split
  · refine ⟨by omega, by omega, Or.inr ⟨Or.inl rfl, by simp; omega, ?_⟩⟩
    intro k hk
    match k, hk with
    | 0, _ => exact h0
    | 1, _ => omega
    | k + 2, hk => simp at hk; omega
  split
  · refine ⟨by omega, by omega, Or.inr ⟨Or.inl rfl, by simp; omega, ?_⟩⟩
    intro k hk
    match k, hk with
    | 0, _ => exact h0
    | 1, _ => omega
    | k + 2, hk => simp at hk; omega
  split
  · rename_i h1 h2 h3 h4 h5
    obtain ⟨h6, h7, h8, h9⟩ := h5
    refine ⟨by simp; omega, by simp; omega, Or.inr ⟨Or.inr rfl, by simp; omega, ?_⟩⟩
    intro k hk
    match k, hk with
    | 0, _ => exact h0
    | 1, _ => omega
    | 2, _ => exact lo _ h8
    | 3, _ => exact lo _ h9
    | k + 4, hk => simp at hk; omega
  · exact ⟨by omega, by omega, Or.inl rfl⟩

end Go.Proofs.YtfmmhmkaphbmpaaDoor.G
