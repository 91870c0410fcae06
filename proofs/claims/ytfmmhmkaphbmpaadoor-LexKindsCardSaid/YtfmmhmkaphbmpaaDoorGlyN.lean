/-
  Plain lists of bytes, no program: the quoted form of a list, piece by piece.
-/
import Derived.Test.YtfmmhmkaphbmpaaDoorGlyM
namespace Go.Proofs.YtfmmhmkaphbmpaaDoor.G
open Go

/-- The figure of sixteen for a number below 16. -/
def figL (n : Nat) : UInt8 := if n < 10 then UInt8.ofNat (48 + n) else UInt8.ofNat (87 + n)

/-- What the rune, or the odd byte, at the head is quoted as. -/
def pieceL (l : List UInt8) : List UInt8 :=
  if at0 l 0 = 92 ∨ at0 l 0 = 34 then [92, UInt8.ofNat (at0 l 0)]
  else if at0 l 0 = 10 then [92, 110]
  else if at0 l 0 = 9 then [92, 116]
  else if longL l = 0 ∨ at0 l 0 < 32 ∨ at0 l 0 = 127 then [92, 120, figL (at0 l 0 / 16), figL (at0 l 0 % 16)]
  else l.take (longL l)

def quoteF : Nat → List UInt8 → List UInt8
  | 0, _ => []
  | f + 1, l => if l = [] then [] else pieceL l ++ quoteF f (l.drop (wid l))

def quoteL (l : List UInt8) : List UInt8 := 34 :: quoteF l.length l ++ [34]

theorem quoteF_nil (f : Nat) : quoteF f [] = [] := by
  cases f with
  | zero => rfl
  | succ f => rfl

theorem pieceL_len (l : List UInt8) : (pieceL l).length ≤ 4 := by
  unfold pieceL
  split
  · simp
  split
  · simp
  split
  · simp
  split
  · simp
  · by_cases hl : l = []
    · subst hl; simp
    · rcases rune_long l hl with ⟨h, _, _⟩ | ⟨_, _, h, _⟩
      · rw [h]; simp
      · have : (l.take (longL l)).length ≤ longL l := List.length_take_le _ _
        omega

end Go.Proofs.YtfmmhmkaphbmpaaDoor.G
