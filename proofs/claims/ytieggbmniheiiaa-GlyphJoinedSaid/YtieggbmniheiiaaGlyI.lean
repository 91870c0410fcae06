/-
  Plain lists of bytes, no program: whole texts, and texts without odd bytes, quoted one behind the other.
-/
import Derived.Test.YtieggbmniheiiaaGlyJ
namespace Go.Proofs.Ytieggbmniheiiaa.G
open Go

/-- Every rune of the list is whole. -/
def wholeF : Nat → List UInt8 → Bool
  | 0, _ => true
  | f + 1, l => if l = [] then true else if longL l = 0 then false else wholeF f (l.drop (longL l))

def plainC (c : Nat) : Bool := decide (32 ≤ c) && (decide (c ≠ 127) && (decide (c ≠ 34) && decide (c ≠ 92)))

/-- No rune of the list begins with an odd byte. -/
def plainF : Nat → List UInt8 → Bool
  | 0, _ => true
  | f + 1, l => if l = [] then true else plainC (at0 l 0) && plainF f (l.drop (longL l))

theorem wholeF_nil (f : Nat) : wholeF f [] = true := by cases f <;> rfl
theorem plainF_nil (f : Nat) : plainF f [] = true := by cases f <;> rfl

theorem pieceL_app {l r : List UInt8} (hl : l ≠ []) (h1 : 1 ≤ longL l) : pieceL (l ++ r) = pieceL l := by
  have e0 : at0 (l ++ r) 0 = at0 l 0 := at0_app (List.length_pos_iff.mpr hl)
  unfold pieceL
  rw [e0, longL_app hl h1, List.take_append_of_le_length (long_le hl)]

theorem quote_app (f : Nat) : ∀ (a b : List UInt8), a.length ≤ f → wholeF f a = true → quoteF (f + b.length) (a ++ b) = quoteF f a ++ quoteF b.length b := by
  induction f with
  | zero =>
    intro a b hf _
    obtain rfl : a = [] := List.eq_nil_of_length_eq_zero (by omega)
    rw [quoteF_nil, List.nil_append, List.nil_append, Nat.zero_add]
  | succ f ih =>
    intro a b hf hw
    by_cases ha : a = []
    · subst ha
      rw [quoteF_nil, List.nil_append, List.nil_append]
      exact quoteF_more _ _ _ (by omega) (Nat.le_refl _)
    · rw [wholeF, if_neg ha] at hw
      split at hw
      · cases hw
      · rename_i hn
        have h1 : 1 ≤ longL a := by omega
        have hwa : wid a = longL a := by unfold wid; omega
        have hwb : wid (a ++ b) = longL a := by unfold wid; rw [longL_app ha h1]; omega
        have hd : (a.drop (longL a)).length = a.length - longL a := by simp
        have h0 := List.length_pos_iff.mpr ha
        rw [show f + 1 + b.length = (f + b.length) + 1 by omega, quoteF, quoteF, if_neg (by simp [ha]), if_neg ha, pieceL_app ha h1, hwa, hwb, List.drop_append_of_le_length (long_le ha), ih _ _ (by omega) hw, List.append_assoc]

theorem quote_plain (f : Nat) : ∀ (a : List UInt8), a.length ≤ f → wholeF f a = true → plainF f a = true → quoteF f a = a := by
  induction f with
  | zero =>
    intro a hf _ _
    obtain rfl : a = [] := List.eq_nil_of_length_eq_zero (by omega)
    rfl
  | succ f ih =>
    intro a hf hw hp
    by_cases ha : a = []
    · subst ha; rfl
    · rw [wholeF, if_neg ha] at hw
      rw [plainF, if_neg ha] at hp
      split at hw
      · cases hw
      · rename_i hn
        simp only [plainC, Bool.and_eq_true, decide_eq_true_eq] at hp
        obtain ⟨⟨p1, p2, p3, p4⟩, hp2⟩ := hp
        have hwa : wid a = longL a := by unfold wid; omega
        have hd : (a.drop (longL a)).length = a.length - longL a := by simp
        have h0 := List.length_pos_iff.mpr ha
        have hpc : pieceL a = a.take (longL a) := by
          unfold pieceL
          rw [if_neg (by omega), if_neg (by omega), if_neg (by omega), if_neg (by omega)]
        rw [quoteF, if_neg ha, hwa, ih _ (by omega) hw hp2, hpc, List.take_append_drop]

/-- Two quoted texts, the one's end and the other one's beginning taken away. -/
theorem quoteL_app (a b : List UInt8) (h : wholeF a.length a = true) : quoteL (a ++ b) = (quoteL a).take ((quoteL a).length - 1) ++ (quoteL b).drop 1 := by
  have h1 := quote_app a.length a b (Nat.le_refl _) h
  unfold quoteL
  rw [List.length_append, h1]
  have e : (34 :: quoteF a.length a ++ [34]).take ((34 :: quoteF a.length a ++ [34]).length - 1) = 34 :: quoteF a.length a := by
    rw [List.take_left']
    simp
  rw [e]
  simp

end Go.Proofs.Ytieggbmniheiiaa.G
