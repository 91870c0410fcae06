/-
  Plain lists of bytes, no program: a token as the reference tells it is the same. No conditions.
-/
import Derived.Test.YtfmmhmkaphbmpaaDoorLexN
namespace Go.Proofs.YtfmmhmkaphbmpaaDoor.L
open Go

/-- The reference's order: tag, key, word, number, sign. -/
def oneR (l : List UInt8) : Option (Nat × List UInt8 × Nat) :=
  if G.at0 l 0 = 34 then (match G.unqL l with | some x => some (4, x.1, x.2) | none => none)
  else if nameL 65 90 (l.take (runL goesB l)) = true then some (2, l.take (runL goesB l), runL goesB l)
  else if keyL (l.take (runL goesB l)) = true then some (6, l.take (runL goesB l), runL goesB l)
  else if nameL 97 122 (l.take (runL goesB l)) = true then some (1, l.take (runL goesB l), runL goesB l)
  else if 0 < runL goesB l then (if runL digB (l.take (runL goesB l)) = runL goesB l ∧ runL goesB l ≤ 18 then some (3, l.take (runL goesB l), runL goesB l) else none)
  else if signL l ≠ [] then some (5, signL l, (signL l).length) else none

theorem sign_goes {l : List UInt8} (h : signL l ≠ []) : runL goesB l = 0 := by
  rcases firstL_mem signsL l with h3 | ⟨hm, hp⟩
  · exact absurd h3 h
  · have hall : ∀ g ∈ signsL, ∃ c r, g = c :: r ∧ goesB c = false := by
      intro g hg
      simp only [signsL, List.mem_cons, List.not_mem_nil, or_false] at hg
      rcases hg with rfl | rfl | rfl | rfl | rfl | rfl | rfl | rfl | rfl | rfl | rfl | rfl | rfl | rfl | rfl | rfl | rfl | rfl | rfl | rfl | rfl | rfl | rfl | rfl <;> exact ⟨_, _, rfl, by decide⟩
    obtain ⟨c, r, hc, hg⟩ := hall _ hm
    have hp2 : signL l <+: l := hp
    change signL l = c :: r at hc
    rw [hc] at hp2
    obtain ⟨t, ht⟩ := hp2
    rw [← ht]
    simp [runL, hg]

theorem key_word {l : List UInt8} (h : keyL l = true) : nameL 97 122 l = true := by
  have hm : l ∈ keysL := by simpa [keyL] using h
  simp only [keysL, List.mem_cons, List.not_mem_nil, or_false] at hm
  rcases hm with rfl | rfl | rfl | rfl | rfl | rfl | rfl | rfl | rfl | rfl | rfl | rfl | rfl | rfl | rfl | rfl | rfl | rfl <;> decide

theorem tag_word {l : List UInt8} (h : nameL 65 90 l = true) : nameL 97 122 l = false := by
  cases l with
  | nil => rfl
  | cons c r =>
    simp only [nameL, Bool.and_eq_true] at h ⊢
    have h1 := h.1
    unfold inB at h1
    simp at h1
    have : inB (c.toNat : Int) 97 122 = false := by unfold inB; simp; omega
    rw [this]
    rfl

theorem oneR_eq (l : List UInt8) : oneR l = oneL l := by
  unfold oneR oneL
  split
  · rfl
  by_cases hs : signL l ≠ []
  · rw [if_pos hs, sign_goes hs, List.take_zero]
    rw [if_neg (by decide), if_neg (by decide), if_neg (by decide), if_neg (by omega), if_pos hs]
  · have hs0 : signL l = [] := by simpa using hs
    have hle := runL_le goesB l
    have hlen : (l.take (runL goesB l)).length = runL goesB l := by rw [List.length_take]; omega
    generalize runL goesB l = n at *
    generalize l.take n = x at *
    clear hs
    unfold kindL
    by_cases ht : nameL 65 90 x = true
    · have hw := tag_word ht
      have hk : keyL x = false := by
        cases hk : keyL x with
        | false => rfl
        | true => rw [key_word hk] at hw; cases hw
      simp [ht, hk, hw, hs0]
    · have ht := (Bool.not_eq_true _).mp ht
      by_cases hk : keyL x = true
      · simp [ht, hk, hs0]
      · have hk := (Bool.not_eq_true _).mp hk
        by_cases hw : nameL 97 122 x = true
        · simp [ht, hk, hw, hs0]
        · have hw := (Bool.not_eq_true _).mp hw
          by_cases h0 : 0 < n
          · by_cases hd : runL digB x = n ∧ n ≤ 18
            · have hn : numL x = true := by unfold numL; rw [hlen]; simp [h0, hd.1, hd.2]
              simp [ht, hk, hw, hs0, h0, hd, hn]
            · have hn : numL x = false := by
                unfold numL; rw [hlen]
                cases hb : decide (n ≤ 18) && decide (runL digB x = n) with
                | false => simp
                | true => simp at hb; exact absurd ⟨hb.2, hb.1⟩ hd
              simp [ht, hk, hw, hs0, h0, hd, hn]
          · have hn : numL x = false := by unfold numL; rw [hlen]; simp [h0]
            simp [ht, hk, hw, hs0, h0, hn]

end Go.Proofs.YtfmmhmkaphbmpaaDoor.L
