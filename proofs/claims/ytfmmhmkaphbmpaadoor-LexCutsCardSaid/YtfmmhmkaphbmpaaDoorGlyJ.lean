/-
  Plain lists of bytes, no program: what is quoted is told again, whatever stands behind; no byte of it is below 32, nor 127; whole texts are quoted one behind the other.
-/
import Derived.Test.YtfmmhmkaphbmpaaDoorGlyK3
import Derived.Test.YtfmmhmkaphbmpaaDoorGlyO
namespace Go.Proofs.YtfmmhmkaphbmpaaDoor.G
open Go

theorem sixL_fig (n : Nat) (h : n < 16) : sixL (figL n).toNat = n := by
  match n, h with
  | 0, _ => rfl
  | 1, _ => rfl
  | 2, _ => rfl
  | 3, _ => rfl
  | 4, _ => rfl
  | 5, _ => rfl
  | 6, _ => rfl
  | 7, _ => rfl
  | 8, _ => rfl
  | 9, _ => rfl
  | 10, _ => rfl
  | 11, _ => rfl
  | 12, _ => rfl
  | 13, _ => rfl
  | 14, _ => rfl
  | 15, _ => rfl
  | n + 16, h => omega

theorem figL_big (n : Nat) (h : n < 16) : 48 ≤ (figL n).toNat ∧ (figL n).toNat < 103 := by
  match n, h with
  | 0, _ => decide
  | 1, _ => decide
  | 2, _ => decide
  | 3, _ => decide
  | 4, _ => decide
  | 5, _ => decide
  | 6, _ => decide
  | 7, _ => decide
  | 8, _ => decide
  | 9, _ => decide
  | 10, _ => decide
  | 11, _ => decide
  | 12, _ => decide
  | 13, _ => decide
  | 14, _ => decide
  | 15, _ => decide
  | n + 16, h => omega

theorem head_eq {l : List UInt8} (hl : l ≠ []) : l.take 1 = [UInt8.ofNat (at0 l 0)] := by
  cases l with
  | nil => exact absurd rfl hl
  | cons c r => simp [at0]

theorem wid_low {l : List UInt8} (h : at0 l 0 < 128) : wid l = 1 := by unfold wid; rw [longL_1 h]; rfl

theorem unq_esc {g p : Nat} {acc rest : List UInt8} {e : Nat} {n : Nat} (l : List UInt8) (h0 : at0 l 0 = 92) (hesc : escL l = ((e : Int), (n : Int))) (hn : n ≠ 0) (hd : l.drop n = rest) :
    unqF (g + 1) p acc l = unqF g (p + n) (acc ++ [UInt8.ofNat e]) rest := by
  have hl : l ≠ [] := by intro h; rw [h] at h0; exact absurd h0 (by decide)
  rw [unqF, if_neg hl, if_neg (by omega), if_neg (by rw [longL_1 (by omega)]; omega), if_pos h0, hesc]
  simp only
  rw [if_neg (by omega), ← hd]
  simp only [Int.toNat_natCast]

/-- A piece is told again. -/
theorem piece_step (g p : Nat) (acc l R : List UInt8) (hl : l ≠ []) : unqF (g + 1) p acc (pieceL l ++ R) = unqF g (p + (pieceL l).length) (acc ++ l.take (wid l)) R := by
  have b0 := at0_lt l 0
  unfold pieceL
  split
  · rename_i h
    have hw : wid l = 1 := wid_low (by omega)
    rw [hw, head_eq hl]
    have hv : (UInt8.ofNat (at0 l 0)).toNat = at0 l 0 := by simp; omega
    have e1 : at0 ([92, UInt8.ofNat (at0 l 0)] ++ R) 1 = at0 l 0 := by show (UInt8.ofNat (at0 l 0)).toNat = _; exact hv
    exact unq_esc (n := 2) _ rfl (by unfold escL; rw [if_neg (by simp), e1, if_pos h]; rfl) (by omega) rfl
  split
  · rename_i h10
    have hw : wid l = 1 := wid_low (by omega)
    rw [hw, head_eq hl, h10]
    exact unq_esc (e := 10) (n := 2) _ rfl (by unfold escL; rw [if_neg (by simp), show at0 ([92, 110] ++ R) 1 = 110 from rfl]; rfl) (by omega) rfl
  split
  · rename_i h9
    have hw : wid l = 1 := wid_low (by omega)
    rw [hw, head_eq hl, h9]
    exact unq_esc (e := 9) (n := 2) _ rfl (by unfold escL; rw [if_neg (by simp), show at0 ([92, 116] ++ R) 1 = 116 from rfl]; rfl) (by omega) rfl
  split
  · rename_i hx
    have hw : wid l = 1 := by
      unfold wid
      rcases hx with h | h | h
      · rw [h]; rfl
      · rw [longL_1 (by omega)]; rfl
      · rw [longL_1 (by omega)]; rfl
    rw [hw, head_eq hl]
    have a2 : at0 ([92, 120, figL (at0 l 0 / 16), figL (at0 l 0 % 16)] ++ R) 2 = (figL (at0 l 0 / 16)).toNat := rfl
    have a3 : at0 ([92, 120, figL (at0 l 0 / 16), figL (at0 l 0 % 16)] ++ R) 3 = (figL (at0 l 0 % 16)).toNat := rfl
    have s2 := sixL_fig (at0 l 0 / 16) (by omega)
    have s3 := sixL_fig (at0 l 0 % 16) (by omega)
    refine unq_esc (e := at0 l 0) (n := 4) _ rfl ?_ (by omega) rfl
    unfold escL
    rw [if_neg (by simp), show at0 ([92, 120, figL (at0 l 0 / 16), figL (at0 l 0 % 16)] ++ R) 1 = 120 from rfl, if_neg (show ¬ ((120 : Nat) = 92 ∨ (120 : Nat) = 34) by omega), if_neg (show ¬ (120 : Nat) = 110 by omega), if_neg (show ¬ (120 : Nat) = 116 by omega), a2, a3, s2, s3]
    rw [if_pos ⟨rfl, by simp, by omega, by omega⟩]
    rw [Prod.ext_iff]
    exact ⟨by show 16 * ((at0 l 0 / 16 : Nat) : Int) + ((at0 l 0 % 16 : Nat) : Int) = (at0 l 0 : Int); omega, rfl⟩
  · rename_i n1 n2 n3 n4
    have h1 : 1 ≤ longL l := by omega
    have hle := long_le hl
    have hw : wid l = longL l := by unfold wid; omega
    have hlen : (l.take (longL l)).length = longL l := by simp; omega
    have hne : l.take (longL l) ++ R ≠ [] := by
      intro h
      rw [List.append_eq_nil_iff] at h
      rw [h.1] at hlen
      simp only [List.length_nil] at hlen
      omega
    have hat : ∀ k, k < longL l → at0 (l.take (longL l) ++ R) k = at0 l k := by
      intro k hk
      rw [at0_app (by omega)]
      unfold at0
      rw [List.getD_eq_getElem?_getD, List.getD_eq_getElem?_getD, List.getElem?_take, if_pos hk]
    have e0 := hat 0 (by omega)
    have eL : longL (l.take (longL l) ++ R) = longL l := longL_same h1 hat (by simp; omega)
    rw [unqF, if_neg hne, if_neg (by omega), if_neg (by rw [eL, e0]; omega), if_neg (by omega), eL, hw, hlen]
    rw [List.take_left' hlen, List.drop_left' hlen]

theorem pieceL_pos (l : List UInt8) (hl : l ≠ []) : 1 ≤ (pieceL l).length := by
  unfold pieceL
  split
  · simp
  split
  · simp
  split
  · simp
  split
  · simp
  · have := long_le hl
    simp
    omega

theorem quote_told (f : Nat) : ∀ (l acc more : List UInt8) (p g : Nat), l.length ≤ f → (quoteF f l).length < g →
    unqF g p acc (quoteF f l ++ 34 :: more) = some (acc ++ l, p + (quoteF f l).length + 1) := by
  induction f with
  | zero =>
    intro l acc more p g hf hg
    obtain rfl : l = [] := List.eq_nil_of_length_eq_zero (by omega)
    obtain ⟨g, rfl⟩ : ∃ m, g = m + 1 := ⟨g - 1, by omega⟩
    show unqF (g + 1) p acc (34 :: more) = _
    rw [unqF, if_neg (by simp), if_pos (show at0 (34 :: more) 0 = 34 from rfl)]
    simp [quoteF]
  | succ f ih =>
    intro l acc more p g hf hg
    obtain ⟨g, rfl⟩ : ∃ m, g = m + 1 := ⟨g - 1, by omega⟩
    by_cases hl : l = []
    · subst hl
      show unqF (g + 1) p acc (34 :: more) = _
      rw [unqF, if_neg (by simp), if_pos (show at0 (34 :: more) 0 = 34 from rfl)]
      simp [quoteF]
    · have hw := wid_pos l
      have h1 := pieceL_pos l hl
      rw [quoteF, if_neg hl] at hg ⊢
      rw [List.length_append] at hg
      have hd : (l.drop (wid l)).length = l.length - wid l := by simp
      have h0 := List.length_pos_iff.mpr hl
      rw [List.append_assoc, piece_step _ _ _ _ _ hl, ih _ _ _ _ _ (by omega) (by omega), List.append_assoc, List.take_append_drop, List.length_append]
      congr 2
      omega

theorem quoteL_told (l more : List UInt8) : unqL (quoteL l ++ more) = some (l, (quoteL l).length) := by
  unfold unqL quoteL
  rw [if_pos (show at0 ((34 :: quoteF l.length l ++ [34]) ++ more) 0 = 34 from rfl)]
  have e : ((34 :: quoteF l.length l ++ [34]) ++ more).drop 1 = quoteF l.length l ++ 34 :: more := by simp
  rw [e, quote_told _ _ _ _ _ _ (Nat.le_refl _) (by simp; omega)]
  simp
  omega

theorem quoteL_inj {l r : List UInt8} (h : quoteL l = quoteL r) : l = r := by
  have h1 := quoteL_told l []
  rw [h, quoteL_told r []] at h1
  have := Option.some.inj h1
  exact (Prod.ext_iff.1 this).1.symm

/-- No byte of a quoted text is below 32, nor 127. -/
theorem quoteF_bytes (f : Nat) (l : List UInt8) : ∀ x ∈ quoteF f l, 32 ≤ x.toNat ∧ x.toNat ≠ 127 := by
  induction f generalizing l with
  | zero => intro x hx; cases hx
  | succ f ih =>
    intro x hx
    rw [quoteF] at hx
    split at hx
    · cases hx
    · rename_i hl
      rcases List.mem_append.1 hx with h | h
      · unfold pieceL at h
        split at h
        · rename_i hq
          have hv : (UInt8.ofNat (at0 l 0)).toNat = at0 l 0 := by have := at0_lt l 0; simp; omega
          simp only [List.mem_cons, List.not_mem_nil, or_false] at h
          rcases h with rfl | rfl
          · decide
          · rw [hv]; omega
        split at h
        · simp only [List.mem_cons, List.not_mem_nil, or_false] at h
          rcases h with rfl | rfl <;> decide
        split at h
        · simp only [List.mem_cons, List.not_mem_nil, or_false] at h
          rcases h with rfl | rfl <;> decide
        split at h
        · have b0 := at0_lt l 0
          have f1 := figL_big (at0 l 0 / 16) (by omega)
          have f2 := figL_big (at0 l 0 % 16) (by omega)
          simp only [List.mem_cons, List.not_mem_nil, or_false] at h
          rcases h with rfl | rfl | rfl | rfl
          · decide
          · decide
          · omega
          · omega
        · rename_i n1 n2 n3 n4
          obtain ⟨i, hi, hix⟩ := List.getElem_of_mem h
          have hi2 : i < longL l := by simp at hi; omega
          have hi3 : i < l.length := by simp at hi; omega
          have e : at0 l i = x.toNat := by
            rw [← hix]
            unfold at0
            rw [List.getD_eq_getElem?_getD, List.getElem?_eq_getElem hi3]
            simp
          by_cases h0 : i = 0
          · subst h0; omega
          · have := (long_cont (by omega) hi2).1
            omega
      · exact ih _ x h

theorem quoteL_bytes (l : List UInt8) : ∀ x ∈ quoteL l, 32 ≤ x.toNat ∧ x.toNat ≠ 127 := by
  intro x hx
  unfold quoteL at hx
  simp only [List.mem_append, List.mem_cons, List.not_mem_nil, or_false] at hx
  rcases hx with (rfl | h) | rfl
  · decide
  · exact quoteF_bytes _ _ x h
  · decide

theorem quoteF_len (f : Nat) (l : List UInt8) : (quoteF f l).length ≤ 4 * f := by
  induction f generalizing l with
  | zero => exact Nat.le_refl _
  | succ f ih =>
    rw [quoteF]
    split
    · simp
    · have := ih (l.drop (wid l))
      have h2 := pieceL_len l
      rw [List.length_append]
      omega

/-- Enough steps are enough. -/
theorem quoteF_more (f g : Nat) (l : List UInt8) (hf : l.length ≤ f) (hg : l.length ≤ g) : quoteF f l = quoteF g l := by
  induction f generalizing g l with
  | zero =>
    obtain rfl : l = [] := List.eq_nil_of_length_eq_zero (by omega)
    rw [quoteF_nil, quoteF_nil]
  | succ f ih =>
    by_cases hl : l = []
    · subst hl; rw [quoteF_nil, quoteF_nil]
    · have h0 := List.length_pos_iff.mpr hl
      obtain ⟨g, rfl⟩ : ∃ m, g = m + 1 := ⟨g - 1, by omega⟩
      have hw := wid_pos l
      have hd : (l.drop (wid l)).length = l.length - wid l := by simp
      rw [quoteF, quoteF, if_neg hl, if_neg hl, ih g _ (by omega) (by omega)]

end Go.Proofs.YtfmmhmkaphbmpaaDoor.G
