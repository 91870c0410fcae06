/-
  Plain lists of bytes, no program: bytes behind a rune's first one, a list put behind another one, places on, and words with a byte more.
-/
import Derived.Test.YtfmmhmkaphbmpaaDoorGlyPw
import Derived.Test.YtfmmhmkaphbmpaaDoorGlyN
namespace Go.Proofs.YtfmmhmkaphbmpaaDoor.G
open Go

/-- The bytes behind a rune's first one are high. -/
theorem long_cont {l : List UInt8} {k : Nat} (h0 : 0 < k) (hk : k < longL l) : 128 ≤ at0 l k ∧ k < l.length := by
  by_cases hl : l = []
  · subst hl
    have : longL ([] : List UInt8) = 1 := rfl
    omega
  by_cases c1 : at0 l 0 < 128
  · rw [longL_1 c1] at hk; omega
  by_cases c2 : 194 ≤ at0 l 0 ∧ at0 l 0 ≤ 223
  · rw [longL_2 c2.1 c2.2] at hk
    split at hk
    · rename_i h
      simp only [contL, Bool.and_eq_true, decide_eq_true_eq] at h
      obtain rfl : k = 1 := by omega
      omega
    · omega
  by_cases c3 : 224 ≤ at0 l 0 ∧ at0 l 0 ≤ 239
  · obtain ⟨lo, hlo⟩ : ∃ x, x = if at0 l 0 = 224 then 160 else 128 := ⟨_, rfl⟩
    obtain ⟨hi, hhi⟩ : ∃ x, x = if at0 l 0 = 237 then 159 else 191 := ⟨_, rfl⟩
    rw [longL_3 c3.1 c3.2 hlo hhi] at hk
    split at hk
    · rename_i h
      simp only [contL, Bool.and_eq_true, decide_eq_true_eq] at h
      obtain ⟨⟨a1, a2, a3⟩, b1, b2, b3⟩ := h
      have : 128 ≤ lo := by rw [hlo]; split <;> omega
      rcases (show k = 1 ∨ k = 2 by omega) with rfl | rfl <;> omega
    · omega
  by_cases c4 : 240 ≤ at0 l 0 ∧ at0 l 0 ≤ 244
  · obtain ⟨lo, hlo⟩ : ∃ x, x = if at0 l 0 = 240 then 144 else 128 := ⟨_, rfl⟩
    obtain ⟨hi, hhi⟩ : ∃ x, x = if at0 l 0 = 244 then 143 else 191 := ⟨_, rfl⟩
    rw [longL_4 c4.1 c4.2 hlo hhi] at hk
    split at hk
    · rename_i h
      simp only [contL, Bool.and_eq_true, decide_eq_true_eq] at h
      obtain ⟨⟨⟨a1, a2, a3⟩, b1, b2, b3⟩, d1, d2, d3⟩ := h
      have : 128 ≤ lo := by rw [hlo]; split <;> omega
      rcases (show k = 1 ∨ k = 2 ∨ k = 3 by omega) with rfl | rfl | rfl <;> omega
    · omega
  · rw [longL_0 (by omega) (by omega)] at hk
    omega

/-- A rune hangs on its own bytes alone. -/
theorem longL_same {l r : List UInt8} (h1 : 1 ≤ longL l) (hb : ∀ k, k < longL l → at0 r k = at0 l k) (hr : longL l ≤ r.length) : longL r = longL l := by
  have e0 : at0 r 0 = at0 l 0 := hb 0 h1
  by_cases c1 : at0 l 0 < 128
  · rw [longL_1 c1, longL_1 (by omega)]
  by_cases c2 : 194 ≤ at0 l 0 ∧ at0 l 0 ≤ 223
  · rw [longL_2 c2.1 c2.2] at h1 hb hr ⊢
    rw [longL_2 (by omega) (by omega)]
    split at h1
    · rename_i h
      rw [if_pos h] at hb hr ⊢
      simp only [contL, Bool.and_eq_true, decide_eq_true_eq] at h
      have e1 := hb 1 (by omega)
      rw [if_pos (by simp only [contL, Bool.and_eq_true, decide_eq_true_eq]; omega)]
    · omega
  by_cases c3 : 224 ≤ at0 l 0 ∧ at0 l 0 ≤ 239
  · obtain ⟨lo, hlo⟩ : ∃ x, x = if at0 l 0 = 224 then 160 else 128 := ⟨_, rfl⟩
    obtain ⟨hi, hhi⟩ : ∃ x, x = if at0 l 0 = 237 then 159 else 191 := ⟨_, rfl⟩
    rw [longL_3 c3.1 c3.2 hlo hhi] at h1 hb hr ⊢
    rw [longL_3 (l := r) (by omega) (by omega) (show lo = _ by rw [e0]; exact hlo) (show hi = _ by rw [e0]; exact hhi)]
    split at h1
    · rename_i h
      rw [if_pos h] at hb hr ⊢
      simp only [contL, Bool.and_eq_true, decide_eq_true_eq] at h
      have e1 := hb 1 (by omega)
      have e2 := hb 2 (by omega)
      rw [if_pos (by simp only [contL, Bool.and_eq_true, decide_eq_true_eq]; rw [e1, e2]; obtain ⟨⟨a1, a2, a3⟩, b1, b2, b3⟩ := h; exact ⟨⟨by omega, a2, a3⟩, by omega, b2, b3⟩)]
    · omega
  by_cases c4 : 240 ≤ at0 l 0 ∧ at0 l 0 ≤ 244
  · obtain ⟨lo, hlo⟩ : ∃ x, x = if at0 l 0 = 240 then 144 else 128 := ⟨_, rfl⟩
    obtain ⟨hi, hhi⟩ : ∃ x, x = if at0 l 0 = 244 then 143 else 191 := ⟨_, rfl⟩
    rw [longL_4 c4.1 c4.2 hlo hhi] at h1 hb hr ⊢
    rw [longL_4 (l := r) (by omega) (by omega) (show lo = _ by rw [e0]; exact hlo) (show hi = _ by rw [e0]; exact hhi)]
    split at h1
    · rename_i h
      rw [if_pos h] at hb hr ⊢
      simp only [contL, Bool.and_eq_true, decide_eq_true_eq] at h
      have e1 := hb 1 (by omega)
      have e2 := hb 2 (by omega)
      have e3 := hb 3 (by omega)
      rw [if_pos (by simp only [contL, Bool.and_eq_true, decide_eq_true_eq]; rw [e1, e2, e3]; obtain ⟨⟨⟨a1, a2, a3⟩, b1, b2, b3⟩, d1, d2, d3⟩ := h; exact ⟨⟨⟨by omega, a2, a3⟩, by omega, b2, b3⟩, by omega, d2, d3⟩)]
    · omega
  · rw [longL_0 (by omega) (by omega)] at h1
    omega

theorem at0_app {l r : List UInt8} {k : Nat} (h : k < l.length) : at0 (l ++ r) k = at0 l k := by
  unfold at0
  rw [List.getD_eq_getElem?_getD, List.getD_eq_getElem?_getD, List.getElem?_append_left h]

theorem at0_past {l : List UInt8} {k : Nat} (h : l.length ≤ k) : at0 l k = 0 := by
  unfold at0
  rw [List.getD_eq_getElem?_getD, List.getElem?_eq_none h]
  rfl

theorem long_le {l : List UInt8} (hl : l ≠ []) : longL l ≤ l.length := by
  rcases rune_long l hl with ⟨h, _, _⟩ | ⟨_, h, _⟩ <;> omega

/-- A whole rune at the head stays one, whatever stands behind. -/
theorem longL_app {l r : List UInt8} (hl : l ≠ []) (h1 : 1 ≤ longL l) : longL (l ++ r) = longL l :=
  longL_same h1 (fun k hk => at0_app (Nat.lt_of_lt_of_le hk (long_le hl))) (by have := long_le hl; simp; omega)

theorem at0_drop2 (l : List UInt8) (i k : Nat) : at0 (l.drop i) k = at0 l (i + k) := by
  unfold at0
  rw [List.getD_eq_getElem?_getD, List.getD_eq_getElem?_getD, List.getElem?_drop]

/-- Enough steps are enough. -/
theorem placeL_more (f g : Nat) (k : Int) (l : List UInt8) (a b : Nat) (hf : l.length ≤ f) (hg : l.length ≤ g) : placeL f k l a b = placeL g k l a b := by
  induction f generalizing g k l a b with
  | zero =>
    have : l = [] := List.eq_nil_of_length_eq_zero (by omega)
    rw [placeL_stop (Or.inl this), placeL_stop (Or.inl this)]
  | succ f ih =>
    by_cases hs : l = [] ∨ k ≤ 0
    · rw [placeL_stop hs, placeL_stop hs]
    · have hl : l ≠ [] := fun h => hs (Or.inl h)
      have h0 := List.length_pos_iff.mpr hl
      obtain ⟨g, rfl⟩ : ∃ m, g = m + 1 := ⟨g - 1, by omega⟩
      have hw := wid_pos l
      have hd : (l.drop (wid l)).length = l.length - wid l := by simp
      rw [placeL, placeL, if_neg hs, if_neg hs]
      split
      · exact ih _ _ _ _ _ (by omega) (by omega)
      · exact ih _ _ _ _ _ (by omega) (by omega)

/-- Lines on. -/
theorem placeL_shift (f : Nat) (k : Int) (l : List UInt8) (a b n : Nat) : placeL f k l (a + n) b = ((placeL f k l a b).1 + n, (placeL f k l a b).2) := by
  induction f generalizing k l a b with
  | zero => rfl
  | succ f ih =>
    rw [placeL, placeL]
    split
    · rfl
    split
    · rw [show a + n + 1 = a + 1 + n by omega]; exact ih _ _ _ _
    · exact ih _ _ _ _

theorem placeL_ge (f : Nat) (k : Int) (l : List UInt8) (a b : Nat) (hb : 1 ≤ b) : a ≤ (placeL f k l a b).1 ∧ 1 ≤ (placeL f k l a b).2 := by
  induction f generalizing k l a b with
  | zero => exact ⟨Nat.le_refl _, hb⟩
  | succ f ih =>
    rw [placeL]
    split
    · exact ⟨Nat.le_refl _, hb⟩
    split
    · have := ih (k - wid l) (l.drop (wid l)) (a + 1) 1 (Nat.le_refl _)
      omega
    · have := ih (k - wid l) (l.drop (wid l)) a (b + 1) (by omega)
      omega

theorem placeL_step {f : Nat} {k : Int} {l : List UInt8} {a b : Nat} (h : ¬ (l = [] ∨ k ≤ 0)) : placeL (f + 1) k l a b = if at0 l 0 = 10 then placeL f (k - wid l) (l.drop (wid l)) (a + 1) 1 else placeL f (k - wid l) (l.drop (wid l)) a (b + 1) := by
  rw [placeL, if_neg h]

/-- One byte on: a line more behind a line's end, else the same line, and the same column or the next. -/
theorem placeL_one (f : Nat) (k : Nat) (l : List UInt8) (a b : Nat) (hf : l.length ≤ f) (hk : k < l.length) :
    (at0 l k = 10 → placeL f ((k : Int) + 1) l a b = ((placeL f k l a b).1 + 1, 1)) ∧
    (at0 l k ≠ 10 → (placeL f ((k : Int) + 1) l a b).1 = (placeL f k l a b).1 ∧ ((placeL f ((k : Int) + 1) l a b).2 = (placeL f k l a b).2 ∨ (placeL f ((k : Int) + 1) l a b).2 = (placeL f k l a b).2 + 1)) := by
  induction f generalizing k l a b with
  | zero => omega
  | succ f ih =>
    have hl : l ≠ [] := by intro h; subst h; simp at hk
    have hw := wid_pos l
    have hd : (l.drop (wid l)).length = l.length - wid l := by simp
    by_cases h0 : k = 0
    · subst h0
      have e0 : placeL (f + 1) ((0 : Nat) : Int) l a b = (a, b) := placeL_stop (Or.inr (by omega))
      have e1 : placeL (f + 1) (((0 : Nat) : Int) + 1) l a b = if at0 l 0 = 10 then (a + 1, 1) else (a, b + 1) := by
        rw [placeL_step (by intro h; rcases h with h | h; exact hl h; omega), placeL_stop (Or.inr (by omega)), placeL_stop (Or.inr (by omega))]
      rw [e0, e1]
      constructor
      · intro h
        rw [if_pos h]
      · intro h
        rw [if_neg h]
        exact ⟨rfl, Or.inr rfl⟩
    · rw [placeL_step (k := (k : Int) + 1) (by intro h; rcases h with h | h; exact hl h; omega), placeL_step (k := (k : Int)) (by intro h; rcases h with h | h; exact hl h; omega)]
      by_cases hkw : k < wid l
      · have hk2 : k < longL l := by unfold wid at hkw; omega
        have hc := long_cont (by omega) hk2
        refine ⟨fun h => by omega, fun _ => ?_⟩
        split
        · rw [placeL_stop (Or.inr (by omega)), placeL_stop (Or.inr (by omega))]
          exact ⟨rfl, Or.inl rfl⟩
        · rw [placeL_stop (Or.inr (by omega)), placeL_stop (Or.inr (by omega))]
          exact ⟨rfl, Or.inl rfl⟩
      · have e1 : ((k : Int) + 1 - (wid l : Nat)) = ((k - wid l : Nat) : Int) + 1 := by omega
        have e2 : ((k : Int) - (wid l : Nat)) = ((k - wid l : Nat) : Int) := by omega
        have e3 : at0 (l.drop (wid l)) (k - wid l) = at0 l k := by rw [at0_drop2, show wid l + (k - wid l) = k by omega]
        rw [e1, e2, ← e3]
        split
        · exact ih (k - wid l) (l.drop (wid l)) (a + 1) 1 (by omega) (by omega)
        · exact ih (k - wid l) (l.drop (wid l)) a (b + 1) (by omega) (by omega)

/-- How many line ends a list has. -/
def ends (l : List UInt8) : Nat := (l.filter fun c => c == 10).length

theorem ends_take (l : List UInt8) (n : Nat) : ends l = ends (l.take n) + ends (l.drop n) := by
  unfold ends
  rw [← List.length_append, ← List.filter_append, List.take_append_drop]

/-- Behind a text and a line's end the places are the other text's, so many lines on. -/
theorem placeL_behind (n : Nat) : ∀ (f : Nat) (k : Int) (x y : List UInt8) (a b : Nat), x.length ≤ n → x.length + 1 + y.length ≤ f → 0 ≤ k →
    placeL f ((x.length : Int) + 1 + k) (x ++ 10 :: y) a b = placeL f k y (a + ends x + 1) 1 := by
  induction n with
  | zero =>
    intro f k x y a b hx hf hk
    obtain rfl : x = [] := List.eq_nil_of_length_eq_zero (by omega)
    obtain ⟨f, rfl⟩ : ∃ m, f = m + 1 := ⟨f - 1, by simp at hf; omega⟩
    have w1 : wid (10 :: y) = 1 := by
      unfold wid
      rw [longL_1 (show at0 (10 :: y) 0 < 128 from (by decide : (10 : Nat) < 128))]
      rfl
    rw [List.nil_append, placeL, if_neg (by rintro (h | h); cases h; simp at h; omega), if_pos (show at0 (10 :: y) 0 = 10 by rfl), w1]
    have e : (([] : List UInt8).length : Int) + 1 + k - ((1 : Nat) : Int) = k := by simp; omega
    rw [e]
    exact placeL_more f (f + 1) k y (a + 1) 1 (by simp at hf; omega) (by simp at hf; omega)
  | succ n ih =>
    intro f k x y a b hx hf hk
    by_cases hx0 : x = []
    · subst hx0
      exact ih f k [] y a b (by simp) hf hk
    · have h0 := List.length_pos_iff.mpr hx0
      obtain ⟨f, rfl⟩ : ∃ m, f = m + 1 := ⟨f - 1, by omega⟩
      have hne : x ++ 10 :: y ≠ [] := by simp
      have hw := wid_pos (x ++ 10 :: y)
      have hwx : wid (x ++ 10 :: y) ≤ x.length := by
        rcases Nat.lt_or_ge x.length (wid (x ++ 10 :: y)) with h | h
        · have hL : x.length < longL (x ++ 10 :: y) := by unfold wid at h; omega
          have hc := long_cont h0 hL
          have : at0 (x ++ 10 :: y) x.length = 10 := by
            unfold at0
            rw [List.getD_eq_getElem?_getD, List.getElem?_append_right (Nat.le_refl _)]
            simp
          omega
        · exact h
      have hdrop : (x ++ 10 :: y).drop (wid (x ++ 10 :: y)) = x.drop (wid (x ++ 10 :: y)) ++ 10 :: y := by
        rw [List.drop_append_of_le_length hwx]
      have hdl : (x.drop (wid (x ++ 10 :: y))).length = x.length - wid (x ++ 10 :: y) := by simp
      have hk2 : (x.length : Int) + 1 + k - (wid (x ++ 10 :: y) : Nat) = ((x.drop (wid (x ++ 10 :: y))).length : Int) + 1 + k := by omega
      have hends := ends_take x (wid (x ++ 10 :: y))
      -- of the rune's own bytes only the first can be a line's end
      have htake : ends (x.take (wid (x ++ 10 :: y))) = if at0 (x ++ 10 :: y) 0 = 10 then 1 else 0 := by
        have hx1 : x.take (wid (x ++ 10 :: y)) = x.head hx0 :: (x.take (wid (x ++ 10 :: y))).tail := by
          cases x with
          | nil => exact absurd rfl hx0
          | cons c r =>
            obtain ⟨m, hm⟩ : ∃ m, wid ((c :: r) ++ 10 :: y) = m + 1 := ⟨wid ((c :: r) ++ 10 :: y) - 1, by omega⟩
            rw [hm]
            rfl
        have hh : at0 (x ++ 10 :: y) 0 = (x.head hx0).toNat := by
          cases x with
          | nil => exact absurd rfl hx0
          | cons c r => rfl
        have htl : ∀ c ∈ (x.take (wid (x ++ 10 :: y))).tail, (c == 10) = false := by
          intro c hc
          obtain ⟨i, hi, hic⟩ := List.getElem_of_mem hc
          have hi2 : i + 1 < wid (x ++ 10 :: y) := by simp at hi; omega
          have hL : i + 1 < longL (x ++ 10 :: y) := by unfold wid at hi2; omega
          have hcc := (long_cont (by omega) hL).1
          rw [at0_app (by omega)] at hcc
          have : at0 x (i + 1) = c.toNat := by
            rw [← hic]
            unfold at0
            rw [List.getD_eq_getElem?_getD, List.getElem?_eq_getElem (show i + 1 < x.length by omega)]
            simp
          simp
          intro e
          subst e
          have h10 : UInt8.toNat 10 = 10 := rfl
          omega
        unfold ends
        rw [hx1, List.filter_cons, List.filter_eq_nil_iff.mpr (fun c hc => by rw [htl c hc]; simp)]
        rw [hh]
        by_cases e : x.head hx0 = 10
        · rw [e]; rfl
        · have e2 : ¬ (x.head hx0).toNat = 10 := fun h => e (UInt8.toNat_inj.1 h)
          simp [e, e2]
      rw [placeL, if_neg (by rintro (h | h); exact hne h; omega), hdrop, hk2]
      split
      · rename_i h10
        rw [ih f k _ y (a + 1) 1 (by omega) (by omega) hk, placeL_more f (f + 1) k y _ 1 (by omega) (by omega)]
        congr 1
        rw [htake, if_pos h10] at hends
        omega
      · rename_i h10
        rw [ih f k _ y a (b + 1) (by omega) (by omega) hk, placeL_more f (f + 1) k y _ 1 (by omega) (by omega)]
        congr 1
        rw [htake, if_neg h10] at hends
        omega

end Go.Proofs.YtfmmhmkaphbmpaaDoor.G
