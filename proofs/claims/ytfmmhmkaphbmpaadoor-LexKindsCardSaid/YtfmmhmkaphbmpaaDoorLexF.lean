/-
  Plain lists of bytes, no program: what a token's first byte says of its kind. No conditions but those that each lemma names.
-/
import Derived.Test.YtfmmhmkaphbmpaaDoorLexE
namespace Go.Proofs.YtfmmhmkaphbmpaaDoor.L
open Go

theorem tok_one {p : Nat} {l : List UInt8} {r : List Tok} (h : Tk p l r) : ∀ (T : List UInt8), l = T.drop p → ∀ (i : Nat) (hi : i < r.length), (i + 1 = r.length ∧ r[i].kind = 0) ∨ (r[i].fr < T.length ∧ oneL (T.drop r[i].fr) = some (r[i].kind, r[i].text, r[i].to - r[i].fr)) := by
  induction h with
  | done p =>
    intro T hl i hi
    have hi0 : i = 0 := by simp at hi; exact hi
    subst hi0
    exact Or.inl ⟨rfl, rfl⟩
  | step p l k x n r hl ho hr ih =>
    intro T hlT i hi
    have hlen : l.length = T.length - p := by rw [hlT, List.length_drop]
    have hpos := List.length_pos_iff.2 hl
    cases i with
    | zero =>
      refine Or.inr ⟨?_, ?_⟩
      · show p < T.length
        omega
      · show oneL (T.drop p) = some (k, x, p + n - p)
        rw [← hlT, show p + n - p = n by omega]
        exact ho
    | succ j =>
      have hj : j < r.length := by simpa using hi
      have hd : l.drop n = T.drop (p + n) := by rw [hlT, List.drop_drop]
      have h2 := ih T (by rw [hd, List.drop_drop]) j hj
      have e : (j + 1 + 1 = (⟨k, x, p, p + n⟩ :: r : List Tok).length) = (j + 1 = r.length) := by simp
      rw [e]
      exact h2

theorem tok_all {T : List UInt8} {r : List Tok} (h : All T r) (i : Nat) (hi : i < r.length) : (i + 1 = r.length ∧ r[i].kind = 0) ∨ (r[i].fr < T.length ∧ oneL (T.drop r[i].fr) = some (r[i].kind, r[i].text, r[i].to - r[i].fr)) :=
  tok_one h T rfl i hi

/-- What the first byte c of a token of kind k is, and what its text is. -/
def First (c k : Nat) (x : List UInt8) : Prop :=
  (k = 1 ∧ 97 ≤ c ∧ c ≤ 122 ∧ nameL 97 122 x = true ∧ keyL x = false) ∨ (k = 6 ∧ 97 ≤ c ∧ c ≤ 122 ∧ nameL 97 122 x = true ∧ keyL x = true) ∨
  (k = 2 ∧ 65 ≤ c ∧ c ≤ 90 ∧ nameL 65 90 x = true) ∨ (k = 3 ∧ 48 ≤ c ∧ c ≤ 57 ∧ x.length ≤ 18) ∨ (k = 4 ∧ c = 34) ∨
  (k = 5 ∧ (c < 34 ∨ (34 < c ∧ c < 48) ∨ (58 ≤ c ∧ c ≤ 64) ∨ (91 ≤ c ∧ c ≤ 96) ∨ 123 ≤ c))

theorem low_two (c : Nat) (p : Prop) : (c < 34 ∨ (34 < c ∧ c < 48) ∨ p) = ((c < 48 ∧ c ≠ 34) ∨ p) := by
  apply propext
  by_cases hp : p
  · simp [hp]
  · simp [hp]
    omega

theorem name_head {lo hi : Int} {x : List UInt8} (h : nameL lo hi x = true) : lo ≤ (G.at0 x 0 : Int) ∧ (G.at0 x 0 : Int) ≤ hi := by
  cases x with
  | nil => simp [nameL] at h
  | cons c r =>
    simp only [nameL, Bool.and_eq_true] at h
    have h1 := h.1
    unfold inB at h1
    simp at h1
    exact h1

theorem dig_head {x : List UInt8} (h0 : 0 < x.length) (h : runL digB x = x.length) : 48 ≤ G.at0 x 0 ∧ G.at0 x 0 ≤ 57 := by
  cases x with
  | nil => simp at h0
  | cons c r =>
    have hd : digB c = true := by
      cases hb : digB c with
      | true => rfl
      | false => rw [runL, if_neg (by rw [hb]; simp)] at h; simp at h
    unfold digB inB at hd
    simp at hd
    show 48 ≤ c.toNat ∧ c.toNat ≤ 57
    omega

theorem first_byte {l : List UInt8} {k n : Nat} {x : List UInt8} (h : oneL l = some (k, x, n)) : First (G.at0 l 0) k x := by
  rcases oneL_ways h with ⟨rfl, h34, _⟩ | ⟨rfl, h34, hx, hne, _⟩ | ⟨h34, _, hn, hx, hk, hk0, hk4⟩
  · exact Or.inr (Or.inr (Or.inr (Or.inr (Or.inl ⟨rfl, h34⟩))))
  · refine Or.inr (Or.inr (Or.inr (Or.inr (Or.inr ⟨rfl, ?_⟩))))
    have hall : ∀ g ∈ signsL, ∃ c r, g = c :: r ∧ (c.toNat < 34 ∨ (34 < c.toNat ∧ c.toNat < 48) ∨ (58 ≤ c.toNat ∧ c.toNat ≤ 64) ∨ (91 ≤ c.toNat ∧ c.toNat ≤ 96) ∨ 123 ≤ c.toNat) := by
      intro g hg
      simp only [signsL, List.mem_cons, List.not_mem_nil, or_false] at hg
      rcases hg with rfl | rfl | rfl | rfl | rfl | rfl | rfl | rfl | rfl | rfl | rfl | rfl | rfl | rfl | rfl | rfl | rfl | rfl | rfl | rfl | rfl | rfl | rfl | rfl <;> exact ⟨_, _, rfl, by decide⟩
    rcases firstL_mem signsL l with h3 | ⟨h3, h5⟩
    · exact absurd (hx.trans h3) hne
    · obtain ⟨c, r, hc, hr⟩ := hall _ h3
      rw [hc] at h5
      obtain ⟨t, ht⟩ := h5
      have e : G.at0 l 0 = c.toNat := by rw [← ht]; rfl
      rw [e]
      exact hr
  · have hp : 0 < x.length := kindL_pos (by rw [← hk]; exact hk0)
    have h0 : G.at0 x 0 = G.at0 l 0 := by
      have h1 := List.take_append_drop n l
      rw [← hx] at h1
      rw [← h1]
      exact (at0_app hp).symm
    rw [← h0]
    unfold kindL at hk
    by_cases c1 : keyL x = true
    · rw [if_pos c1] at hk
      have hw := key_word c1
      have hh := name_head hw
      exact Or.inr (Or.inl ⟨hk, by omega, by omega, hw, c1⟩)
    rw [if_neg c1] at hk
    by_cases c2 : nameL 97 122 x = true
    · rw [if_pos c2] at hk
      have hh := name_head c2
      exact Or.inl ⟨hk, by omega, by omega, c2, (Bool.not_eq_true _).mp c1⟩
    rw [if_neg c2] at hk
    by_cases c3 : nameL 65 90 x = true
    · rw [if_pos c3] at hk
      have hh := name_head c3
      exact Or.inr (Or.inr (Or.inl ⟨hk, by omega, by omega, c3⟩))
    rw [if_neg c3] at hk
    by_cases c4 : numL x = true
    · rw [if_pos c4] at hk
      unfold numL at c4
      simp only [Bool.and_eq_true, decide_eq_true_eq] at c4
      obtain ⟨_, h18, hd⟩ := c4
      have hh := dig_head hp hd
      exact Or.inr (Or.inr (Or.inr (Or.inl ⟨hk, by omega, by omega, h18⟩)))
    · rw [if_neg c4] at hk
      exact absurd hk hk0

end Go.Proofs.YtfmmhmkaphbmpaaDoor.L
