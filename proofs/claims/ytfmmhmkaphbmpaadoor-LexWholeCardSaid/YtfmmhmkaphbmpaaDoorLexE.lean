/-
  Plain lists of bytes, no program: what the tokens of a text cover; what a token's first byte is. No conditions but those that each lemma names.
-/
import Derived.Test.YtfmmhmkaphbmpaaDoorLexB
namespace Go.Proofs.YtfmmhmkaphbmpaaDoor.L
open Go

/-- Where the token ahead of number i ends. -/
def prevT (at_ : Nat) (r : List Tok) (i : Nat) : Nat :=
  match i with
  | 0 => at_
  | j + 1 => (r.getD j ⟨0, [], 0, 0⟩).to

theorem prevT_cons (at_ : Nat) (t : Tok) (r : List Tok) (i : Nat) : prevT at_ (t :: r) (i + 1) = prevT t.to r i := by
  cases i with
  | zero => rfl
  | succ j => rfl

theorem prevT_next (at_ : Nat) (r : List Tok) (i : Nat) (h : i < r.length) : prevT at_ r (i + 1) = r[i].to := by
  show (r.getD i ⟨0, [], 0, 0⟩).to = r[i].to
  rw [List.getD_eq_getElem?_getD, List.getElem?_eq_getElem h]
  rfl

/-- What is so of token i, behind place a. -/
def Cov (T : List UInt8) (a : Nat) (t : Tok) (last : Prop) : Prop :=
  t.fr = a + skipL false (T.drop a) ∧ a ≤ T.length ∧ t.to ≤ T.length ∧ t.fr ≤ t.to ∧ (t.to = t.fr ↔ last) ∧ (t.kind = 0 ↔ last) ∧ (t.kind ≠ 4 → t.text = (T.drop t.fr).take (t.to - t.fr)) ∧ (last → t.to = T.length)

theorem cover {p : Nat} {l : List UInt8} {r : List Tok} (h : Tk p l r) : ∀ (T : List UInt8) (a : Nat), a ≤ T.length → p = a + skipL false (T.drop a) → l = T.drop p → ∀ (i : Nat) (hi : i < r.length), Cov T (prevT a r i) r[i] (i + 1 = r.length) := by
  induction h with
  | done p =>
    intro T a ha hp hl i hi
    have hi0 : i = 0 := by simp at hi; exact hi
    subst hi0
    have hle := skipL_le false (T.drop a)
    rw [List.length_drop] at hle
    have hT : T.length ≤ p := by
      have := congrArg List.length hl
      simp at this
      omega
    refine ⟨hp, ha, ?_, Nat.le_refl _, by simp, by simp, fun _ => ?_, fun _ => ?_⟩
    · show p ≤ T.length
      omega
    · show [] = _
      simp
    · show p = T.length
      omega
  | step p l k x n r hl ho hr ih =>
    intro T a ha hp hlT i hi
    obtain ⟨hk1, hk6, hn1, hnl⟩ := oneL_facts ho
    have hle := skipL_le false (T.drop a)
    rw [List.length_drop] at hle
    have hlen : l.length = T.length - p := by rw [hlT, List.length_drop]
    have hrl : 0 < r.length := List.length_pos_iff.2 (tk_ne hr)
    cases i with
    | zero =>
      refine ⟨hp, ha, ?_, ?_, ?_, ?_, ?_, ?_⟩
      · show p + n ≤ T.length
        omega
      · show p ≤ p + n
        omega
      · show p + n = p ↔ 0 + 1 = r.length + 1
        omega
      · show k = 0 ↔ 0 + 1 = r.length + 1
        omega
      · intro hk4
        show x = (T.drop p).take (p + n - p)
        rw [← hlT, show p + n - p = n by omega]
        exact one_text ho hk4
      · intro h
        have : 0 + 1 = r.length + 1 := h
        omega
    | succ j =>
      have hj : j < r.length := by simpa using hi
      have hd : l.drop n = T.drop (p + n) := by rw [hlT, List.drop_drop]
      have h2 := ih T (p + n) (by omega) (by rw [hd]) (by rw [hd, List.drop_drop]) j hj
      rw [prevT_cons]
      have e : (j + 1 + 1 = (⟨k, x, p, p + n⟩ :: r : List Tok).length) = (j + 1 = r.length) := by simp
      rw [e]
      exact h2

theorem cover_all {T : List UInt8} {r : List Tok} (h : All T r) (i : Nat) (hi : i < r.length) : Cov T (prevT 0 r i) r[i] (i + 1 = r.length) :=
  cover h T 0 (by omega) (by simp) rfl i hi

/-- One byte further through what stands between. -/
theorem skip_step {T : List UInt8} {k : Nat} {b : Bool} {fr : Nat} (hk : k < T.length) (h : k + skipL b (T.drop k) = fr) (hlt : k < fr) :
    ∃ b2 : Bool, b2 = ((b && T[k].toNat != 10) || T[k].toNat == 35) ∧ k + 1 + skipL b2 (T.drop (k + 1)) = fr ∧ (b2 = false → T[k].toNat = 32 ∨ T[k].toNat = 9 ∨ T[k].toNat = 10) := by
  rw [List.drop_eq_getElem_cons hk] at h
  generalize T[k] = c at *
  cases b with
  | false =>
    rw [skipL] at h
    split at h
    · rename_i hb
      have hor : c.toNat = 32 ∨ c.toNat = 9 ∨ c.toNat = 10 := by
        unfold blankB at hb
        simp at hb
        omega
      refine ⟨false, ?_, by omega, fun _ => hor⟩
      have : (c.toNat == 35) = false := beq_eq_false_iff_ne.2 (by omega)
      rw [this]
      rfl
    · split at h
      · rename_i h35
        refine ⟨true, ?_, by omega, by simp⟩
        rw [beq_iff_eq.2 h35]
        rfl
      · omega
  | true =>
    rw [skipL] at h
    split at h
    · rename_i h10
      refine ⟨false, ?_, by omega, fun _ => Or.inr (Or.inr h10)⟩
      have h1 : (c.toNat == 35) = false := beq_eq_false_iff_ne.2 (by omega)
      have h2 : (c.toNat != 10) = false := by rw [h10]; rfl
      rw [h1, h2]
      rfl
    · rename_i h10
      refine ⟨true, ?_, by omega, by simp⟩
      have h2 : (c.toNat != 10) = true := by simpa using h10
      rw [h2]
      rfl

end Go.Proofs.YtfmmhmkaphbmpaaDoor.L
