/-
  Plain graphs, no program: what a node leads to; a walk that marks what it meets, as far as it is not marked yet. No conditions but those that each lemma names.
-/
import Derived.Test.YtahaflapkdjmhaaRows
namespace Go.Proofs.Ytahaflapkdjmhaa.Gr

/-- j can be come to from i. -/
inductive Rch (nx : Nat → List Nat) : Nat → Nat → Prop
  | refl (i : Nat) : Rch nx i i
  | step {i k j : Nat} : k ∈ nx i → Rch nx k j → Rch nx i j

theorem Rch.trans {nx : Nat → List Nat} {i j k : Nat} (h : Rch nx i j) (g : Rch nx j k) : Rch nx i k := by
  induction h with
  | refl => exact g
  | step h1 _ ih => exact .step h1 (ih g)
theorem Rch.one {nx : Nat → List Nat} {i k : Nat} (h : k ∈ nx i) : Rch nx i k := .step h (.refl k)
theorem Rch.snoc {nx : Nat → List Nat} {i j k : Nat} (h : Rch nx i j) (g : k ∈ nx j) : Rch nx i k := h.trans (.one g)
theorem Rch.lt {nx : Nat → List Nat} {n i j : Nat} (hn : ∀ i, i < n → ∀ k ∈ nx i, k < n) (h : Rch nx i j) (hi : i < n) : j < n := by
  induction h with
  | refl => exact hi
  | step h1 _ ih => exact ih (hn _ hi _ h1)

/-- The walk: S is what was marked, in order. -/
def dfs (nx : Nat → List Nat) : Nat → Nat → List Nat → List Nat
  | 0, _, S => S
  | f + 1, i, S => if i ∈ S then S else (nx i).foldl (fun S k => dfs nx f k S) (S ++ [i])

/-- What a walk from i makes of S. -/
structure Grown (nx : Nat → List Nat) (n : Nat) (from_ : List Nat) (S T : List Nat) : Prop where
  eq : ∃ R, T = S ++ R ∧ (∀ t ∈ R, ∃ i ∈ from_, Rch nx i t) ∧ ∀ t ∈ R, ∀ k ∈ nx t, k ∈ T
  nodup : T.Nodup
  lt : ∀ t ∈ T, t < n
  has : ∀ i ∈ from_, i ∈ T

theorem nodup_le : ∀ (n : Nat) (l : List Nat), l.Nodup → (∀ x ∈ l, x < n) → l.length ≤ n
  | 0, l, _, h => by
    cases l with
    | nil => simp
    | cons a r => exact absurd (h a (by simp)) (by omega)
  | n + 1, l, hn, h => by
    have hn2 : (l.erase n).Nodup := hn.erase n
    have := nodup_le n (l.erase n) hn2 (fun x hx => by
      have h1 := h x (List.mem_of_mem_erase hx)
      have h2 : x ≠ n := fun e => by subst e; exact (List.Nodup.mem_erase_iff hn).1 hx |>.1 rfl
      omega)
    rw [List.length_erase] at this
    split at this <;> omega

theorem fold_grown {nx : Nat → List Nat} {n f : Nat} (ih : ∀ i S, i < n → S.Nodup → (∀ t ∈ S, t < n) → n < f + S.length → Grown nx n [i] S (dfs nx f i S)) :
    ∀ (ks : List Nat) (S : List Nat), (∀ k ∈ ks, k < n) → S.Nodup → (∀ t ∈ S, t < n) → n < f + S.length → Grown nx n ks S (ks.foldl (fun S k => dfs nx f k S) S)
  | [], S, _, hd, hl, _ => ⟨⟨[], by simp⟩, hd, hl, by simp⟩
  | k :: ks, S, hk, hd, hl, hf => by
    have g1 := ih k S (hk k (by simp)) hd hl hf
    obtain ⟨R, e, r1, r2⟩ := g1.eq
    have g2 := fold_grown ih ks (dfs nx f k S) (fun x hx => hk x (by simp [hx])) g1.nodup g1.lt (by rw [e, List.length_append]; omega)
    obtain ⟨R2, e2, q1, q2⟩ := g2.eq
    have sub : ∀ t ∈ dfs nx f k S, t ∈ ks.foldl (fun S k => dfs nx f k S) (dfs nx f k S) := fun t ht => by rw [e2]; exact List.mem_append_left _ ht
    refine ⟨⟨R ++ R2, ?_, ?_, ?_⟩, g2.nodup, g2.lt, ?_⟩
    · show ks.foldl _ (dfs nx f k S) = _
      rw [e2, e, List.append_assoc]
    · intro t ht
      rcases List.mem_append.1 ht with h | h
      · obtain ⟨i, hi, hr⟩ := r1 t h
        rw [List.mem_singleton] at hi
        subst hi
        exact ⟨i, by simp, hr⟩
      · obtain ⟨i, hi, hr⟩ := q1 t h
        exact ⟨i, by simp [hi], hr⟩
    · intro t ht j hj
      rcases List.mem_append.1 ht with h | h
      · exact sub j (r2 t h j hj)
      · exact q2 t h j hj
    · intro i hi
      rcases List.mem_cons.1 hi with h | h
      · subst h
        exact sub i (g1.has i (by simp))
      · exact g2.has i h

/-- With steps enough the walk marks, of what i leads to, whatever is not marked; what it marks leads to marked nodes alone. -/
theorem dfs_grown {nx : Nat → List Nat} {n : Nat} (hn : ∀ i, i < n → ∀ k ∈ nx i, k < n) : ∀ (f i : Nat) (S : List Nat), i < n → S.Nodup → (∀ t ∈ S, t < n) → n < f + S.length → Grown nx n [i] S (dfs nx f i S)
  | 0, i, S, _, hd, hl, hf => by
    have := nodup_le n S hd hl
    omega
  | f + 1, i, S, hi, hd, hl, hf => by
    rw [dfs]
    split
    · rename_i hm
      exact ⟨⟨[], by simp⟩, hd, hl, by simpa using hm⟩
    · rename_i hm
      have hd2 : (S ++ [i]).Nodup := by
        rw [List.nodup_append]
        refine ⟨hd, by simp, fun a ha b hb => ?_⟩
        rw [List.mem_singleton] at hb
        rintro rfl
        exact hm (hb ▸ ha)
      have hl2 : ∀ t ∈ S ++ [i], t < n := fun t ht => by
        rcases List.mem_append.1 ht with h | h
        · exact hl t h
        · rw [List.mem_singleton.1 h]; exact hi
      have g := fold_grown (f := f) (fun j S' => dfs_grown hn f j S') (nx i) (S ++ [i]) (hn i hi) hd2 hl2 (by rw [List.length_append, List.length_singleton]; omega)
      obtain ⟨R, e, r1, r2⟩ := g.eq
      have hin : i ∈ (nx i).foldl (fun S k => dfs nx f k S) (S ++ [i]) := by rw [e]; simp
      refine ⟨⟨i :: R, by rw [e]; simp, ?_, ?_⟩, g.nodup, g.lt, fun j hj => by rw [List.mem_singleton.1 hj]; exact hin⟩
      · intro t ht
        refine ⟨i, by simp, ?_⟩
        rcases List.mem_cons.1 ht with h | h
        · subst h; exact .refl _
        · obtain ⟨k, hk, hr⟩ := r1 t h
          exact .step hk hr
      · intro t ht k hk
        rcases List.mem_cons.1 ht with h | h
        · subst h; exact g.has k hk
        · exact r2 t h k hk

/-- From nothing marked: just what i leads to. -/
theorem dfs_reach {nx : Nat → List Nat} {n : Nat} (hn : ∀ i, i < n → ∀ k ∈ nx i, k < n) {f i : Nat} (hi : i < n) (hf : n < f) (j : Nat) : j ∈ dfs nx f i [] ↔ Rch nx i j := by
  have g := dfs_grown hn f i [] hi (by simp) (by simp) (by simpa using hf)
  obtain ⟨R, e, r1, r2⟩ := g.eq
  rw [List.nil_append] at e
  constructor
  · intro h
    rw [e] at h
    obtain ⟨k, hk, hr⟩ := r1 j h
    rw [List.mem_singleton.1 hk] at hr
    exact hr
  · have h0 := g.has i (by simp)
    have key : ∀ a b, Rch nx a b → a ∈ dfs nx f i [] → b ∈ dfs nx f i [] := by
      intro a b h
      induction h with
      | refl => exact id
      | step h1 _ ih => exact fun ha => ih (r2 _ (by rw [e] at ha; exact ha) _ h1)
    exact fun h => key i j h h0

/-- What is marked already is closed: the walk marks just what i leads to and is not marked. -/
theorem dfs_closed {nx : Nat → List Nat} {n : Nat} (hn : ∀ i, i < n → ∀ k ∈ nx i, k < n) {f i : Nat} {S : List Nat} (hi : i < n) (hd : S.Nodup) (hl : ∀ t ∈ S, t < n) (hf : n < f + S.length) (hS : ∀ s ∈ S, ∀ k ∈ nx s, k ∈ S) :
    ∃ R, dfs nx f i S = S ++ R ∧ (S ++ R).Nodup ∧ (∀ t ∈ S ++ R, t < n) ∧ (∀ s ∈ S ++ R, ∀ k ∈ nx s, k ∈ S ++ R) ∧ ∀ j, j ∈ R ↔ Rch nx i j ∧ j ∉ S := by
  have g := dfs_grown hn f i S hi hd hl hf
  obtain ⟨R, e, r1, r2⟩ := g.eq
  have hnd := g.nodup
  rw [e] at hnd r2
  have hcl : ∀ s ∈ S ++ R, ∀ k ∈ nx s, k ∈ S ++ R := fun s hs k hk => by
    rcases List.mem_append.1 hs with h | h
    · exact List.mem_append_left _ (hS s h k hk)
    · exact r2 s h k hk
  refine ⟨R, e, hnd, by rw [← e]; exact g.lt, hcl, fun j => ⟨fun h => ?_, fun ⟨h, h2⟩ => ?_⟩⟩
  · obtain ⟨k, hk, hr⟩ := r1 j h
    rw [List.mem_singleton.1 hk] at hr
    exact ⟨hr, fun hs => (List.nodup_append.1 hnd).2.2 j hs j h rfl⟩
  · have h0 := g.has i (by simp)
    rw [e] at h0
    have key : ∀ a b, Rch nx a b → a ∈ S ++ R → b ∈ S ++ R := by
      intro a b h
      induction h with
      | refl => exact id
      | step h1 _ ih => exact fun ha => ih (hcl _ ha _ h1)
    rcases List.mem_append.1 (key i j h h0) with h3 | h3
    · exact absurd h3 h2
    · exact h3

end Go.Proofs.Ytahaflapkdjmhaa.Gr
