/-
  Plain lists, no program: what is free under bound names; what is free in a child is free in the part, or the part binds it. No conditions.
-/
import Derived.Test.YthbieinbpfjgkaaGreatDoorMA6
import Derived.Test.YthbieinbpfjgkaaGreatDoorMA19
namespace Go.Proofs.YthbieinbpfjgkaaGreatDoor.E
open Go

theorem ownN_iff (y : Pt) (bs : List ByteArray) (s : ByteArray) : s ∈ ownN y bs ↔ (y.kind = 1 ∧ y.name = s) ∧ s ∉ bs := by
  unfold ownN
  split
  · rename_i h
    have h2 : y.name ∉ bs := by rw [← containsS_mem]; simp [h.2]
    rw [List.mem_singleton]
    constructor
    · rintro rfl
      exact ⟨⟨h.1, rfl⟩, h2⟩
    · rintro ⟨⟨-, h⟩, -⟩
      exact h.symm
  · rename_i h
    constructor
    · intro h'
      cases h'
    · rintro ⟨⟨h1, rfl⟩, h3⟩
      exact absurd ⟨h1, by rw [Bool.eq_false_iff, ne_eq, containsS_mem]; exact h3⟩ h

/-- What is free under bound names is what is free, but for them. -/
theorem Fo.free_under (f : Fo) : ∀ (x : Pt) (k : Nat) (bs : List ByteArray) (s : ByteArray), s ∈ f.free x k bs ↔ s ∈ f.free x k [] ∧ s ∉ bs := by
  induction f with
  | nil => intro x k bs s; simp [Fo.free]
  | cons y ks r ih1 ih2 =>
    intro x k bs s
    simp only [Fo.free, List.mem_append]
    rw [ownN_iff, ownN_iff, ih1 y 0 (bs ++ bindsL x k), ih1 y 0 ([] ++ bindsL x k), ih2 x (k + 1) bs]
    simp only [List.mem_append, List.nil_append]
    by_cases h1 : s ∈ bs <;> by_cases h2 : s ∈ bindsL x k <;> simp [h1, h2]

theorem freeT_under (x : Pt) (ks : Fo) (bs : List ByteArray) (s : ByteArray) : s ∈ freeT x ks bs ↔ s ∈ freeT x ks [] ∧ s ∉ bs := by
  unfold freeT
  rw [List.mem_append, List.mem_append, ownN_iff, ownN_iff, Fo.free_under ks x 0 bs]
  by_cases h1 : s ∈ bs <;> simp [h1]

/-- What is free in the first child is free in the row, or the part binds it. -/
theorem free_child {x z : Pt} {zk r : Fo} {k : Nat} {s : ByteArray} (h : s ∈ freeT z zk []) : s ∈ bindsL x k ∨ s ∈ (Fo.cons z zk r).free x k [] := by
  by_cases hb : s ∈ bindsL x k
  · exact Or.inl hb
  · refine Or.inr ?_
    rw [Fo.free_cons, List.mem_append, freeT_under]
    exact Or.inl ⟨h, by rw [List.nil_append]; exact hb⟩

theorem free_behind {x z : Pt} {zk r : Fo} {k : Nat} {s : ByteArray} (h : s ∈ r.free x (k + 1) []) : s ∈ (Fo.cons z zk r).free x k [] := by
  rw [Fo.free_cons, List.mem_append]
  exact Or.inr h

theorem free_kids {x : Pt} {ks : Fo} {s : ByteArray} (h : s ∈ ks.free x 0 []) : s ∈ freeT x ks [] := by
  unfold freeT
  rw [List.mem_append]
  exact Or.inr h

theorem binds_are {x : Pt} {k : Nat} {s : ByteArray} (h : s ∈ bindsL x k) : s = x.bind ∨ (x.kind = 5 ∧ s = x.name) := by
  unfold bindsL at h
  split at h
  · exact Or.inl (List.mem_singleton.1 h)
  · split at h
    · rename_i h5
      rcases List.mem_cons.1 h with h | h
      · exact Or.inr ⟨h5.1, h⟩
      · exact Or.inl (List.mem_singleton.1 h)
    · split at h
      · rename_i h5
        exact Or.inr ⟨h5.1, List.mem_singleton.1 h⟩
      · cases h

theorem Fo.free_like (f : Fo) : ∀ (x x' : Pt) (k : Nat) (bs : List ByteArray), (∀ j, bindsL x j = bindsL x' j) → f.free x k bs = f.free x' k bs := by
  induction f with
  | nil => intro x x' k bs h; rfl
  | cons y ks r ih1 ih2 =>
    intro x x' k bs h
    simp only [Fo.free]
    rw [h k, ih2 x x' (k + 1) bs h]

/-- A label does not count. -/
theorem freeT_unl (x : Pt) (ks : Fo) (bs : List ByteArray) : freeT (unl x) ks bs = freeT x ks bs := by
  unfold freeT
  rw [Fo.free_like ks (unl x) x 0 bs (fun j => rfl)]
  rfl

/-- The free names of an expression are names of its parts. -/
theorem freeT_mem {x : Pt} {ks : Fo} {s : ByteArray} (h : s ∈ freeT x ks []) : ∃ y ∈ x :: ks.flat, y.kind = 1 ∧ y.name = s := by
  have e : freeT x ks [] = (Fo.cons x ks .nil).free (⟨3, ⟨#[]⟩, ⟨#[]⟩, ⟨#[]⟩, 0, 0, [], []⟩) 0 [] := by
    rw [Fo.free_cons]
    show freeT x ks [] = freeT x ks ([] ++ []) ++ []
    rw [List.append_nil, List.append_nil]
  rw [e] at h
  have := Fo.free_mem _ _ _ _ _ h
  simpa [Fo.flat] using this
end Go.Proofs.YthbieinbpfjgkaaGreatDoor.E
