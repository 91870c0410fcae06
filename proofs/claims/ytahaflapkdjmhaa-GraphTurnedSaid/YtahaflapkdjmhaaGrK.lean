/-
  Plain graphs, no program: of what a walk leaves last, what leads to it is one cycle with it (Kosaraju). No conditions but those that each lemma names.
-/
import Derived.Test.YtahaflapkdjmhaaGrM
namespace Go.Proofs.Ytahaflapkdjmhaa.Gr

/-- A way from i to j, each node of which was found no earlier than m. -/
inductive Ge (nx : Nat → List Nat) (disc : Nat → Nat) (m : Nat) : Nat → Nat → Prop
  | refl {i : Nat} : m ≤ disc i → Ge nx disc m i i
  | step {i k j : Nat} : m ≤ disc i → k ∈ nx i → Ge nx disc m k j → Ge nx disc m i j

theorem Ge.rch {nx : Nat → List Nat} {disc : Nat → Nat} {m i j : Nat} (h : Ge nx disc m i j) : Rch nx i j := by
  induction h with
  | refl => exact .refl _
  | step _ h2 _ ih => exact .step h2 ih
theorem Ge.less {nx : Nat → List Nat} {disc : Nat → Nat} {m m' i j : Nat} (h : Ge nx disc m i j) (hm : m' ≤ m) : Ge nx disc m' i j := by
  induction h with
  | refl h1 => exact .refl (by omega)
  | step h1 h2 _ ih => exact .step (by omega) h2 ih
theorem Ge.head {nx : Nat → List Nat} {disc : Nat → Nat} {m i j : Nat} (h : Ge nx disc m i j) : m ≤ disc i := by
  cases h with
  | refl h1 => exact h1
  | step h1 _ _ => exact h1

/-- On each way there is a node that was found first. -/
theorem Rch.first {nx : Nat → List Nat} (disc : Nat → Nat) {a i : Nat} (h : Rch nx a i) : ∃ f, Rch nx a f ∧ Ge nx disc (disc f) f i ∧ Ge nx disc (disc f) a i := by
  induction h with
  | refl i => exact ⟨i, .refl i, .refl (Nat.le_refl _), .refl (Nat.le_refl _)⟩
  | @step a k i hk _ ih =>
    obtain ⟨f, h1, h2, h3⟩ := ih
    rcases Nat.le_total (disc f) (disc a) with h | h
    · exact ⟨f, .step hk h1, h2, .step h hk h3⟩
    · exact ⟨a, .refl a, .step (Nat.le_refl _) hk (h3.less h), .step (Nat.le_refl _) hk (h3.less h)⟩

/-- What a walk in depth leaves: D in the order in which nodes are left, disc when they were found. -/
structure Left (nx : Nat → List Nat) (n : Nat) (disc : Nat → Nat) (D : List Nat) : Prop where
  nodup : D.Nodup
  all : ∀ i, i < n ↔ i ∈ D
  inj : ∀ i ∈ D, ∀ j ∈ D, disc i = disc j → i = j
  /-- What was found behind f leads, when f is left, to nodes that are left too, or were found ahead of f. -/
  shut : ∀ D1 f D2, D = D1 ++ f :: D2 → ∀ x ∈ D1 ++ [f], disc f ≤ disc x → ∀ k ∈ nx x, disc f ≤ disc k → k ∈ D1 ++ [f]
  /-- What was found behind i and left ahead of it can be come to from i. -/
  under : ∀ D1 i D2, D = D1 ++ i :: D2 → ∀ w ∈ D1, disc i < disc w → Rch nx i w

theorem split_at {D : List Nat} {f : Nat} (h : f ∈ D) : ∃ D1 D2, D = D1 ++ f :: D2 := List.append_of_mem h

/-- Of what is not taken yet, i was left last; what was taken has all that leads to it. Then what leads to i, and was not taken, can be come to from i. -/
theorem Left.back {nx : Nat → List Nat} {n : Nat} {disc : Nat → Nat} {D : List Nat} (hn : ∀ i, i < n → ∀ k ∈ nx i, k < n) (L : Left nx n disc D) {X : Nat → Prop} (hX : ∀ a b, Rch nx a b → X b → X a) {D1 D2 : List Nat} {i : Nat} (hD : D = D1 ++ i :: D2) (h2 : ∀ x ∈ D2, X x) {w : Nat} (hw : w < n) (hwX : ¬ X w) (h : Rch nx w i) : Rch nx i w := by
  have hlt : ∀ z, Rch nx w z → z ∈ D1 ++ [i] := by
    intro z h1
    have hzX : ¬ X z := fun hz => hwX (hX _ _ h1 hz)
    have hz : z ∈ D := (L.all z).1 (h1.lt hn hw)
    rw [hD] at hz
    rcases List.mem_append.1 hz with h4 | h4
    · exact List.mem_append_left _ h4
    · rcases List.mem_cons.1 h4 with h5 | h5
      · rw [h5]; simp
      · exact absurd (h2 z h5) hzX
  obtain ⟨f, f1, f2, f3⟩ := h.first disc
  have hiD : i ∈ D := by rw [hD]; simp
  rcases List.mem_append.1 (hlt f f1) with hf | hf
  · exfalso
    obtain ⟨E1, E2, hE⟩ := split_at hf
    have hs := L.shut E1 f (E2 ++ i :: D2) (by rw [hD, hE]; simp)
    have key : ∀ a b, Ge nx disc (disc f) a b → a ∈ E1 ++ [f] → b ∈ E1 ++ [f] := by
      intro a b hab
      induction hab with
      | refl _ => exact id
      | step g1 g2 g3 ih => exact fun ha => ih (hs _ ha g1 _ g2 g3.head)
    have hi1 : i ∈ D1 := by
      have := key f i f2 (by simp)
      rw [hE]
      rcases List.mem_append.1 this with h4 | h4
      · exact List.mem_append_left _ h4
      · rw [List.mem_singleton.1 h4]; simp
    have hnd := L.nodup
    rw [hD] at hnd
    exact (List.nodup_append.1 hnd).2.2 i hi1 i (by simp) rfl
  · rw [List.mem_singleton] at hf
    subst hf
    have hle := f3.head
    rcases List.mem_append.1 (hlt w (.refl w)) with h4 | h4
    · have hwD : w ∈ D := by rw [hD]; exact List.mem_append_left _ h4
      have hne : disc f ≠ disc w := fun e => by
        have := L.inj f hiD w hwD e
        subst this
        have hnd := L.nodup
        rw [hD] at hnd
        exact (List.nodup_append.1 hnd).2.2 f h4 f (by simp) rfl
      exact L.under D1 f D2 hD w h4 (by omega)
    · rw [List.mem_singleton.1 h4]
      exact .refl _

end Go.Proofs.Ytahaflapkdjmhaa.Gr
