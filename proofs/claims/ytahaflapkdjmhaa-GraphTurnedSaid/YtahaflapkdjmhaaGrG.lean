/-
  Plain graphs, no program: the groups in which nodes are taken back from what was left last: a group's nodes are on cycles just if it has two, or its one leads to itself. No conditions but those that each lemma names.
-/
import Derived.Test.YtahaflapkdjmhaaGrO
namespace Go.Proofs.Ytahaflapkdjmhaa.Gr

theorem Rch.cases_head {nx : Nat → List Nat} {i j : Nat} (h : Rch nx i j) (hne : i ≠ j) : ∃ k ∈ nx i, Rch nx k j := by
  cases h with
  | refl => exact absurd rfl hne
  | step h1 h2 => exact ⟨_, h1, h2⟩

/-- One group: R is what leads to i and was not taken; X what was taken, with all that leads to it. -/
theorem group_cyc {nx : Nat → List Nat} {n : Nat} {disc : Nat → Nat} {D : List Nat} (hn : ∀ i, i < n → ∀ k ∈ nx i, k < n) (L : Left nx n disc D) {X : Nat → Prop} (hX : ∀ a b, Rch nx a b → X b → X a) {D1 D2 : List Nat} {i : Nat} (hD : D = D1 ++ i :: D2) (hi : ¬ X i) (h2 : ∀ x ∈ D2, X x)
    {R : List Nat} (hR : ∀ j, j ∈ R ↔ Rch nx j i ∧ ¬ X j) (hRn : ∀ j ∈ R, j < n) :
    (((∃ w ∈ R, w ≠ i) ∨ i ∈ nx i) → ∀ w ∈ R, Cyc nx w) ∧ (¬ ((∃ w ∈ R, w ≠ i) ∨ i ∈ nx i) → ∀ w ∈ R, ¬ Cyc nx w) := by
  have back : ∀ w ∈ R, Rch nx i w := fun w hw => L.back hn hX hD h2 (hRn w hw) ((hR w).1 hw).2 ((hR w).1 hw).1
  constructor
  · intro hc w hw
    have hwi := ((hR w).1 hw).1
    rcases Classical.em (w = i) with e | e
    · rw [e]
      rcases hc with ⟨v, hv, hvi⟩ | hs
      · obtain ⟨k, hk, hr⟩ := (back v hv).cases_head (fun e2 => hvi e2.symm)
        exact ⟨k, hk, hr.trans ((hR v).1 hv).1⟩
      · exact ⟨i, hs, .refl i⟩
    · obtain ⟨k, hk, hr⟩ := hwi.cases_head e
      exact ⟨k, hk, hr.trans (back w hw)⟩
  · intro hc w hw hcy
    have hwi : w = i := Classical.byContradiction fun e => hc (Or.inl ⟨w, hw, e⟩)
    subst hwi
    obtain ⟨k, hk, hr⟩ := hcy
    have hkX : ¬ X k := fun h => hi (hX _ _ (.one hk) h)
    have hkR : k ∈ R := (hR k).2 ⟨hr, hkX⟩
    have : k = w := Classical.byContradiction fun e => hc (Or.inl ⟨k, hkR, e⟩)
    subst this
    exact hc (Or.inr hk)

/-- What is taken then has all that leads to it, again. -/
theorem group_next {nx : Nat → List Nat} {X : Nat → Prop} (hX : ∀ a b, Rch nx a b → X b → X a) {i : Nat} {R : List Nat} (hR : ∀ j, j ∈ R ↔ Rch nx j i ∧ ¬ X j) : ∀ a b, Rch nx a b → (X b ∨ b ∈ R) → (X a ∨ a ∈ R) := by
  intro a b h hb
  rcases Classical.em (X a) with ha | ha
  · exact Or.inl ha
  · right
    rcases hb with h1 | h1
    · exact absurd (hX a b h h1) ha
    · exact (hR a).2 ⟨h.trans ((hR b).1 h1).1, ha⟩

/-- Links that are turned: what leads to a node is what it leads to. -/
theorem rch_turned {nx px : Nat → List Nat} (h : ∀ a b, a ∈ px b ↔ b ∈ nx a) {i j : Nat} : Rch px i j ↔ Rch nx j i := by
  constructor
  · intro g
    induction g with
    | refl i => exact .refl i
    | step h1 _ ih => exact ih.snoc ((h _ _).1 h1)
  · intro g
    induction g with
    | refl i => exact .refl i
    | step h1 _ ih => exact ih.snoc ((h _ _).2 h1)

end Go.Proofs.Ytahaflapkdjmhaa.Gr
