/-
  All groups, from what was left last to what was left first: the least one on a cycle; no program. Conditions: px turns nx; more steps than nodes.
-/
import Derived.Test.YtahaflapkdjmhaaGrL
import Derived.Test.YtahaflapkdjmhaaGrM
namespace Go.Proofs.Ytahaflapkdjmhaa.Gr

def groups (lt : Nat → Nat → Bool) (nx px : Nat → List Nat) (f : Nat) : List Nat → List Nat → Option Nat → Option Nat
  | [], _, b => b
  | i :: is, S, b => groups lt nx px f is (dfs px f i S) (if ((dfs px f i S).drop S.length).length = 1 ∧ i ∉ nx i then b else leastL lt b ((dfs px f i S).drop S.length))

theorem groups_best {lt : Nat → Nat → Bool} {n : Nat} (tr : ∀ a b c, lt a b = true → lt b c = true → lt a c = true) (tot : ∀ a b, a < n → b < n → a ≠ b → lt a b = true ∨ lt b a = true)
    {nx px : Nat → List Nat} (ht : ∀ a b, a ∈ px b ↔ b ∈ nx a) (hn : ∀ i, i < n → ∀ k ∈ nx i, k < n) (hp : ∀ i, i < n → ∀ k ∈ px i, k < n) {disc : Nat → Nat} {D : List Nat} (L : Left nx n disc D) {f : Nat} (hf : n < f) :
    ∀ (is D2 S : List Nat) (b : Option Nat), D = is.reverse ++ D2 → S.Nodup → (∀ t ∈ S, t < n) → (∀ s ∈ S, ∀ k ∈ px s, k ∈ S) → (∀ x ∈ D2, x ∈ S) →
      Best (fun a b => lt a b = true) (fun w => w ∈ S ∧ Cyc nx w) b → Best (fun a b => lt a b = true) (fun w => w < n ∧ Cyc nx w) (groups lt nx px f is S b)
  | [], D2, S, b, hD, _, hl, _, h2, h => by
    rw [groups]
    refine h.congr fun w => ⟨fun e => ⟨hl w e.1, e.2⟩, fun e => ⟨h2 w ?_, e.2⟩⟩
    rw [List.reverse_nil, List.nil_append] at hD
    rw [← hD]
    exact (L.all w).1 e.1
  | i :: is, D2, S, b, hD, hd, hl, hS, h2, h => by
    have hD' : D = is.reverse ++ i :: D2 := by rw [hD]; simp
    have hi : i < n := (L.all i).2 (by rw [hD']; simp)
    obtain ⟨R, e, r1, r2, r3, r4⟩ := dfs_closed hp (f := f) hi hd hl (by omega) hS
    have hX : ∀ a b, Rch nx a b → b ∈ S → a ∈ S := by
      intro a b hab
      induction hab with
      | refl => exact id
      | step h1 _ ih => exact fun hb => hS _ (ih hb) _ ((ht _ _).2 h1)
    have hR : ∀ j, j ∈ R ↔ Rch nx j i ∧ ¬ j ∈ S := fun j => by rw [r4, rch_turned ht]
    have hRn : ∀ j ∈ R, j < n := fun j hj => r2 j (List.mem_append_right _ hj)
    have g := Best.group tr tot hn L (X := fun w => w ∈ S) hl hX hD' h2 hR hRn (List.nodup_append.1 r1).2.1 h
    rw [groups, e, List.drop_left]
    refine groups_best tr tot ht hn hp L hf is (i :: D2) (S ++ R) _ hD' r1 r2 r3 ?_ (g.congr fun w => by rw [List.mem_append])
    intro x hx
    rcases List.mem_cons.1 hx with h3 | h3
    · subst h3
      by_cases hxS : x ∈ S
      · exact List.mem_append_left _ hxS
      · exact List.mem_append_right _ ((hR x).2 ⟨.refl x, hxS⟩)
    · exact List.mem_append_left _ (h2 x h3)

theorem groups_all {lt : Nat → Nat → Bool} {n : Nat} (tr : ∀ a b c, lt a b = true → lt b c = true → lt a c = true) (tot : ∀ a b, a < n → b < n → a ≠ b → lt a b = true ∨ lt b a = true)
    {nx px : Nat → List Nat} (ht : ∀ a b, a ∈ px b ↔ b ∈ nx a) (hn : ∀ i, i < n → ∀ k ∈ nx i, k < n) (hp : ∀ i, i < n → ∀ k ∈ px i, k < n) {disc : Nat → Nat} {D : List Nat} (L : Left nx n disc D) {f : Nat} (hf : n < f) :
    Best (fun a b => lt a b = true) (fun w => w < n ∧ Cyc nx w) (groups lt nx px f D.reverse [] none) := by
  refine groups_best tr tot ht hn hp L hf D.reverse [] [] none (by simp) (by simp) (by simp) (by simp) (by simp) ⟨fun m e => (nomatch e), fun _ w hw => (nomatch hw.1)⟩

end Go.Proofs.Ytahaflapkdjmhaa.Gr
