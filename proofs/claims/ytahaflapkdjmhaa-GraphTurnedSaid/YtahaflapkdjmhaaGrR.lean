/-
  Plain graphs, no program: marks that are handed on as often as there are nodes mark just what a node leads to. No conditions but those that each lemma names.
-/
import Derived.Test.YtahaflapkdjmhaaGrO
namespace Go.Proofs.Ytahaflapkdjmhaa.Gr

/-- Marks, with those that l has besides. -/
def more (M : Nat → Bool) (l : List Nat) : Nat → Bool := fun j => M j || decide (j ∈ l)
/-- A round over the nodes ks: what is marked, or is i, hands its mark on. -/
def rnd (nx : Nat → List Nat) (i : Nat) : List Nat → (Nat → Bool) → (Nat → Bool)
  | [], M => M
  | k :: ks, M => rnd nx i ks (if decide (k = i) || M k then more M (nx k) else M)

theorem rnd_mono {nx : Nat → List Nat} {i : Nat} : ∀ (ks : List Nat) (M : Nat → Bool) (j : Nat), M j = true → rnd nx i ks M j = true
  | [], _, _, h => h
  | k :: ks, M, j, h => by
    rw [rnd]
    refine rnd_mono ks _ j ?_
    split
    · simp [more, h]
    · exact h

theorem rnd_has {nx : Nat → List Nat} {i : Nat} : ∀ (ks : List Nat) (M : Nat → Bool) (k : Nat), k ∈ ks → (k = i ∨ M k = true) → ∀ j ∈ nx k, rnd nx i ks M j = true
  | [], _, _, h, _, _, _ => by cases h
  | a :: ks, M, k, h, hk, j, hj => by
    rw [rnd]
    rcases List.mem_cons.1 h with h1 | h1
    · subst h1
      refine rnd_mono ks _ j ?_
      rw [if_pos (by simpa using hk)]
      simp [more, hj]
    · refine rnd_has ks _ k h1 ?_ j hj
      rcases hk with h2 | h2
      · exact Or.inl h2
      · right
        split
        · simp [more, h2]
        · exact h2

theorem rnd_sub {nx : Nat → List Nat} {i : Nat} : ∀ (ks : List Nat) (M : Nat → Bool), (∀ j, M j = true → ∃ k ∈ nx i, Rch nx k j) → ∀ j, rnd nx i ks M j = true → ∃ k ∈ nx i, Rch nx k j
  | [], _, h, j, hj => h j hj
  | a :: ks, M, h, j, hj => by
    rw [rnd] at hj
    refine rnd_sub ks _ ?_ j hj
    intro b hb
    split at hb
    · rename_i ha
      simp only [more, Bool.or_eq_true, decide_eq_true_eq] at hb ha
      rcases hb with h1 | h1
      · exact h b h1
      · rcases ha with h2 | h2
        · subst h2; exact ⟨b, h1, .refl b⟩
        · obtain ⟨k, hk, hr⟩ := h a h2
          exact ⟨k, hk, hr.snoc h1⟩
    · exact h b hb

def Shut (nx : Nat → List Nat) (n i : Nat) (M : Nat → Bool) : Prop := ∀ k, k < n → (k = i ∨ M k = true) → ∀ j ∈ nx k, M j = true
def cnt (n : Nat) (M : Nat → Bool) : Nat := (List.range n).countP M

theorem cnt_le (n : Nat) (M : Nat → Bool) : cnt n M ≤ n := by
  have := List.countP_le_length (p := M) (l := List.range n)
  rw [List.length_range] at this
  exact this

theorem countP_lt {M N : Nat → Bool} : ∀ (l : List Nat), (∀ j, M j = true → N j = true) → (∃ j ∈ l, N j = true ∧ M j = false) → l.countP M < l.countP N
  | [], _, h => by obtain ⟨_, h, _⟩ := h; cases h
  | a :: l, hs, ⟨j, hj, h1, h2⟩ => by
    have hle : ∀ l : List Nat, l.countP M ≤ l.countP N := fun l => List.countP_mono_left fun x _ hx => hs x hx
    rw [List.countP_cons, List.countP_cons]
    rcases List.mem_cons.1 hj with e | e
    · subst e
      rw [h1, h2]
      have := hle l
      simp
      omega
    · have := countP_lt l hs ⟨j, e, h1, h2⟩
      have h3 : (if M a = true then 1 else 0) ≤ (if N a = true then 1 else 0) := by
        cases hM : M a with
        | false => simp
        | true => rw [hs a hM]; simp
      omega

/-- So many rounds. -/
def rnds (nx : Nat → List Nat) (n i : Nat) : Nat → (Nat → Bool) → (Nat → Bool)
  | 0, M => M
  | r + 1, M => rnds nx n i r (rnd nx i (List.range n) M)

theorem rnds_sub {nx : Nat → List Nat} {n i : Nat} : ∀ (r : Nat) (M : Nat → Bool), (∀ j, M j = true → ∃ k ∈ nx i, Rch nx k j) → ∀ j, rnds nx n i r M j = true → ∃ k ∈ nx i, Rch nx k j
  | 0, _, h, j, hj => h j hj
  | r + 1, M, h, j, hj => rnds_sub r _ (rnd_sub _ M h) j hj

theorem shut_same {nx : Nat → List Nat} {n i : Nat} {M : Nat → Bool} (h : Shut nx n i M) : ∀ (ks : List Nat), (∀ k ∈ ks, k < n) → ∀ j, rnd nx i ks M j = M j
  | [], _, _ => rfl
  | k :: ks, hk, j => by
    rw [rnd]
    have e : (if (decide (k = i) || M k) = true then more M (nx k) else M) = M := by
      split
      · rename_i hc
        funext b
        simp only [more, Bool.or_eq_true, decide_eq_true_eq] at hc ⊢
        cases hM : M b with
        | true => rfl
        | false =>
          rw [Bool.false_or, decide_eq_false]
          intro hb
          have := h k (hk k (by simp)) hc b hb
          rw [hM] at this
          cases this
      · rfl
    rw [e]
    exact shut_same h ks (fun x hx => hk x (by simp [hx])) j

theorem rnds_shut {nx : Nat → List Nat} {n i : Nat} (hn : ∀ i, i < n → ∀ k ∈ nx i, k < n) : ∀ (r : Nat) (M : Nat → Bool), n < r + cnt n M → Shut nx n i (rnds nx n i r M)
  | 0, M, h => by have := cnt_le n M; omega
  | r + 1, M, h => by
    classical
    rw [rnds]
    by_cases hs : Shut nx n i M
    · -- nothing changes any more
      have e : rnd nx i (List.range n) M = M := funext fun j => shut_same hs _ (fun k hk => List.mem_range.1 hk) j
      rw [e]
      have key : ∀ r, rnds nx n i r M = M := by
        intro r
        induction r with
        | zero => rfl
        | succ r ih => rw [rnds, e, ih]
      rw [key]
      exact hs
    · refine rnds_shut hn r _ ?_
      have hlt : cnt n M < cnt n (rnd nx i (List.range n) M) := by
        refine countP_lt _ (fun j hj => rnd_mono _ M j hj) ?_
        unfold Shut at hs
        simp only [Classical.not_forall] at hs
        obtain ⟨k, hk, hc, j, hj, hM⟩ := hs
        exact ⟨j, List.mem_range.2 (hn k hk j hj), rnd_has _ M k (List.mem_range.2 hk) hc j hj, by simpa using hM⟩
      omega

/-- As many rounds as there are nodes, and one: just what i leads to is marked. -/
theorem rnds_reach {nx : Nat → List Nat} {n i : Nat} (hn : ∀ i, i < n → ∀ k ∈ nx i, k < n) (hi : i < n) (j : Nat) : rnds nx n i (n + 1) (fun _ => false) j = true ↔ ∃ k ∈ nx i, Rch nx k j := by
  constructor
  · exact rnds_sub _ _ (fun j h => by cases h) j
  · rintro ⟨k, hk, hr⟩
    have hs := rnds_shut (i := i) hn (n + 1) (fun _ => false) (by omega)
    have key : ∀ a b, Rch nx a b → a < n → rnds nx n i (n + 1) (fun _ => false) a = true → rnds nx n i (n + 1) (fun _ => false) b = true := by
      intro a b h
      induction h with
      | refl => exact fun _ h => h
      | step h1 _ ih => exact fun ha hm => ih (hn _ ha _ h1) (hs _ ha (Or.inr hm) _ h1)
    exact key k j hr (hn i hi k hk) (hs i hi (Or.inl rfl) k hk)

end Go.Proofs.Ytahaflapkdjmhaa.Gr
