/-
  Plain graphs, no program: an order has each node behind those that it leads to; where none can come next there is a cycle; the least next one. No conditions but those that each lemma names.
-/
import Derived.Test.YtahaflapkdjmhaaGrD
namespace Go.Proofs.Ytahaflapkdjmhaa.Gr

/-- Is a node on a cycle? -/
def Cyc (nx : Nat → List Nat) (i : Nat) : Prop := ∃ k ∈ nx i, Rch nx k i

/-- Each node stands behind those that it leads to. -/
def Ord (nx : Nat → List Nat) (out : List Nat) : Prop := ∀ A i B, out = A ++ i :: B → ∀ k ∈ nx i, k ∈ A

theorem Ord.nil (nx : Nat → List Nat) : Ord nx [] := fun A i B h => by simp at h
theorem Ord.snoc {nx : Nat → List Nat} {out : List Nat} (h : Ord nx out) {i : Nat} (hi : ∀ k ∈ nx i, k ∈ out) : Ord nx (out ++ [i]) := by
  intro A a B he
  rcases List.eq_nil_or_concat B with h0 | ⟨C, z, h0⟩
  · subst h0
    have hh := List.append_inj' he rfl
    injection hh.2 with h3
    subst h3
    rw [← hh.1]
    exact hi
  · subst h0
    have e2 : out ++ [i] = (A ++ a :: C) ++ [z] := by rw [he]; simp
    exact h A a C (List.append_inj' e2 rfl).1

theorem Ord.behind {nx : Nat → List Nat} {out : List Nat} (h : Ord nx out) {i j : Nat} (hr : Rch nx i j) : ∀ A B, out = A ++ i :: B → j ∈ A ++ [i] := by
  induction hr with
  | refl i => intro A B _; simp
  | @step i k j hk _ ih =>
    intro A B he
    have hkA := h A i B he k hk
    obtain ⟨A1, A2, e⟩ := split_at hkA
    have := ih A1 (A2 ++ i :: B) (by rw [he, e]; simp)
    rw [e]
    rcases List.mem_append.1 this with h1 | h1
    · simp [h1]
    · rw [List.mem_singleton.1 h1]; simp

/-- What stands in an order is on no cycle. -/
theorem Ord.acyclic {nx : Nat → List Nat} {out : List Nat} (h : Ord nx out) (hd : out.Nodup) {i : Nat} (hi : i ∈ out) : ¬ Cyc nx i := by
  rintro ⟨k, hk, hr⟩
  obtain ⟨A, B, e⟩ := split_at hi
  have hkA := h A i B e k hk
  obtain ⟨A1, A2, e2⟩ := split_at hkA
  have h1 := h.behind hr A1 (A2 ++ i :: B) (by rw [e, e2]; simp)
  have hiA : i ∈ A := by
    rw [e2]
    rcases List.mem_append.1 h1 with h2 | h2
    · exact List.mem_append_left _ h2
    · rw [List.mem_singleton.1 h2]; simp
  rw [e] at hd
  exact (List.nodup_append.1 hd).2.2 i hiA i (by simp) rfl

/-- Where each of some nodes leads to one of them, one is on a cycle. -/
theorem cyc_of_stuck {nx : Nat → List Nat} : ∀ (m : Nat) (U : List Nat), U.length ≤ m → U ≠ [] → (∀ i ∈ U, ∃ k ∈ nx i, k ∈ U) → ∃ i ∈ U, Cyc nx i
  | 0, U, hm, hU, _ => absurd (List.eq_nil_of_length_eq_zero (by omega)) hU
  | m + 1, U, hm, hU, hs => by
    classical
    obtain ⟨a, ha⟩ := List.exists_mem_of_ne_nil U hU
    by_cases hc : Cyc nx a
    · exact ⟨a, ha, hc⟩
    · let V := U.filter fun x => decide (∃ k ∈ nx a, Rch nx k x)
      have hV : ∀ x, x ∈ V ↔ x ∈ U ∧ ∃ k ∈ nx a, Rch nx k x := fun x => by simp [V]
      have hlt : V.length < U.length := by
        rcases Nat.lt_or_ge V.length U.length with h | h
        · exact h
        · have hle : V.length ≤ U.length := List.length_filter_le _ _
          have he : V = U := List.filter_eq_self.2 (List.length_filter_eq_length_iff.1 (by show V.length = U.length; omega))
          have : a ∈ V := by rw [he]; exact ha
          exact absurd ((hV a).1 this).2 hc
      have hne : V ≠ [] := by
        obtain ⟨k, hk, hkU⟩ := hs a ha
        intro h0
        have : k ∈ V := (hV k).2 ⟨hkU, k, hk, .refl k⟩
        rw [h0] at this
        cases this
      obtain ⟨i, hi, hci⟩ := cyc_of_stuck m V (by omega) hne (fun x hx => by
        obtain ⟨hxU, k, hk, hr⟩ := (hV x).1 hx
        obtain ⟨j, hj, hjU⟩ := hs x hxU
        exact ⟨j, hj, (hV j).2 ⟨hjU, k, hk, hr.snoc hj⟩⟩)
      exact ⟨i, ((hV i).1 hi).1, hci⟩

/-- Where some nodes are in no order yet, and each of them leads to one that is not, there is a cycle among them. -/
theorem cyc_of_rest {nx : Nat → List Nat} {n : Nat} {out : List Nat} (hlt : ∃ i, i < n ∧ i ∉ out) (hn : ∀ i, i < n → ∀ k ∈ nx i, k < n) (hs : ∀ i, i < n → i ∉ out → ∃ k ∈ nx i, k ∉ out) : ∃ i, i < n ∧ i ∉ out ∧ Cyc nx i := by
  classical
  obtain ⟨a, ha, hao⟩ := hlt
  let U := (List.range n).filter fun x => decide (x ∉ out)
  have hU : ∀ x, x ∈ U ↔ x < n ∧ x ∉ out := fun x => by simp [U]
  obtain ⟨i, hi, hc⟩ := cyc_of_stuck U.length U (Nat.le_refl _) (fun h0 => by
    have : a ∈ U := (hU a).2 ⟨ha, hao⟩
    rw [h0] at this
    cases this) (fun x hx => by
      obtain ⟨h1, h2⟩ := (hU x).1 hx
      obtain ⟨k, hk, hko⟩ := hs x h1 h2
      exact ⟨k, hk, (hU k).2 ⟨hn x h1 k hk, hko⟩⟩)
  exact ⟨i, ((hU i).1 hi).1, ((hU i).1 hi).2, hc⟩

/-! ### The least next one -/
/-- May i come next? -/
def May (nx : Nat → List Nat) (out : List Nat) (i : Nat) : Prop := i ∉ out ∧ ∀ k ∈ nx i, k ∈ out
/-- i is the least by name of those that are so (names are unlike). -/
structure Least (lt : Nat → Nat → Prop) (n : Nat) (P : Nat → Prop) (i : Nat) : Prop where
  lt_ : i < n
  so : P i
  le : ∀ j, j < n → P j → j ≠ i → lt i j
theorem Least.one {lt : Nat → Nat → Prop} (asym : ∀ a b, lt a b → ¬ lt b a) {n : Nat} {P : Nat → Prop} {i j : Nat} (h : Least lt n P i) (g : Least lt n P j) : i = j := by
  rcases Classical.em (i = j) with e | e
  · exact e
  · exact absurd (g.le i h.lt_ h.so e) (asym _ _ (h.le j g.lt_ g.so (fun e2 => e e2.symm)))

/-- A row in which each one is the least of those that may come next. -/
inductive Greedy (lt : Nat → Nat → Prop) (nx : Nat → List Nat) (n : Nat) : List Nat → Prop
  | nil : Greedy lt nx n []
  | snoc {out : List Nat} {i : Nat} : Greedy lt nx n out → Least lt n (May nx out) i → Greedy lt nx n (out ++ [i])

theorem Greedy.ord {lt : Nat → Nat → Prop} {nx : Nat → List Nat} {n : Nat} {out : List Nat} (h : Greedy lt nx n out) : Ord nx out ∧ out.Nodup ∧ ∀ i ∈ out, i < n := by
  induction h with
  | nil => exact ⟨Ord.nil nx, by simp, by simp⟩
  | snoc _ hl ih =>
    refine ⟨ih.1.snoc hl.so.2, ?_, ?_⟩
    · rw [List.nodup_append]
      exact ⟨ih.2.1, by simp, fun a ha b hb => by rw [List.mem_singleton] at hb; rintro rfl; exact hl.so.1 (hb ▸ ha)⟩
    · intro i hi
      rcases List.mem_append.1 hi with h1 | h1
      · exact ih.2.2 i h1
      · rw [List.mem_singleton.1 h1]; exact hl.lt_

/-- Of one length there is one such row at most. -/
theorem Greedy.one {lt : Nat → Nat → Prop} (asym : ∀ a b, lt a b → ¬ lt b a) {nx : Nat → List Nat} {n : Nat} {a : List Nat} (h : Greedy lt nx n a) : ∀ {b : List Nat}, Greedy lt nx n b → a.length = b.length → a = b := by
  induction h with
  | nil =>
    intro b _ hl
    exact (List.eq_nil_of_length_eq_zero (by simpa using hl.symm)).symm
  | @snoc out i _ hl ih =>
    intro b g hlen
    cases g with
    | nil => simp at hlen
    | @snoc out2 j g2 hl2 =>
      simp only [List.length_append, List.length_singleton, Nat.add_right_cancel_iff] at hlen
      have e := ih g2 hlen
      subst e
      rw [hl.one asym hl2]

end Go.Proofs.Ytahaflapkdjmhaa.Gr
