/-
  How many of each one's links have not come, and those that may come next: what taking the least one keeps; no program. Conditions: the turned links hold each link as often as the links do.
-/
import Derived.Test.YtahaflapkdjmhaaGrO
namespace Go.Proofs.Ytahaflapkdjmhaa.Gr

/-- How many of the links of k have not come. -/
def rest (nx : Nat → List Nat) (out : List Nat) (k : Nat) : Nat := (nx k).countP fun x => decide (x ∉ out)

theorem rest_zero (nx : Nat → List Nat) (out : List Nat) (k : Nat) : rest nx out k = 0 ↔ ∀ x ∈ nx k, x ∈ out := by
  simp [rest, List.countP_eq_zero]

theorem rest_nil (nx : Nat → List Nat) (k : Nat) : rest nx [] k = (nx k).length := by simp [rest]

theorem rest_snoc (nx : Nat → List Nat) (out : List Nat) (i k : Nat) (hi : i ∉ out) : rest nx (out ++ [i]) k + (nx k).count i = rest nx out k := by
  unfold rest
  induction nx k with
  | nil => simp
  | cons a l ih =>
    rw [List.countP_cons, List.countP_cons, List.count_cons]
    by_cases e : a = i
    · subst e
      simp only [List.mem_append, List.mem_singleton, or_true, not_true_eq_false, decide_false, hi, not_false_eq_true, decide_true, beq_self_eq_true, if_true] at ih ⊢
      simp only [Bool.false_eq_true, if_false]
      omega
    · by_cases m : a ∈ out
      · simp [e, m] at ih ⊢; omega
      · simp [e, m] at ih ⊢; omega

/-- Those that may come next are q; w counts what has not come. -/
structure Wt (nx : Nat → List Nat) (n : Nat) (out : List Nat) (w : Nat → Nat) (q : List Nat) : Prop where
  nd : q.Nodup
  mem : ∀ x, x ∈ q ↔ x < n ∧ x ∉ out ∧ w x = 0
  ws : ∀ k, k < n → w k = rest nx out k

theorem Wt.may {nx : Nat → List Nat} {n : Nat} {out : List Nat} {w : Nat → Nat} {q : List Nat} (h : Wt nx n out w q) (x : Nat) : x ∈ q ↔ x < n ∧ May nx out x := by
  rw [h.mem]
  constructor
  · rintro ⟨h1, h2, h3⟩
    rw [h.ws x h1, rest_zero] at h3
    exact ⟨h1, h2, h3⟩
  · rintro ⟨h1, h2, h3⟩
    exact ⟨h1, h2, by rw [h.ws x h1, rest_zero]; exact h3⟩

/-- i has been taken, and of the ones that lead to it those of us. -/
structure Md2 (nx : Nat → List Nat) (n : Nat) (out : List Nat) (i : Nat) (us : List Nat) (w : Nat → Nat) (q : List Nat) : Prop where
  nd : q.Nodup
  mem : ∀ x, x ∈ q ↔ x < n ∧ x ∉ out ∧ x ≠ i ∧ w x = 0
  ws : ∀ k, k < n → w k + us.count k = rest nx out k

theorem Wt.take {nx : Nat → List Nat} {n : Nat} {out : List Nat} {w : Nat → Nat} {q r : List Nat} {i : Nat} (h : Wt nx n out w q) (hp : q.Perm (i :: r)) : Md2 nx n out i [] w r := by
  have hnd : (i :: r).Nodup := hp.nodup_iff.1 h.nd
  have hir := (List.nodup_cons.1 hnd)
  refine ⟨hir.2, fun x => ?_, fun k hk => by rw [List.count_nil]; exact h.ws k hk⟩
  have h1 := h.mem x
  rw [hp.mem_iff, List.mem_cons] at h1
  constructor
  · intro hx
    obtain ⟨a, b, c⟩ := h1.1 (Or.inr hx)
    exact ⟨a, b, fun e => hir.1 (e ▸ hx), c⟩
  · rintro ⟨a, b, c, d⟩
    rcases h1.2 ⟨a, b, d⟩ with e | e
    · exact absurd e c
    · exact e

def less1 (w : Nat → Nat) (k : Nat) : Nat → Nat := fun x => if x = k then w k - 1 else w x

/-- One more link to i has come: it had not, so its count is more than none. -/
theorem Md2.pos {nx : Nat → List Nat} {n : Nat} {out : List Nat} {i k : Nat} {us vs : List Nat} {w : Nat → Nat} {q : List Nat} (h : Md2 nx n out i us w q) (hk : k < n) (hi : i ∉ out)
    (hc : (us ++ k :: vs).count k ≤ (nx k).count i) : 0 < w k := by
  have h1 := h.ws k hk
  have h2 := rest_snoc nx out i k hi
  rw [List.count_append, List.count_cons_self] at hc
  omega

theorem Md2.fresh {nx : Nat → List Nat} {n : Nat} {out : List Nat} {i k : Nat} {us : List Nat} {w : Nat → Nat} {q : List Nat} (h : Md2 nx n out i us w q) (hk : k < n) (ho : Ord nx out) (hm : ∀ x ∈ nx i, x ∈ out)
    (hw : 0 < w k) : k ∉ out ∧ k ≠ i := by
  have h1 := h.ws k hk
  have hne : rest nx out k ≠ 0 := by omega
  constructor
  · intro hko
    obtain ⟨A, B, e⟩ := split_at hko
    exact hne ((rest_zero nx out k).2 (fun x hx => by rw [e]; exact List.mem_append_left _ (ho A k B e x hx)))
  · rintro rfl
    exact hne ((rest_zero nx out k).2 hm)

theorem Md2.step {nx : Nat → List Nat} {n : Nat} {out : List Nat} {i k : Nat} {us : List Nat} {w : Nat → Nat} {q q' : List Nat} (h : Md2 nx n out i us w q) (hk : k < n) (ho : Ord nx out) (hm : ∀ x ∈ nx i, x ∈ out)
    (hw : 0 < w k) (hq : if w k - 1 = 0 then q'.Perm (k :: q) else q' = q) : Md2 nx n out i (us ++ [k]) (less1 w k) q' := by
  obtain ⟨f1, f2⟩ := h.fresh hk ho hm hw
  have hkq : k ∉ q := fun hx => by have := ((h.mem k).1 hx).2.2.2; omega
  have hws : ∀ j, j < n → less1 w k j + (us ++ [k]).count j = rest nx out j := by
    intro j hj
    have h1 := h.ws j hj
    rw [List.count_append]
    by_cases e : j = k
    · subst e
      simp only [less1, if_true, List.count_singleton_self]
      omega
    · have h0 : [k].count j = 0 := List.count_eq_zero.2 (by simp [e])
      simp only [less1, e, if_false, h0]
      omega
  by_cases h0 : w k - 1 = 0
  · rw [if_pos h0] at hq
    refine ⟨hq.nodup_iff.2 (List.nodup_cons.2 ⟨hkq, h.nd⟩), fun x => ?_, hws⟩
    rw [hq.mem_iff, List.mem_cons, h.mem]
    by_cases e : x = k
    · subst e
      simp [less1, hk, f1, f2, h0]
    · simp [less1, e]
  · rw [if_neg h0] at hq
    subst hq
    refine ⟨h.nd, fun x => ?_, hws⟩
    rw [h.mem]
    by_cases e : x = k
    · subst e
      have h2 : w x ≠ 0 := by omega
      simp [less1, h0, h2]
    · simp [less1, e]

theorem Md2.done {nx : Nat → List Nat} {n : Nat} {out : List Nat} {i : Nat} {us : List Nat} {w : Nat → Nat} {q : List Nat} (h : Md2 nx n out i us w q) (hi : i ∉ out) (hc : ∀ k, k < n → us.count k = (nx k).count i) : Wt nx n (out ++ [i]) w q := by
  refine ⟨h.nd, fun x => ?_, fun k hk => ?_⟩
  · rw [h.mem, List.mem_append, List.mem_singleton]
    constructor
    · rintro ⟨a, b, c, d⟩
      exact ⟨a, fun e => e.elim b c, d⟩
    · rintro ⟨a, b, d⟩
      exact ⟨a, fun e => b (Or.inl e), fun e => b (Or.inr e), d⟩
  · have h1 := h.ws k hk
    have h2 := rest_snoc nx out i k hi
    have h3 := hc k hk
    omega

/-- Where none may come next: all have come, or there is a cycle. -/
theorem Wt.stop {nx : Nat → List Nat} {n : Nat} {out : List Nat} {w : Nat → Nat} (h : Wt nx n out w []) (hn : ∀ i, i < n → ∀ k ∈ nx i, k < n) : (∀ i, i < n → i ∈ out) ∨ ∃ i, i < n ∧ i ∉ out ∧ Cyc nx i := by
  by_cases hall : ∀ i, i < n → i ∈ out
  · exact Or.inl hall
  · right
    simp only [Classical.not_forall] at hall
    obtain ⟨a, ha, hao⟩ := hall
    refine cyc_of_rest ⟨a, ha, hao⟩ hn (fun i hi hio => ?_)
    have h1 : ¬ (i < n ∧ May nx out i) := fun e => by have := (h.may i).2 e; cases this
    have h2 : ¬ ∀ k ∈ nx i, k ∈ out := fun e => h1 ⟨hi, hio, e⟩
    simp only [Classical.not_forall] at h2
    obtain ⟨k, hk, hko⟩ := h2
    exact ⟨k, hk, hko⟩

end Go.Proofs.Ytahaflapkdjmhaa.Gr
