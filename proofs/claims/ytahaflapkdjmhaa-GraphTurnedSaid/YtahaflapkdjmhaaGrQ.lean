/-
  The order that is made, as a whole: the first of the queue is the least one that may come; where the queue is empty the order is whole, or there is a cycle. No program. Conditions: those that each lemma names.
-/
import Derived.Test.YtahaflapkdjmhaaGrW
namespace Go.Proofs.Ytahaflapkdjmhaa.Gr

theorem Wt.least {lt : Nat → Nat → Prop} {nx : Nat → List Nat} {n : Nat} {out : List Nat} {w : Nat → Nat} {q r : List Nat} {i : Nat} (h : Wt nx n out w q) (hp : q.Perm (i :: r)) (hl : ∀ x ∈ r, lt i x) : Least lt n (May nx out) i := by
  have hi := (h.may i).1 (hp.mem_iff.2 (by simp))
  refine ⟨hi.1, hi.2, fun j hj hm hne => ?_⟩
  have hjq := hp.mem_iff.1 ((h.may j).2 ⟨hj, hm⟩)
  rcases List.mem_cons.1 hjq with e | e
  · exact absurd e hne
  · exact hl j e

theorem range_le : ∀ (n : Nat) (out : List Nat), (∀ i, i < n → i ∈ out) → n ≤ out.length
  | 0, _, _ => Nat.zero_le _
  | n + 1, out, h => by
    have hm := h n (by omega)
    have ih := range_le n (out.erase n) (fun i hi => (List.mem_erase_of_ne (by omega)).2 (h i (by omega)))
    rw [List.length_erase_of_mem hm] at ih
    have := List.length_pos_of_mem hm
    omega

theorem Greedy.len_le {lt : Nat → Nat → Prop} {nx : Nat → List Nat} {n : Nat} {out : List Nat} (g : Greedy lt nx n out) : out.length ≤ n := nodup_le n out g.ord.2.1 g.ord.2.2

theorem Wt.full {lt : Nat → Nat → Prop} {nx : Nat → List Nat} {n : Nat} {out : List Nat} {w : Nat → Nat} (g : Greedy lt nx n out) (h : Wt nx n out w []) (hn : ∀ i, i < n → ∀ k ∈ nx i, k < n) :
    (out.length = n ∧ ∀ i, i < n → ¬ Cyc nx i) ∨ (out.length < n ∧ ∃ i, i < n ∧ Cyc nx i) := by
  have hle := g.len_le
  rcases h.stop hn with h1 | ⟨i, hi, hio, hc⟩
  · left
    have := range_le n out h1
    exact ⟨by omega, fun i hi => g.ord.1.acyclic g.ord.2.1 (h1 i hi)⟩
  · right
    refine ⟨?_, i, hi, hc⟩
    rcases Nat.lt_or_ge out.length n with h2 | h2
    · exact h2
    · exfalso
      have h3 : (out ++ [i]).Nodup := List.nodup_append.2 ⟨g.ord.2.1, by simp, fun a ha b hb => by rw [List.mem_singleton] at hb; rintro rfl; exact hio (hb ▸ ha)⟩
      have h4 := nodup_le n (out ++ [i]) h3 (fun x hx => by
        rcases List.mem_append.1 hx with h5 | h5
        · exact g.ord.2.2 x h5
        · rw [List.mem_singleton.1 h5]; exact hi)
      rw [List.length_append, List.length_singleton] at h4
      omega

/-- At the start: those that lead to none. -/
theorem Wt.start {nx : Nat → List Nat} {n : Nat} {q : List Nat} (hq : q.Perm ((List.range n).filter fun i => (nx i).length == 0)) : Wt nx n [] (fun i => (nx i).length) q := by
  refine ⟨hq.nodup_iff.2 (List.Pairwise.filter _ List.nodup_range), fun x => ?_, fun k _ => (rest_nil nx k).symm⟩
  rw [hq.mem_iff]
  simp

end Go.Proofs.Ytahaflapkdjmhaa.Gr
