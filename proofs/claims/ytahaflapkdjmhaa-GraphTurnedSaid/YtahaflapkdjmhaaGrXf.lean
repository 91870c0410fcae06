/-
  The walk of the reference's Order. Conditions: few modules, short names.
-/
import Derived.Test.YtahaflapkdjmhaaGrXe
namespace Go.Proofs.Ytahaflapkdjmhaa
open Go.RowKit

namespace Gr
theorem best_filter {l : List Md} (hu : Unlike l) (M : Nat → Bool) : Best (ltP l) (fun w => w < l.length ∧ M w = true) (leastL (nlt l) none ((List.range l.length).filter M)) := by
  have h := Best.fold (lt := nlt l) (n := l.length) (fun a b c h g => nlt_trans h g) (fun a b ha hb hne => by
    cases e : nlt l a b with
    | true => exact Or.inl rfl
    | false => exact Or.inr (hu.lt hb ha (fun e => hne e.symm) e)) ((List.range l.length).filter M) (fun _ => False) none (fun _ h => h.elim) (fun k hk => by simp at hk; exact hk.1) ⟨fun m e => (by cases e), fun _ _ h => h⟩
  exact h.congr fun w => by simp
theorem lost_all {l : List Md} (h : lostL l < 0) {i : Nat} (hi : i < l.length) : ∀ s ∈ l[i].imps, 0 ≤ find s l 0 := by
  intro s hs
  have h1 := firstP_neg h i hi
  simp only [lostP, List.any_eq_false, decide_eq_true_eq] at h1
  have := h1 s hs
  omega
theorem ready_iff {l : List Md} (h : lostL l < 0) {i : Nat} (hi : i < l.length) (come : List Nat) : readyB l l[i].imps come = true ↔ ∀ k ∈ nxL l i, k ∈ come := by
  rw [nxL_at hi]
  simp only [readyB, List.all_eq_true, List.any_eq_true, List.mem_map, decide_eq_true_eq, List.mem_filterMap]
  constructor
  · rintro hr k ⟨s, hs, he⟩
    obtain ⟨x, ⟨a, ha, rfl⟩, hx⟩ := hr s hs
    have h2 := lost_all h hi s hs
    rw [atN, if_pos h2] at he
    injection he with he
    have : a = k := by omega
    exact this ▸ ha
  · intro hr s hs
    have h2 := lost_all h hi s hs
    have := hr (find s l 0).toNat ⟨s, hs, by rw [atN, if_pos h2]⟩
    exact ⟨_, ⟨_, this, rfl⟩, by omega⟩
/-- May it come next, as the reference asks. -/
def mayB (l : List Md) (out : List Nat) (i : Nat) : Bool := !((out.map fun k : Nat => (k : Int)).any fun x => decide (x = (i : Int))) && ((l[i]?.map fun m => readyB l m.imps out).getD false)
theorem mayB_iff {l : List Md} (h : lostL l < 0) {i : Nat} (hi : i < l.length) (out : List Nat) : mayB l out i = true ↔ May (nxL l) out i := by
  unfold mayB May
  rw [Bool.and_eq_true, List.getElem?_eq_getElem hi, Option.map_some, Option.getD_some, ready_iff h hi]
  refine and_congr ?_ Iff.rfl
  simp only [Bool.not_eq_true', List.any_eq_false, List.mem_map, decide_eq_true_eq]
  constructor
  · intro h1 h2; exact h1 i ⟨i, h2, rfl⟩ rfl
  · rintro h1 x ⟨a, ha, rfl⟩ e
    have : a = i := by omega
    exact h1 (this ▸ ha)
/-- The one that comes next. -/
theorem next_one {l : List Md} (hu : Unlike l) (hlo : lostL l < 0) (hc : ∀ i, i < l.length → ¬ Cyc (nxL l) i) {out : List Nat} (g : Greedy (ltP l) (nxL l) l.length out) (hlen : out.length < l.length) :
    ∃ m, leastL (nlt l) none ((List.range l.length).filter (mayB l out)) = some m ∧ Greedy (ltP l) (nxL l) l.length (out ++ [m]) := by
  have hb := best_filter hu (mayB l out)
  cases e : leastL (nlt l) none ((List.range l.length).filter (mayB l out)) with
  | some m =>
    obtain ⟨h1, h2⟩ := hb.so m e
    exact ⟨m, rfl, .snoc g ⟨h1.1, (mayB_iff hlo h1.1 out).1 h1.2, fun j hj hm hne => h2 j ⟨hj, (mayB_iff hlo hj out).2 hm⟩ hne⟩⟩
  | none =>
    exfalso
    have h0 := hb.no e
    have hex : ∃ i, i < l.length ∧ i ∉ out := by
      refine Classical.byContradiction fun hn => ?_
      have hall : ∀ i, i < l.length → i ∈ out := fun i hi => Classical.byContradiction fun h => hn ⟨i, hi, h⟩
      have := range_le l.length out hall
      omega
    obtain ⟨i, hi, _, hci⟩ := cyc_of_rest hex (nxL_lt l) (fun i hi hio => by
      refine Classical.byContradiction fun hn => ?_
      refine h0 i ⟨hi, (mayB_iff hlo hi out).2 ⟨hio, fun k hk => Classical.byContradiction fun hko => hn ⟨k, hk, hko⟩⟩⟩)
    exact hc i hi hci
/-- A mark of its own. -/
def mark2 (M : Nat → Bool) (i : Nat) (b : Bool) : Nat → Bool := fun j => if j = i then b else M j
/-- Marks as far as k. -/
def upto (M : Nat → Bool) (k : Nat) : Nat → Bool := fun j => decide (j < k) && M j
theorem upto_next (M : Nat → Bool) (k : Nat) {b : Bool} (hb : M k = b) : mark2 (upto M k) k b = upto M (k + 1) := by
  subst hb
  funext j
  simp only [mark2, upto]
  by_cases e : j = k
  · subst e; simp
  · rw [if_neg e]
    have : decide (j < k) = decide (j < k + 1) := by
      rw [Bool.eq_iff_iff]; simp; omega
    rw [this]
theorem upto_filter (M : Nat → Bool) (n : Nat) : (List.range n).filter (upto M n) = (List.range n).filter M := by
  apply List.filter_congr
  intro x hx
  simp at hx
  simp [upto, hx]
end Gr
theorem mkV_put {n i : Nat} (M : Nat → Bool) (b : Bool) (hi : i < n) : (mkV n M).set i (.bool b) = mkV n (Gr.mark2 M i b) := by
  apply List.ext_getElem?
  intro k
  rw [List.getElem?_set]
  by_cases hk : k < n
  · by_cases e : i = k
    · subst e; simp [mkV, hk, Gr.mark2]
    · have : ¬ k = i := fun h => e h.symm
      simp [mkV, hk, e, this, Gr.mark2]
  · by_cases e : i = k
    · omega
    · simp [mkV, hk, e]
theorem OwnB.put {w : World} {b n : Nat} {M : Nat → Bool} (h : OwnB w b n M) {i : Nat} (hi : i < n) (v : Bool) : OwnB (w.setCell ⟨b, i, none⟩ (.bool v)) b n (Gr.mark2 M i v) := by
  have h1 := (World.ownsRow.stored h i (.bool v)).1
  rw [mkV_put _ _ hi] at h1
  exact h1

end Go.Proofs.Ytahaflapkdjmhaa
