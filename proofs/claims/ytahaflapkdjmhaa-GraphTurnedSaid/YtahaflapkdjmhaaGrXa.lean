/-
  The walk of the reference's reached. Conditions: few modules, short names.
-/
import Derived.Test.YtahaflapkdjmhaaGrU2
import Derived.Test.YtahaflapkdjmhaaGrR
namespace Go.Proofs.Ytahaflapkdjmhaa
open Go.RowKit

namespace Gr
/-- One mark more. -/
def mark1 (M : Nat → Bool) (a : Nat) : Nat → Bool := fun j => M j || decide (j = a)
theorem more_nil (M : Nat → Bool) : more M [] = M := by funext j; simp [more]
theorem more_cons (M : Nat → Bool) (a : Nat) (l : List Nat) : more M (a :: l) = more (mark1 M a) l := by
  funext j
  simp only [more, mark1, List.mem_cons, Bool.or_assoc]
  congr 1
  rw [Bool.eq_iff_iff]
  simp
theorem more_none (l : List Md) (M : Nat → Bool) (s : ByteArray) (ss : List ByteArray) (h : atN l s = none) : more M ((s :: ss).filterMap (atN l)) = more M (ss.filterMap (atN l)) := by
  rw [List.filterMap_cons, h]
theorem more_some (l : List Md) (M : Nat → Bool) (s : ByteArray) (ss : List ByteArray) {a : Nat} (h : atN l s = some a) : more M ((s :: ss).filterMap (atN l)) = more (mark1 M a) (ss.filterMap (atN l)) := by
  rw [List.filterMap_cons, h]
  exact more_cons _ _ _
theorem nxL_at {l : List Md} {k : Nat} (hk : k < l.length) : nxL l k = l[k].imps.filterMap (atN l) := by
  simp [nxL, rowsF, linksL, hk, rowOf]
/-- What the reference marks. -/
def reachM (l : List Md) (i : Nat) : Nat → Bool := rnds (nxL l) l.length i (l.length + 1) (fun _ => false)
theorem reachM_iff {l : List Md} {i : Nat} (hi : i < l.length) (j : Nat) : reachM l i j = true ↔ ∃ k ∈ nxL l i, Rch (nxL l) k j := rnds_reach (nxL_lt l) hi j
theorem rnd_step (nx : Nat → List Nat) (i n k : Nat) (hk : k < n) (M : Nat → Bool) : rnd nx i ((List.range n).drop k) M = rnd nx i ((List.range n).drop (k + 1)) (if decide (k = i) || M k then more M (nx k) else M) := by
  rw [List.drop_eq_getElem_cons (by simpa using hk), rnd]
  simp
end Gr

def mkV (n : Nat) (M : Nat → Bool) : List Value := (List.range n).map fun i => Value.bool (M i)
theorem mkV_at {n i : Nat} (M : Nat → Bool) (hi : i < n) : (mkV n M)[i]? = some (.bool (M i)) := by simp [mkV, hi]
theorem mkV_set {n i : Nat} (M : Nat → Bool) (hi : i < n) : (mkV n M).set i (.bool true) = mkV n (Gr.mark1 M i) := by
  apply List.ext_getElem?
  intro k
  rw [List.getElem?_set]
  by_cases hk : k < n
  · by_cases e : i = k
    · subst e; simp [mkV, hk, Gr.mark1]
    · have : ¬ k = i := fun h => e h.symm
      simp [mkV, hk, e, this, Gr.mark1]
  · by_cases e : i = k
    · omega
    · simp [mkV, hk, e]
/-- A row of marks of the call's own. -/
def OwnB (w : World) (b n : Nat) (M : Nat → Bool) : Prop := w.ownsRow b 4 1 (.slice (some ⟨b, 0, none⟩) n n) n (mkV n M)
theorem OwnB.lt {w : World} {b n : Nat} {M : Nat → Bool} (h : OwnB w b n M) : b < w.heap.size := (World.ownsRow.lt h b rfl).2
theorem OwnB.at_ {w : World} {b n : Nat} {M : Nat → Bool} (h : OwnB w b n M) {i : Nat} (hi : i < n) : w.cell? ⟨b, i, none⟩ = some (.bool (M i)) ∧ w.frozen? ⟨b, i, none⟩ = false := by
  refine ⟨?_, World.ownsRow.frozenAt h i⟩
  rw [World.ownsRow.cellAt h i (by omega)]
  exact mkV_at _ hi
theorem OwnB.set {w : World} {b n : Nat} {M : Nat → Bool} (h : OwnB w b n M) {i : Nat} (hi : i < n) : OwnB (w.setCell ⟨b, i, none⟩ (.bool true)) b n (Gr.mark1 M i) := by
  have h1 := (World.ownsRow.stored h i (.bool true)).1
  rw [mkV_set _ hi] at h1
  exact h1
theorem OwnB.below {w w' : World} {b n : Nat} {M : Nat → Bool} (h : OwnB w b n M) (hb : w'.heap[b]? = w.heap[b]?) : OwnB w' b n M :=
  row_kept h (fun g hg => by
    simp only [Value.ownBlock, Option.some.injEq] at hg
    subst hg
    exact hb)
theorem OwnB.made (w : World) (n : Nat) (hn : n ≤ 1000000) : OwnB (w.alloc (.cells (madeCells #[.bool false] n) 4)) w.heap.size n (fun _ => false) := by
  have := World.ownsRow_lit (base := w.heap.size) (e := 4) (size := 1) w (madeCells #[.bool false] n) n (Nat.le_refl _) (by unfold maxLen; omega) (by simp [size_madeCells])
  rw [toList_madeCells_one] at this
  have e : mkV n (fun _ => false) = List.replicate n (.bool false) := by
    apply List.ext_getElem?
    intro j
    by_cases hj : j < n <;> simp [hj, mkV]
  unfold OwnB
  rw [e]
  exact this

end Go.Proofs.Ytahaflapkdjmhaa
