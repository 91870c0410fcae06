/-
  The walk of graph's Needs: its answer. Conditions: few modules, short names.
-/
import Derived.Test.YtahaflapkdjmhaaGrU
import Derived.Test.YtahaflapkdjmhaaShelf
namespace Go.Proofs.Ytahaflapkdjmhaa
open Go.RowKit

namespace Gr
/-- What sorting makes of numbers. -/
theorem sorted_nums (l : List Nat) (hd : l.Nodup) : ∃ ns : List Nat, (numV ns = (((l.map fun k : Nat => (k : Int)).mergeSort fun x y => decide (x ≤ y)).map fun x => Value.int .i64 x)) ∧ ns.Perm l ∧ ns.Pairwise (· < ·) := by
  obtain ⟨s, hs⟩ : ∃ s, (l.map fun k : Nat => (k : Int)).mergeSort (fun x y => decide (x ≤ y)) = s := ⟨_, rfl⟩
  have hp : s.Perm (l.map fun k : Nat => (k : Int)) := hs ▸ List.mergeSort_perm _ _
  have hw : s.Pairwise fun a b => decide (a ≤ b) = true := hs ▸ List.pairwise_mergeSort (le := fun x y : Int => decide (x ≤ y)) (fun a b c h1 h2 => by simp at *; omega) (fun a b => by simp; omega) _
  rw [hs]
  have hpos : ∀ x ∈ s, 0 ≤ x := by
    intro x hx
    have := hp.mem_iff.1 hx
    simp at this
    obtain ⟨a, _, rfl⟩ := this
    omega
  have hback : (s.map Int.toNat).map (fun k : Nat => (k : Int)) = s := by
    rw [List.map_map]
    conv => rhs; rw [← List.map_id s]
    apply List.map_congr_left
    intro x hx
    have := hpos x hx
    simp; omega
  have hpn : (s.map Int.toNat).Perm l := by
    have := hp.map Int.toNat
    rw [List.map_map] at this
    have e : (Int.toNat ∘ fun k : Nat => (k : Int)) = id := by funext k; simp
    rw [e, List.map_id] at this
    exact this
  have hnd : (s.map Int.toNat).Nodup := hpn.nodup_iff.2 hd
  refine ⟨s.map Int.toNat, ?_, hpn, ?_⟩
  · show (s.map Int.toNat).map (fun k : Nat => Value.int .i64 (k : Int)) = _
    conv => rhs; rw [← hback]
    simp only [List.map_map, Function.comp_def]
  · have h1 : (s.map Int.toNat).Pairwise (· ≤ ·) := by
      rw [List.pairwise_map]
      refine hw.imp ?_
      intro a b hab
      simp at hab
      omega
    have h2 : (s.map Int.toNat).Pairwise (fun a b => a ≤ b ∧ a ≠ b) := by
      rw [List.pairwise_and_iff]
      exact ⟨h1, hnd⟩
    exact h2.imp fun hab => by omega
inductive NeedsAns (l : List Md) (i : Int) (ns : List Nat) : Prop
  | out (h : i < 0 ∨ (l.length : Int) ≤ i) (h2 : ns = [])
  | of (k : Nat) (h : i = k) (hk : k < l.length) (h1 : ns.Pairwise (· < ·)) (h2 : ∀ j, j ∈ ns ↔ Rch (nxL l) k j)
end Gr

def NeedsPost (l : List Gr.Md) (i : Int) (w : World) (e : Ending) (w' : World) : Prop := ∃ v ns, e = .returned v ∧ RdN w' w'.heap.size v ns ∧ Gr.NeedsAns l i ns ∧ Below w.heap.size w w' ∧ ∀ g, v.ownBlock = some g → w.heap.size ≤ g

end Go.Proofs.Ytahaflapkdjmhaa
