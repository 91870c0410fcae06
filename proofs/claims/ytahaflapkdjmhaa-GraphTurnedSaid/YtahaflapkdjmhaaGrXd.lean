/-
  The walks of the reference's Needs and Few. Conditions: few modules, short names; modules that come in.
-/
import Derived.Test.YtahaflapkdjmhaaGrXc
namespace Go.Proofs.Ytahaflapkdjmhaa
open Go.RowKit

/-- Numbers of the call's own. -/
def OwnN (w : World) (B : Nat) (A : Option Addr) (c : Nat) (l : List Nat) : Prop := w.ownsRow B 3 1 (.slice A l.length c) l.length (numV l)
theorem OwnN.lit (w : World) : OwnN (w.alloc (.cells #[] 3)) w.heap.size (some ⟨w.heap.size, 0, none⟩) 0 [] := World.ownsRow_lit w #[] 0 (Nat.le_refl _) (by decide) rfl
theorem OwnN.rd {w : World} {B c : Nat} {A : Option Addr} {l : List Nat} (h : OwnN w B A c l) : RdN w w.heap.size (.slice A l.length c) l := own_rd h
theorem OwnN.lt {w : World} {B c : Nat} {A : Option Addr} {l : List Nat} (h : OwnN w B A c l) : ∀ g, A.map (·.block) = some g → B ≤ g ∧ g < w.heap.size := fun g hg => World.ownsRow.lt h g (by rw [ownBlock_slice]; exact hg)
theorem OwnN.mono {w : World} {B B' c : Nat} {A : Option Addr} {l : List Nat} (h : OwnN w B A c l) (hb : ∀ g, A.map (·.block) = some g → B' ≤ g) : OwnN w B' A c l := by
  refine ⟨h.1, ?_⟩
  rcases h.2 with h1 | ⟨g, cap, cur, e, h1, h2⟩
  · exact Or.inl h1
  · refine Or.inr ⟨g, cap, cur, e, ?_, h2⟩
    simp only [Value.slice.injEq] at e
    exact hb g (by rw [e.1]; rfl)
theorem OwnN.kept {w w' : World} {B c : Nat} {A : Option Addr} {l : List Nat} (h : OwnN w B A c l) (hk : ∀ g, A.map (·.block) = some g → w'.heap[g]? = w.heap[g]?) : OwnN w' B A c l := row_kept h (fun g hg => hk g (by rw [ownBlock_slice] at hg; exact hg))
/-- What an append has made. -/
theorem OwnN.more {w w1 : World} {B c g' cap' k : Nat} {A : Option Addr} {l : List Nat} {o : Obj} (h : OwnN w B A c l) (hB : B ≤ w.heap.size)
    (hown : w1.ownsRow B 3 1 (.slice (some ⟨g', 0, none⟩) (l.length + 1) cap') (l.length + 1) (numV l ++ [.int .i64 (k : Int)])) (hg : (w.alloc o).grownBy w1 (Value.slice A l.length c).ownBlock)
    (hat : (Value.slice (some ⟨g', 0, none⟩) (l.length + 1) cap').ownBlock = (Value.slice A l.length c).ownBlock ∨ (Value.slice (some ⟨g', 0, none⟩) (l.length + 1) cap').ownBlock = some (w.alloc o).heap.size) :
    OwnN w1 B (some ⟨g', 0, none⟩) cap' (l ++ [k]) ∧ Below B w w1 ∧ (∀ x, x < w.heap.size → A.map (·.block) ≠ some x → w1.heap[x]? = w.heap[x]?) ∧ (A.map (·.block) = some g' ∨ w.heap.size ≤ g') := by
  rw [ownBlock_slice] at hg
  rw [ownBlock_slice, ownBlock_slice] at hat
  refine ⟨?_, ?_, ?_, ?_⟩
  · have e : (l ++ [k]).length = l.length + 1 := by simp
    unfold OwnN
    rw [e, numV_snoc]
    exact hown
  · exact ((Below.refl B w).alloc hB o).grown hg (by simp; omega) (fun x hx => (h.lt x hx).1)
  · intro x hx hne
    exact (hg.block x (by simp; omega) (fun e => hne e.symm)).trans (Below.heap_alloc _ _ _ hx)
  · rcases hat with e | e
    · left; rw [← e]; rfl
    · right; simp at e; omega

def RNeedsPost (l : List Gr.Md) (i : Int) (w : World) (e : Ending) (w' : World) : Prop := ∃ v ns, e = .returned v ∧ RdN w' w'.heap.size v ns ∧ Gr.NeedsAns l i ns ∧ ns.length ≤ l.length ∧ Below w.heap.size w w'

end Go.Proofs.Ytahaflapkdjmhaa
