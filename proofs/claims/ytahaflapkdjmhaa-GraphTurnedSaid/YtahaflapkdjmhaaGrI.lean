/-
  What graph's arranged has in memory: the queue, how many imports have not come, the order so far. Conditions: blocks apart.
-/
import Derived.Test.YtahaflapkdjmhaaGrF5
namespace Go.Proofs.Ytahaflapkdjmhaa
open Go.RowKit

structure ArS (w : World) (B q wb n : Nat) (lv : Value) (A : Option Addr) (c : Nat) (its : List Nat) (Ao : Option Addr) (co : Nat) (out ws : List Nat) : Prop where
  qu : Qu w B q lv A c its
  wait : w.ownsRow B 3 1 (.slice (some ⟨wb, 0, none⟩) n n) n (numV ws)
  ord : w.ownsRow B 3 1 (.slice Ao out.length co) out.length (numV out)
  wq : wb ≠ q
  wA : A.map (·.block) ≠ some wb
  oq : Ao.map (·.block) ≠ some q
  ow : Ao.map (·.block) ≠ some wb
  oA : ∀ g, Ao.map (·.block) = some g → A.map (·.block) ≠ some g

section
variable {w : World} {B q wb n : Nat} {lv : Value} {A : Option Addr} {c : Nat} {its : List Nat} {Ao : Option Addr} {co : Nat} {out ws : List Nat}

theorem row_kept {w w' : World} {B : Nat} {e : TypeId} {v : Value} {m : Nat} {xs : List Value} (h : w.ownsRow B e 1 v m xs) (hk : ∀ g, v.ownBlock = some g → w'.heap[g]? = w.heap[g]?) : w'.ownsRow B e 1 v m xs := by
  refine ⟨h.1, ?_⟩
  rcases h.2 with hn | ⟨g, cap, cur, rfl, hb, hg, r⟩
  · exact Or.inl hn
  · exact Or.inr ⟨g, cap, cur, rfl, hb, (hk g rfl).trans hg, r⟩
theorem ArS.ws_len (h : ArS w B q wb n lv A c its Ao co out ws) : ws.length = n := by
  have := h.wait.1
  simpa [numV] using this
theorem ArS.wlt (h : ArS w B q wb n lv A c its Ao co out ws) : B ≤ wb ∧ wb < w.heap.size := h.wait.lt wb rfl
theorem ArS.olt (h : ArS w B q wb n lv A c its Ao co out ws) : ∀ g, Ao.map (·.block) = some g → B ≤ g ∧ g < w.heap.size := fun g hg => h.ord.lt g (by rw [ownBlock_slice]; exact hg)
theorem ArS.cell (h : ArS w B q wb n lv A c its Ao co out ws) {k : Nat} (hk : k < n) : w.cell? ⟨wb, k, none⟩ = some (.int .i64 ((ws.getD k 0 : Nat) : Int)) ∧ w.frozen? ⟨wb, k, none⟩ = false := by
  refine ⟨?_, h.wait.frozenAt k⟩
  have hl := h.ws_len
  rw [h.wait.cellAt k (by omega)]
  simp [numV, List.getD, show k < ws.length by omega]

/-- The queue has turned. -/
theorem ArS.turned {w' : World} {A' : Option Addr} {c' : Nat} {its' : List Nat} (h : ArS w B q wb n lv A c its Ao co out ws) (hq : Qu w' B q lv A' c' its') (hk : QK w w' q A A') : ArS w' B q wb n lv A' c' its' Ao co out ws where
  qu := hq
  wait := row_kept h.wait (fun g hg => by
    simp only [Value.ownBlock, Option.some.injEq] at hg
    subst hg
    exact hk.block wb h.wlt.2 h.wq h.wA)
  ord := row_kept h.ord (fun g hg => by
    rw [ownBlock_slice] at hg
    exact hk.block g (h.olt g hg).2 (fun e => h.oq (by rw [hg, e])) (h.oA g hg))
  wq := h.wq
  wA := by
    rcases hk.loc with e | ⟨g, e, hg⟩
    · rw [e]; exact h.wA
    · rw [e]; intro e2; injection e2 with e2; have := h.wlt.2; omega
  oq := h.oq
  ow := h.ow
  oA := fun g hg => by
    rcases hk.loc with e | ⟨g2, e, hg2⟩
    · rw [e]; exact h.oA g hg
    · rw [e]; intro e2; injection e2 with e2; have := (h.olt g hg).2; omega

theorem Qu.far {w' : World} (h : Qu w B q lv A c its) (hq : w'.heap[q]? = w.heap[q]?) (hA : ∀ g, A.map (·.block) = some g → w'.heap[g]? = w.heap[g]?) : Qu w' B q lv A c its where
  box := hq.trans h.box
  row := row_kept h.row (fun g hg => hA g (by rw [ownBlock_slice] at hg; exact hg))
  off := h.off
  lo := h.lo

/-- A count is stored. -/
theorem ArS.set (h : ArS w B q wb n lv A c its Ao co out ws) (k v : Nat) : ArS (w.setCell ⟨wb, k, none⟩ (.int .i64 (v : Int))) B q wb n lv A c its Ao co out (ws.set k v) where
  qu := h.qu.far (Below.heap_setCell _ _ _ _ (fun e => h.wq e.symm)) (fun g hg => Below.heap_setCell _ _ _ _ (fun e => h.wA (by rw [hg]; exact congrArg some e)))
  wait := by
    have := (h.wait.stored k (.int .i64 (v : Int))).1
    have e : (numV ws).set k (.int .i64 (v : Int)) = numV (ws.set k v) := by simp [numV, List.map_set]
    rw [e] at this
    exact this
  ord := row_kept h.ord (fun g hg => by rw [ownBlock_slice] at hg; exact Below.heap_setCell _ _ _ _ (fun e => h.ow (by rw [hg]; exact congrArg some e)))
  wq := h.wq
  wA := h.wA
  oq := h.oq
  ow := h.ow
  oA := h.oA

/-- One more stands in the order. -/
theorem ArS.more {w1 : World} {o : Obj} {i g' cap' : Nat} (h : ArS w B q wb n lv A c its Ao co out ws)
    (hown : w1.ownsRow B 3 1 (.slice (some ⟨g', 0, none⟩) (out.length + 1) cap') (out.length + 1) (numV out ++ [.int .i64 (i : Int)])) (hg : (w.alloc o).grownBy w1 (Value.slice Ao out.length co).ownBlock)
    (hat : (Value.slice (some ⟨g', 0, none⟩) (out.length + 1) cap').ownBlock = (Value.slice Ao out.length co).ownBlock ∨ (Value.slice (some ⟨g', 0, none⟩) (out.length + 1) cap').ownBlock = some (w.alloc o).heap.size) :
    ArS w1 B q wb n lv A c its (some ⟨g', 0, none⟩) cap' (out ++ [i]) ws := by
  rw [ownBlock_slice] at hg
  rw [ownBlock_slice, ownBlock_slice] at hat
  have hsz : (w.alloc o).heap.size = w.heap.size + 1 := World.size_alloc _ _
  rw [hsz] at hat
  have same : ∀ k, k < w.heap.size → Ao.map (·.block) ≠ some k → w1.heap[k]? = w.heap[k]? := fun k hk hne => (hg.block k (by rw [hsz]; omega) (fun e => hne e.symm)).trans (Below.heap_alloc w o k hk)
  have hgq : g' ≠ q := by
    rcases hat with e | e
    · exact fun e2 => h.oq (by rw [← e]; simp [e2])
    · simp at e; have := h.qu.lt; omega
  have hgw : g' ≠ wb := by
    rcases hat with e | e
    · exact fun e2 => h.ow (by rw [← e]; simp [e2])
    · simp at e; have := h.wlt; omega
  have hgA : A.map (·.block) ≠ some g' := by
    rcases hat with e | e
    · exact h.oA g' e.symm
    · simp at e; intro e2; have := (h.qu.rowlo g' e2).2; omega
  refine ⟨h.qu.far (same q h.qu.lt h.oq) (fun g hgA2 => same g (h.qu.rowlo g hgA2).2 (fun e => h.oA g e hgA2)), row_kept h.wait (fun g hgw2 => ?_), ?_, h.wq, h.wA, by simpa using hgq, by simpa using hgw, fun g hgg => ?_⟩
  · simp only [Value.ownBlock, Option.some.injEq] at hgw2
    subst hgw2
    exact same wb h.wlt.2 h.ow
  · have e : (out ++ [i]).length = out.length + 1 := by simp
    rw [e, numV_snoc]
    exact hown
  · simp only [Option.map_some, Option.some.injEq] at hgg
    rw [← hgg]
    exact hgA
end

end Go.Proofs.Ytahaflapkdjmhaa
