/-
  What graph's marker has in memory: what was seen, what was reached. Conditions: its blocks lie from s on.
-/
import Derived.Test.YtahaflapkdjmhaaGrC3
import Derived.Test.YtahaflapkdjmhaaGrI
namespace Go.Proofs.Ytahaflapkdjmhaa
open Go.RowKit

/-- All blocks are as they were, but those of P, and that of A. -/
structure KK (P : Nat → Prop) (w w' : World) (A A' : Option Addr) : Prop where
  os : w'.os = w.os
  tape : w'.tape = w.tape
  output : w'.output = w.output
  size : w.heap.size ≤ w'.heap.size
  block : ∀ k, k < w.heap.size → ¬ P k → A.map (·.block) ≠ some k → w'.heap[k]? = w.heap[k]?
  loc : A'.map (·.block) = A.map (·.block) ∨ A'.map (·.block) = none ∨ ∃ g, A'.map (·.block) = some g ∧ w.heap.size ≤ g

theorem KK.refl (P : Nat → Prop) (w : World) (A : Option Addr) : KK P w w A A := ⟨rfl, rfl, rfl, Nat.le_refl _, fun _ _ _ _ => rfl, Or.inl rfl⟩
theorem KK.trans {P : Nat → Prop} {w w1 w2 : World} {A A1 A2 : Option Addr} (h : KK P w w1 A A1) (g : KK P w1 w2 A1 A2) : KK P w w2 A A2 where
  os := g.os.trans h.os
  tape := g.tape.trans h.tape
  output := g.output.trans h.output
  size := Nat.le_trans h.size g.size
  block := fun k hk hP hA => (g.block k (Nat.lt_of_lt_of_le hk h.size) hP (by
    rcases h.loc with e | e | ⟨b, e, hb⟩
    · rw [e]; exact hA
    · rw [e]; simp
    · rw [e]; intro e2; injection e2 with e2; omega)).trans (h.block k hk hP hA)
  loc := by
    rcases g.loc with e | e | ⟨b, e, hb⟩
    · rw [e]; exact h.loc
    · exact Or.inr (Or.inl e)
    · exact Or.inr (Or.inr ⟨b, e, Nat.le_trans h.size hb⟩)
theorem KK.below {P : Nat → Prop} {w w' : World} {A A' : Option Addr} (h : KK P w w' A A') {B : Nat} (hP : ∀ k, P k → B ≤ k) (hA : ∀ g, A.map (·.block) = some g → B ≤ g) (hB : B ≤ w.heap.size) : Below B w w' :=
  ⟨h.os, h.tape, h.output, h.size, fun k hk => h.block k (by omega) (fun e => by have := hP k e; omega) (fun e => by have := hA k e; omega)⟩

/-- The blocks that marker writes. -/
def MkP (s : Nat) : Nat → Prop := fun k => k = s + 1 ∨ k = s + 2 ∨ k = s + 3
def seenV (n : Nat) (S : List Nat) : List Value := (List.range n).map fun i => Value.bool (decide (i ∈ S))
theorem seenV_at {n i : Nat} (S : List Nat) (hi : i < n) : (seenV n S)[i]? = some (.bool (decide (i ∈ S))) := by simp [seenV, hi]
theorem seenV_set {n i : Nat} (S : List Nat) (hi : i < n) : (seenV n S).set i (.bool true) = seenV n (S ++ [i]) := by
  apply List.ext_getElem?
  intro k
  rw [List.getElem?_set]
  by_cases hk : k < n
  · by_cases e : i = k
    · subst e; simp [seenV, hk]
    · have : ¬ k = i := fun h => e h.symm
      simp [seenV, hk, e, this]
  · by_cases e : i = k
    · omega
    · simp [seenV, hk, e]

def markF (s : Nat) : Value := .func (.func 26) #[] #[.pointer (some ⟨s + 4, 0, none⟩), .pointer (some ⟨s + 2, 0, none⟩), .pointer (some ⟨s + 1, 0, none⟩), .pointer (some ⟨s, 0, none⟩), .pointer (some ⟨s + 5, 0, none⟩)]

structure MkS (w : World) (s n : Nat) (nv vo : Value) (A : Option Addr) (c : Nat) (P R : List Nat) : Prop where
  nx : w.heap[s]? = some (.cells #[nv] 40 (0, 0))
  re : w.heap[s + 1]? = some (.cells #[.slice A R.length c] 30 (0, 0))
  op : w.heap[s + 2]? = some (.cells #[vo] 30 (0, 0))
  se : w.heap[s + 4]? = some (.cells #[.slice (some ⟨s + 3, 0, none⟩) n n] 66 (0, 0))
  mb : w.heap[s + 5]? = some (.cells #[.func (.func 26) #[] #[.pointer (some ⟨s + 4, 0, none⟩), .pointer (some ⟨s + 2, 0, none⟩), .pointer (some ⟨s + 1, 0, none⟩), .pointer (some ⟨s, 0, none⟩), .pointer (some ⟨s + 5, 0, none⟩)]] 63 (0, 0))
  seen : w.ownsRow s 4 1 (.slice (some ⟨s + 3, 0, none⟩) n n) n (seenV n (P ++ R))
  row : w.ownsRow s 3 1 (.slice A R.length c) R.length (numV R)
  far : ∀ g, A.map (·.block) = some g → s + 6 ≤ g

section
variable {w : World} {s n : Nat} {nv vo : Value} {A : Option Addr} {c : Nat} {P R : List Nat}
theorem MkS.lt (h : MkS w s n nv vo A c P R) : s + 5 < w.heap.size := heap_lt h.mb
theorem MkS.alt (h : MkS w s n nv vo A c P R) : ∀ g, A.map (·.block) = some g → g < w.heap.size := fun g hg => (h.row.lt g (by rw [ownBlock_slice]; exact hg)).2
theorem MkS.seen_at (h : MkS w s n nv vo A c P R) {i : Nat} (hi : i < n) : w.cell? ⟨s + 3, i, none⟩ = some (.bool (decide (i ∈ P ++ R))) ∧ w.frozen? ⟨s + 3, i, none⟩ = false := by
  refine ⟨?_, h.seen.frozenAt i⟩
  rw [h.seen.cellAt i (by omega)]
  exact seenV_at _ hi

/-- All its blocks are as they were. -/
theorem MkS.kept {w' : World} (h : MkS w s n nv vo A c P R) (hk : ∀ k, k ≤ s + 5 → s ≤ k → w'.heap[k]? = w.heap[k]?) (hA : ∀ g, A.map (·.block) = some g → w'.heap[g]? = w.heap[g]?) : MkS w' s n nv vo A c P R where
  nx := (hk s (by omega) (by omega)).trans h.nx
  re := (hk (s + 1) (by omega) (by omega)).trans h.re
  op := (hk (s + 2) (by omega) (by omega)).trans h.op
  se := (hk (s + 4) (by omega) (by omega)).trans h.se
  mb := (hk (s + 5) (by omega) (by omega)).trans h.mb
  seen := row_kept h.seen (fun g hg => by
    simp only [Value.ownBlock, Option.some.injEq] at hg
    subst hg
    exact hk (s + 3) (by omega) (by omega))
  row := row_kept h.row (fun g hg => hA g (by rw [ownBlock_slice] at hg; exact hg))
  far := h.far
theorem MkS.alloc (h : MkS w s n nv vo A c P R) (o : Obj) : MkS (w.alloc o) s n nv vo A c P R :=
  h.kept (fun k hk _ => Below.heap_alloc w o k (by have := h.lt; omega)) (fun g hg => Below.heap_alloc w o g (h.alt g hg))

/-- One more is seen, and reached. -/
theorem MkS.visit {w2 : World} {i g' cap' : Nat} {o : Obj} (h : MkS w s n nv vo A c P R) (hi : i < n)
    (hown : w2.ownsRow s 3 1 (.slice (some ⟨g', 0, none⟩) (R.length + 1) cap') (R.length + 1) (numV R ++ [.int .i64 (i : Int)]))
    (hg : ((w.setCell ⟨s + 3, i, none⟩ (.bool true)).alloc o).grownBy w2 (Value.slice A R.length c).ownBlock)
    (hat : (Value.slice (some ⟨g', 0, none⟩) (R.length + 1) cap').ownBlock = (Value.slice A R.length c).ownBlock ∨ (Value.slice (some ⟨g', 0, none⟩) (R.length + 1) cap').ownBlock = some ((w.setCell ⟨s + 3, i, none⟩ (.bool true)).alloc o).heap.size) :
    MkS (w2.setCell ⟨s + 1, 0, none⟩ (.slice (some ⟨g', 0, none⟩) (R.length + 1) cap')) s n nv vo (some ⟨g', 0, none⟩) cap' P (R ++ [i]) ∧ KK (MkP s) w (w2.setCell ⟨s + 1, 0, none⟩ (.slice (some ⟨g', 0, none⟩) (R.length + 1) cap')) A (some ⟨g', 0, none⟩) := by
  rw [ownBlock_slice] at hg
  rw [ownBlock_slice, ownBlock_slice] at hat
  have hlt := h.lt
  have hsz : ((w.setCell ⟨s + 3, i, none⟩ (.bool true)).alloc o).heap.size = w.heap.size + 1 := by simp
  rw [hsz] at hat
  have hfar : s + 6 ≤ g' := by
    rcases hat with e | e
    · exact h.far g' e.symm
    · simp at e; omega
  have same : ∀ k, k < w.heap.size → k ≠ s + 3 → A.map (·.block) ≠ some k → w2.heap[k]? = w.heap[k]? := fun k hk h3 hne =>
    ((hg.block k (by rw [hsz]; omega) (fun e => hne e.symm)).trans (Below.heap_alloc _ o k (by simpa using hk))).trans (Below.heap_setCell _ _ _ _ h3)
  have hAs : ∀ k, k ≤ s + 5 → A.map (·.block) ≠ some k := fun k hk e => by have := h.far k e; omega
  have seen1 := (h.seen.stored i (.bool true)).1
  rw [seenV_set _ hi] at seen1
  have seen2 : w2.ownsRow s 4 1 (.slice (some ⟨s + 3, 0, none⟩) n n) n (seenV n (P ++ R ++ [i])) := row_kept seen1 (fun g hgg => by
    simp only [Value.ownBlock, Option.some.injEq] at hgg
    subst hgg
    exact (hg.block (s + 3) (by rw [hsz]; omega) (fun e => hAs (s + 3) (by omega) e.symm)).trans (Below.heap_alloc _ o (s + 3) (by simp; omega)))
  have one : ∀ k, k ≠ s + 1 → (w2.setCell ⟨s + 1, 0, none⟩ (.slice (some ⟨g', 0, none⟩) (R.length + 1) cap')).heap[k]? = w2.heap[k]? := fun k hk => Below.heap_setCell _ _ _ _ hk
  refine ⟨⟨?_, ?_, ?_, ?_, ?_, ?_, ?_, ?_⟩, ⟨hg.os, hg.tape, hg.output, ?_, ?_, ?_⟩⟩
  · exact ((one s (by omega)).trans (same s (by omega) (by omega) (hAs s (by omega)))).trans h.nx
  · have h1 := (same (s + 1) (by omega) (by omega) (hAs _ (by omega))).trans h.re
    have := one_setCell (u := .slice (some ⟨g', 0, none⟩) (R.length + 1) cap') h1
    simpa using this
  · exact ((one (s + 2) (by omega)).trans (same (s + 2) (by omega) (by omega) (hAs _ (by omega)))).trans h.op
  · exact ((one (s + 4) (by omega)).trans (same (s + 4) (by omega) (by omega) (hAs _ (by omega)))).trans h.se
  · exact ((one (s + 5) (by omega)).trans (same (s + 5) (by omega) (by omega) (hAs _ (by omega)))).trans h.mb
  · rw [← List.append_assoc]
    exact row_kept seen2 (fun g hgg => by
      simp only [Value.ownBlock, Option.some.injEq] at hgg
      subst hgg
      exact one (s + 3) (by omega))
  · have e : (R ++ [i]).length = R.length + 1 := by simp
    rw [e, numV_snoc]
    exact ownsRow_setCell_other hown (a := ⟨s + 1, 0, none⟩) (by rw [ownBlock_slice]; simp; omega) _
  · intro g hgg
    simp at hgg
    omega
  · have := hg.size
    rw [hsz] at this
    simp
    omega
  · intro k hk hP hA
    rw [one k (fun e => hP (Or.inl e))]
    exact same k hk (fun e => hP (Or.inr (Or.inr e))) hA
  · rcases hat with e | e
    · exact Or.inl e
    · exact Or.inr (Or.inr ⟨_, e, by omega⟩)
end

end Go.Proofs.Ytahaflapkdjmhaa
