/-
  What graph's left has in memory; the walk of its closure. Conditions: its blocks lie from s on.
-/
import Derived.Test.YtahaflapkdjmhaaGrN4
import Derived.Test.YtahaflapkdjmhaaGrV
namespace Go.Proofs.Ytahaflapkdjmhaa
open Go.RowKit Go.Deep

structure LfS (w : World) (s n : Nat) (A : Option Addr) (c : Nat) (S P tk : List Nat) (Ad : Option Addr) (cd : Nat) (D : List Nat) : Prop where
  pb : w.heap[s]? = some (.cells #[.slice A P.length c] 30 (0, 0))
  sb : w.heap[s + 3]? = some (.cells #[.slice (some ⟨s + 2, 0, none⟩) n n] 66 (0, 0))
  taken : w.ownsRow s 3 1 (.slice (some ⟨s + 1, 0, none⟩) n n) n (numV tk)
  seen : w.ownsRow s 4 1 (.slice (some ⟨s + 2, 0, none⟩) n n) n (seenV n S)
  path : w.ownsRow s 3 1 (.slice A P.length c) P.length (numV P)
  done : w.ownsRow s 3 1 (.slice Ad D.length cd) D.length (numV D)
  farP : ∀ g, A.map (·.block) = some g → s + 4 ≤ g
  farD : ∀ g, Ad.map (·.block) = some g → s + 4 ≤ g
  apart : ∀ g, A.map (·.block) = some g → Ad.map (·.block) ≠ some g

section
variable {w : World} {s n : Nat} {A : Option Addr} {c : Nat} {S P tk : List Nat} {Ad : Option Addr} {cd : Nat} {D : List Nat}
theorem LfS.lt (h : LfS w s n A c S P tk Ad cd D) : s + 3 < w.heap.size := heap_lt h.sb
theorem LfS.plt (h : LfS w s n A c S P tk Ad cd D) : ∀ g, A.map (·.block) = some g → g < w.heap.size := fun g hg => (h.path.lt g (by rw [ownBlock_slice]; exact hg)).2
theorem LfS.dlt (h : LfS w s n A c S P tk Ad cd D) : ∀ g, Ad.map (·.block) = some g → g < w.heap.size := fun g hg => (h.done.lt g (by rw [ownBlock_slice]; exact hg)).2
theorem LfS.tlen (h : LfS w s n A c S P tk Ad cd D) : tk.length = n := by have := h.taken.1; simpa [numV] using this
theorem LfS.cp (h : LfS w s n A c S P tk Ad cd D) : w.cell? ⟨s, 0, none⟩ = some (.slice A P.length c) ∧ w.frozen? ⟨s, 0, none⟩ = false := ⟨(heap_cell h.pb 0).trans rfl, heap_free h.pb 0⟩
theorem LfS.cs (h : LfS w s n A c S P tk Ad cd D) : w.cell? ⟨s + 3, 0, none⟩ = some (.slice (some ⟨s + 2, 0, none⟩) n n) := (heap_cell h.sb 0).trans rfl
theorem LfS.seen_at (h : LfS w s n A c S P tk Ad cd D) {i : Nat} (hi : i < n) : w.cell? ⟨s + 2, i, none⟩ = some (.bool (decide (i ∈ S))) ∧ w.frozen? ⟨s + 2, i, none⟩ = false := by
  refine ⟨?_, h.seen.frozenAt i⟩
  rw [h.seen.cellAt i (by omega)]
  exact seenV_at _ hi
theorem LfS.took (h : LfS w s n A c S P tk Ad cd D) {k : Nat} (hk : k < n) : w.cell? ⟨s + 1, k, none⟩ = some (.int .i64 ((Gr.fn tk k : Nat) : Int)) ∧ w.frozen? ⟨s + 1, k, none⟩ = false := by
  refine ⟨?_, h.taken.frozenAt k⟩
  have hl := h.tlen
  rw [h.taken.cellAt k (by omega)]
  simp [numV, Gr.fn, List.getD, show k < tk.length by omega]

/-- The path turns alone: its box, the seen ones, its row. -/
theorem LfS.turn {w' : World} {A' : Option Addr} {c' : Nat} {S' P' : List Nat} (h : LfS w s n A c S P tk Ad cd D) (h1 : w'.heap[s]? = some (.cells #[.slice A' P'.length c'] 30 (0, 0))) (h2 : w'.ownsRow s 4 1 (.slice (some ⟨s + 2, 0, none⟩) n n) n (seenV n S'))
    (h3 : w'.ownsRow s 3 1 (.slice A' P'.length c') P'.length (numV P')) (h4 : ∀ g, A'.map (·.block) = some g → s + 4 ≤ g ∧ Ad.map (·.block) ≠ some g) (h5 : w'.heap[s + 3]? = w.heap[s + 3]?) (h6 : w'.heap[s + 1]? = w.heap[s + 1]?) (h7 : ∀ g, Ad.map (·.block) = some g → w'.heap[g]? = w.heap[g]?) : LfS w' s n A' c' S' P' tk Ad cd D where
  pb := h1
  sb := h5.trans h.sb
  taken := row_kept h.taken (fun g hg => by
    simp only [Value.ownBlock, Option.some.injEq] at hg
    subst hg
    exact h6)
  seen := h2
  path := h3
  done := row_kept h.done (fun g hg => h7 g (by rw [ownBlock_slice] at hg; exact hg))
  farP := fun g hg => (h4 g hg).1
  farD := h.farD
  apart := fun g hg => (h4 g hg).2

/-- One more is seen, and stands at the path's end. -/
theorem LfS.visit {w2 : World} {i g' cap' : Nat} {o : Obj} (h : LfS w s n A c S P tk Ad cd D) (hi : i < n)
    (hown : w2.ownsRow s 3 1 (.slice (some ⟨g', 0, none⟩) (P.length + 1) cap') (P.length + 1) (numV P ++ [.int .i64 (i : Int)]))
    (hg : ((w.setCell ⟨s + 2, i, none⟩ (.bool true)).alloc o).grownBy w2 (Value.slice A P.length c).ownBlock)
    (hat : (Value.slice (some ⟨g', 0, none⟩) (P.length + 1) cap').ownBlock = (Value.slice A P.length c).ownBlock ∨ (Value.slice (some ⟨g', 0, none⟩) (P.length + 1) cap').ownBlock = some ((w.setCell ⟨s + 2, i, none⟩ (.bool true)).alloc o).heap.size) :
    LfS (w2.setCell ⟨s, 0, none⟩ (.slice (some ⟨g', 0, none⟩) (P.length + 1) cap')) s n (some ⟨g', 0, none⟩) cap' (S ++ [i]) (P ++ [i]) tk Ad cd D ∧ Below s w (w2.setCell ⟨s, 0, none⟩ (.slice (some ⟨g', 0, none⟩) (P.length + 1) cap')) := by
  rw [ownBlock_slice] at hg
  rw [ownBlock_slice, ownBlock_slice] at hat
  have hlt := h.lt
  have hsz : ((w.setCell ⟨s + 2, i, none⟩ (.bool true)).alloc o).heap.size = w.heap.size + 1 := by simp
  rw [hsz] at hat
  have same : ∀ k, k < w.heap.size → k ≠ s + 2 → A.map (·.block) ≠ some k → w2.heap[k]? = w.heap[k]? := fun k hk h3 hne =>
    ((hg.block k (by rw [hsz]; omega) (fun e => hne e.symm)).trans (Below.heap_alloc _ o k (by simpa using hk))).trans (Below.heap_setCell _ _ _ _ h3)
  have hAs : ∀ k, k ≤ s + 3 → A.map (·.block) ≠ some k := fun k hk e => by have := h.farP k e; omega
  have seen1 := (h.seen.stored i (.bool true)).1
  rw [seenV_set _ hi] at seen1
  have one : ∀ k, k ≠ s → (w2.setCell ⟨s, 0, none⟩ (.slice (some ⟨g', 0, none⟩) (P.length + 1) cap')).heap[k]? = w2.heap[k]? := fun k hk => Below.heap_setCell _ _ _ _ hk
  have hlen : (P ++ [i]).length = P.length + 1 := by simp
  constructor
  · refine h.turn ?_ ?_ ?_ ?_ ?_ ?_ ?_
    · have h1 := (same s (by omega) (by omega) (hAs _ (by omega))).trans h.pb
      rw [hlen]
      exact one_setCell h1
    · exact row_kept seen1 (fun g hgg => by
        simp only [Value.ownBlock, Option.some.injEq] at hgg
        subst hgg
        exact (one (s + 2) (by omega)).trans ((hg.block (s + 2) (by rw [hsz]; omega) (fun e => hAs (s + 2) (by omega) e.symm)).trans (Below.heap_alloc _ o (s + 2) (by simp; omega))))
    · rw [hlen, numV_snoc]
      exact ownsRow_setCell_other hown (a := ⟨s, 0, none⟩) (by
        rw [ownBlock_slice]
        simp only [Option.map_some, ne_eq, Option.some.injEq]
        rcases hat with e | e
        · have := h.farP g' e.symm; omega
        · simp at e; omega) _
    · intro g hgg
      simp only [Option.map_some, Option.some.injEq] at hgg
      subst hgg
      rcases hat with e | e
      · exact ⟨h.farP g' e.symm, h.apart g' e.symm⟩
      · simp at e
        exact ⟨by omega, fun e2 => by have := h.dlt g' e2; omega⟩
    · exact (one _ (by omega)).trans (same _ (by omega) (by omega) (hAs _ (by omega)))
    · exact (one _ (by omega)).trans (same _ (by omega) (by omega) (hAs _ (by omega)))
    · intro g hgg
      have h1 := h.farD g hgg
      exact (one _ (by omega)).trans (same _ (h.dlt g hgg) (by omega) (fun e => h.apart g e hgg))
  · exact ((((Below.refl s w).setCell (p := ⟨s + 2, i, none⟩) (by show s ≤ s + 2; omega) (.bool true)).alloc (by simp; omega) o).grown hg (by simp; omega) (fun k hk => by have := h.farP k hk; omega)).setCell (Nat.le_refl _) _
end

set_option maxHeartbeats 8000000 in
set_option maxRecDepth 1000000 in
theorem enter_any {w : World} {s n : Nat} {A : Option Addr} {c : Nat} {S P tk : List Nat} {Ad : Option Addr} {cd : Nat} {D : List Nat} (h : LfS w s n A c S P tk Ad cd D) (hP : P.length ≤ 1000) {i : Nat} (hi : i < n) :
    Calls Try.prog 29 #[.int .i64 (i : Int), .pointer (some ⟨s + 3, 0, none⟩), .pointer (some ⟨s, 0, none⟩)] w fun e w' => e = .returned (.tuple #[]) ∧ ∃ A' c', LfS w' s n A' c' (if i ∈ S then S else S ++ [i]) (if i ∈ S then P else P ++ [i]) tk Ad cd D ∧ Below s w w' := by
  have H := hid h
  have hsl := h.lt
  have y0 := h.cs
  obtain ⟨y1, y1f⟩ := h.seen_at hi
  have hiz : (i : Int) < (n : Int) := by omega
  by_cases hm : i ∈ S
  · rw [decide_eq_true hm] at y1
    rw [if_pos hm, if_pos hm]
    clear h hm
    go_enter Try.func29, Try.ntmps29
    go_wp2_with fail
    go_end0
    exact ⟨rfl, A, c, H.out, Below.refl _ _⟩
  · rw [decide_eq_false hm] at y1
    rw [if_neg hm, if_neg hm]
    obtain ⟨i0, hi0, hz0, hz1, hz2⟩ := info_parts info_int
    have HR1 : Hid ((w.setCell ⟨s + 2, i, none⟩ (.bool true)).ownsRow s 3 1 (.slice A P.length c) P.length (numV P)) := hid (row_kept h.path (fun g hg => by
      rw [ownBlock_slice] at hg
      exact Below.heap_setCell _ _ _ _ (by have := h.farP g hg; show g ≠ s + 2; omega)))
    have y2 : (w.setCell ⟨s + 2, i, none⟩ (.bool true)).cell? ⟨s, 0, none⟩ = some (.slice A P.length c) := (heap_cell ((Below.heap_setCell _ _ _ _ (by show s ≠ s + 2; omega)).trans h.pb) 0).trans rfl
    have HAF : Hid (∀ o w2, ((w.setCell ⟨s + 2, i, none⟩ (.bool true)).alloc o).grownBy w2 (Value.slice A P.length c).ownBlock → w2.cell? ⟨s, 0, none⟩ = some (.slice A P.length c) ∧ w2.frozen? ⟨s, 0, none⟩ = false) := hid (fun o w2 hg => by
      have h1 : ((w.setCell ⟨s + 2, i, none⟩ (.bool true)).alloc o).heap[s]? = some (.cells #[.slice A P.length c] 30 (0, 0)) := (Below.heap_alloc _ o s (by simp; omega)).trans ((Below.heap_setCell _ _ _ _ (by show s ≠ s + 2; omega)).trans h.pb)
      have h2 := (hg.block s (heap_lt h1) (by rw [ownBlock_slice]; intro e; have := h.farP s e.symm; omega)).trans h1
      exact ⟨(heap_cell h2 0).trans rfl, heap_free h2 0⟩)
    have HNW : Hid (∀ j u, [Value.int .i64 (i : Int)][j]? = some u → ((w.setCell ⟨s + 2, i, none⟩ (.bool true)).alloc (.cells #[.int .i64 (i : Int)] 3)).cell? ((⟨w.heap.size, 0, none⟩ : Addr).add j) = some u) := hid (by
      have := cell_one_new (w.setCell ⟨s + 2, i, none⟩ (.bool true)) (.int .i64 (i : Int)) 3
      rw [World.size_setCell] at this
      exact this)
    clear h hm
    go_enter Try.func29, Try.ntmps29
    go_wp2_with (at_builtin; refine wpList_append_own_at _ rfl _ _ 30 rfl s 3 i0 (.int .i64 0) 1 8 Try.underlying30 hi0 hz0 hz1 hz2 rfl (by decide) _ _ _ rfl (HR1.out.alloc _) ⟨w.heap.size, 0, none⟩ 1 1 [.int .i64 (i : Int)] rfl rfl HNW.out (ints_oneCell .i64 [(i : Int)]) (by unfold maxLen; omega) (by omega) (by simp; omega) ?_; intro v' w2 hown' hgrow hnil hloc; obtain ⟨g', cap', rfl⟩ := row_succ hown'; obtain ⟨z1, z2⟩ := HAF.out _ _ hgrow; have HV := hid (H.out.visit hi hown' hgrow hloc); clear hown' hgrow hnil hloc)
    go_end0
    exact ⟨rfl, _, _, HV.out.1, HV.out.2⟩

end Go.Proofs.Ytahaflapkdjmhaa
