/-
  Steps of graph's left in memory. Conditions: its blocks lie from s on.
-/
import Derived.Test.YtahaflapkdjmhaaGrP
import Derived.Test.YtahaflapkdjmhaaGrI2
namespace Go.Proofs.Ytahaflapkdjmhaa
open Go.RowKit Go.Deep

section
variable {w : World} {s n : Nat} {A : Option Addr} {c : Nat} {S P tk : List Nat} {Ad : Option Addr} {cd : Nat} {D : List Nat}
theorem LfS.heap {w' : World} (h : LfS w s n A c S P tk Ad cd D) (e : w'.heap = w.heap) : LfS w' s n A c S P tk Ad cd D where
  pb := by rw [e]; exact h.pb
  sb := by rw [e]; exact h.sb
  taken := row_kept h.taken (fun g _ => by rw [e])
  seen := row_kept h.seen (fun g _ => by rw [e])
  path := row_kept h.path (fun g _ => by rw [e])
  done := row_kept h.done (fun g _ => by rw [e])
  farP := h.farP
  farD := h.farD
  apart := h.apart

theorem row_cut {w : World} {B : Nat} {g c x : Nat} {l : List Nat} (h : w.ownsRow B 3 1 (.slice (some ⟨g, 0, none⟩) (l ++ [x]).length c) (l ++ [x]).length (numV (l ++ [x]))) : w.ownsRow B 3 1 (.slice (some ⟨g, 0, none⟩) l.length c) l.length (numV l) := by
  refine ⟨by simp [numV], Or.inr ?_⟩
  rcases h.2 with ⟨h0, _⟩ | ⟨g', cap, cur, hv, hb, hg, h1, h2, h3, h4⟩
  · simp at h0
  · simp only [Value.slice.injEq, Option.some.injEq, Addr.mk.injEq, and_true, true_and] at hv
    obtain ⟨rfl, rfl⟩ := hv
    refine ⟨g, c, cur, rfl, hb, hg, by simp at h1; omega, h2, h3, ?_⟩
    have e : cur.toList.take (l.length * 1) = (cur.toList.take ((l ++ [x]).length * 1)).take (l.length * 1) := by rw [List.take_take]; congr 1; simp
    rw [e, h4]
    simp [numV]

theorem LfS.last {k : Nat} (h : LfS w s n A c S (P ++ [k]) tk Ad cd D) : ∃ g, A = some ⟨g, 0, none⟩ ∧ w.cell? ⟨g, P.length, none⟩ = some (.int .i64 (k : Int)) ∧ P.length + 1 ≤ c ∧ c ≤ maxLen := by
  have hp := h.path
  rcases hp.2 with ⟨_, h0⟩ | ⟨g, cap, cur, hv, _, _, h1, h2, _⟩
  · simp at h0
  · simp only [Value.slice.injEq, true_and] at hv
    obtain ⟨rfl, rfl⟩ := hv
    refine ⟨g, rfl, ?_, by simpa using h1, h2⟩
    rw [hp.cellAt P.length (by simp)]
    simp [numV]

theorem LfS.pop {k : Nat} (h : LfS w s n A c S (P ++ [k]) tk Ad cd D) : LfS (w.setCell ⟨s, 0, none⟩ (.slice A P.length c)) s n A c S P tk Ad cd D := by
  obtain ⟨g, rfl, _⟩ := h.last
  have hg4 := h.farP g rfl
  have one : ∀ k, k ≠ s → (w.setCell ⟨s, 0, none⟩ (.slice (some ⟨g, 0, none⟩) P.length c)).heap[k]? = w.heap[k]? := fun k hk => Below.heap_setCell _ _ _ _ hk
  refine h.turn (one_setCell h.pb) ?_ ?_ (fun g2 hg2 => ⟨h.farP g2 hg2, h.apart g2 hg2⟩) (one _ (by omega)) (one _ (by omega)) (fun g2 hg2 => one _ (by have := h.farD g2 hg2; omega))
  · exact row_kept h.seen (fun g2 hg2 => by
      simp only [Value.ownBlock, Option.some.injEq] at hg2
      exact one _ (by omega))
  · exact row_kept (row_cut h.path) (fun g2 hg2 => by
      simp only [Value.ownBlock, Option.some.injEq] at hg2
      exact one _ (by omega))

theorem LfS.more {w1 : World} {o : Obj} {i g' cap' : Nat} (h : LfS w s n A c S P tk Ad cd D)
    (hown : w1.ownsRow s 3 1 (.slice (some ⟨g', 0, none⟩) (D.length + 1) cap') (D.length + 1) (numV D ++ [.int .i64 (i : Int)])) (hg : (w.alloc o).grownBy w1 (Value.slice Ad D.length cd).ownBlock)
    (hat : (Value.slice (some ⟨g', 0, none⟩) (D.length + 1) cap').ownBlock = (Value.slice Ad D.length cd).ownBlock ∨ (Value.slice (some ⟨g', 0, none⟩) (D.length + 1) cap').ownBlock = some (w.alloc o).heap.size) :
    LfS w1 s n A c S P tk (some ⟨g', 0, none⟩) cap' (D ++ [i]) ∧ Below s w w1 := by
  rw [ownBlock_slice] at hg
  rw [ownBlock_slice, ownBlock_slice] at hat
  have hlt := h.lt
  have hsz : (w.alloc o).heap.size = w.heap.size + 1 := World.size_alloc _ _
  rw [hsz] at hat
  have same : ∀ k, k < w.heap.size → Ad.map (·.block) ≠ some k → w1.heap[k]? = w.heap[k]? := fun k hk hne => (hg.block k (by rw [hsz]; omega) (fun e => hne e.symm)).trans (Below.heap_alloc w o k hk)
  have hDs : ∀ k, k ≤ s + 3 → Ad.map (·.block) ≠ some k := fun k hk e => by have := h.farD k e; omega
  refine ⟨⟨(same s (by omega) (hDs s (by omega))).trans h.pb, (same (s + 3) (by omega) (hDs _ (by omega))).trans h.sb, row_kept h.taken (fun g hgg => ?_), row_kept h.seen (fun g hgg => ?_), row_kept h.path (fun g hgg => ?_), ?_, h.farP, fun g hgg => ?_, fun g hgg => ?_⟩, ?_⟩
  · simp only [Value.ownBlock, Option.some.injEq] at hgg
    subst hgg
    exact same _ (by omega) (hDs _ (by omega))
  · simp only [Value.ownBlock, Option.some.injEq] at hgg
    subst hgg
    exact same _ (by omega) (hDs _ (by omega))
  · rw [ownBlock_slice] at hgg
    exact same g (h.plt g hgg) (h.apart g hgg)
  · have e : (D ++ [i]).length = D.length + 1 := by simp
    rw [e, numV_snoc]
    exact hown
  · simp only [Option.map_some, Option.some.injEq] at hgg
    subst hgg
    rcases hat with e | e
    · exact h.farD g' e.symm
    · simp at e; omega
  · simp only [Option.map_some, ne_eq, Option.some.injEq]
    intro e2
    rcases hat with e | e
    · exact h.apart g hgg (by rw [e2] at e; exact e.symm)
    · simp at e
      have := h.plt g hgg
      omega
  · exact ((Below.refl s w).alloc (by omega) o).grown hg (by simp; omega) (fun k hk => by have := h.farD k hk; omega)

theorem LfS.tset (h : LfS w s n A c S P tk Ad cd D) (k v : Nat) : LfS (w.setCell ⟨s + 1, k, none⟩ (.int .i64 (v : Int))) s n A c S P (tk.set k v) Ad cd D := by
  have one : ∀ j, j ≠ s + 1 → (w.setCell ⟨s + 1, k, none⟩ (.int .i64 (v : Int))).heap[j]? = w.heap[j]? := fun j hj => Below.heap_setCell _ _ _ _ hj
  refine ⟨(one _ (by omega)).trans h.pb, (one _ (by omega)).trans h.sb, ?_, row_kept h.seen (fun g hg => ?_), row_kept h.path (fun g hg => ?_), row_kept h.done (fun g hg => ?_), h.farP, h.farD, h.apart⟩
  · have := (h.taken.stored k (.int .i64 (v : Int))).1
    have e : (numV tk).set k (.int .i64 (v : Int)) = numV (tk.set k v) := by simp [numV, List.map_set]
    rw [e] at this
    exact this
  · simp only [Value.ownBlock, Option.some.injEq] at hg
    exact one _ (by omega)
  · rw [ownBlock_slice] at hg
    exact one _ (by have := h.farP g hg; omega)
  · rw [ownBlock_slice] at hg
    exact one _ (by have := h.farD g hg; omega)
end

theorem LfS.start (w : World) (n : Nat) (hn : n ≤ 1000) : LfS ((((w.alloc (.cells #[.slice none 0 0] 30)).alloc (.cells (madeCells #[.int .i64 0] n) 3)).alloc (.cells (madeCells #[.bool false] n) 4)).alloc (.cells #[.slice (some ⟨w.heap.size + 2, 0, none⟩) n n] 66)) w.heap.size n none 0 [] [] (List.replicate n 0) none 0 [] ∧
    Below w.heap.size w ((((w.alloc (.cells #[.slice none 0 0] 30)).alloc (.cells (madeCells #[.int .i64 0] n) 3)).alloc (.cells (madeCells #[.bool false] n) 4)).alloc (.cells #[.slice (some ⟨w.heap.size + 2, 0, none⟩) n n] 66)) := by
  obtain ⟨h0, h1, h2, h3, -, -⟩ := six w (.cells #[.slice none 0 0] 30) (.cells (madeCells #[.int .i64 0] n) 3) (.cells (madeCells #[.bool false] n) 4) (.cells #[.slice (some ⟨w.heap.size + 2, 0, none⟩) n n] 66) (.cells #[] 3) (.cells #[] 3)
  rw [Below.heap_alloc _ _ _ (by simp <;> omega), Below.heap_alloc _ _ _ (by simp <;> omega)] at h0 h1 h2 h3
  refine ⟨⟨h0, h3, ?_, ?_, World.ownsRow_nil _ _ _ _, World.ownsRow_nil _ _ _ _, fun g hg => by simp at hg, fun g hg => by simp at hg, fun g hg => by simp at hg⟩, ?_⟩
  · refine ⟨by simp [numV], Or.inr ⟨w.heap.size + 1, n, _, rfl, by omega, h1, Nat.le_refl _, by unfold maxLen; omega, by simp [size_madeCells], ?_⟩⟩
    rw [toList_madeCells_one]
    simp [numV]
  · refine ⟨by simp [seenV], Or.inr ⟨w.heap.size + 2, n, _, rfl, by omega, h2, Nat.le_refl _, by unfold maxLen; omega, by simp [size_madeCells], ?_⟩⟩
    rw [toList_madeCells_one]
    apply List.ext_getElem?
    intro k
    by_cases hk : k < n
    · simp [seenV, hk]
    · simp [seenV, hk]
  · exact ((((Below.refl w.heap.size w).alloc (Nat.le_refl _) _).alloc (by simp) _).alloc (by simp; omega) _).alloc (by simp; omega) _

end Go.Proofs.Ytahaflapkdjmhaa
