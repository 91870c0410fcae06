/-
  A row of tokens of the call's own, and what is kept of it. No conditions but those that each lemma names.
-/
import Derived.Test.YtfmmhmkaphbmpaaDoorLexA
import Derived.Test.YtfmmhmkaphbmpaaDoorLexN
import Derived.Laws.OwnMore
namespace Go.Proofs.YtfmmhmkaphbmpaaDoor
open Go.RowKit

def cellsT (l : List L.Tok) : List Value := l.flatMap fun t => [.int .i64 t.kind, strV t.text, .int .i64 t.fr, .int .i64 t.to]

theorem cellsT_len (l : List L.Tok) : (cellsT l).length = l.length * 4 := by
  induction l with
  | nil => rfl
  | cons t r ih => simp only [cellsT, List.flatMap_cons, List.length_append, List.length_cons, List.length_nil] at ih ⊢; omega

theorem cellsT_snoc (l : List L.Tok) (t : L.Tok) : cellsT (l ++ [t]) = cellsT l ++ [.int .i64 t.kind, strV t.text, .int .i64 t.fr, .int .i64 t.to] := by
  simp [cellsT]

/-- A slice value that holds just these tokens, in a block from B on. -/
def Own (B : Nat) (v : Value) (l : List L.Tok) (w : World) : Prop := w.ownsRow B 31 4 v l.length (cellsT l)

theorem grown_of_below {w w' : World} (h : Below w.heap.size w w') : w.grownBy w' none := ⟨h.os, h.tape, h.output, h.size, fun i hi _ => h.block i hi⟩

theorem Own.below {B : Nat} {v : Value} {l : List L.Tok} {w w' : World} (h : Own B v l w) (hb : Below w.heap.size w w') : Own B v l w' := by
  unfold Own at h ⊢
  by_cases hv : v.ownBlock = none
  · exact h.kept (grown_of_below hb) (Or.inl hv)
  · exact h.kept (grown_of_below hb) (Or.inr hv)
theorem Own.alloc {B : Nat} {v : Value} {l : List L.Tok} {w : World} (h : Own B v l w) (o : Obj) : Own B v l (w.alloc o) := World.ownsRow.alloc h o
theorem Own.nil (B : Nat) (w : World) : Own B (.slice none 0 0) [] w := World.ownsRow_nil w B _ 4

/-- A block of another element type is not the row's. -/
theorem Own.ne {B b : Nat} {v : Value} {l : List L.Tok} {w : World} {cs : Array Value} {t : TypeId} (h : Own B v l w) (hb : w.heap[b]? = some (.cells cs t (0, 0))) (ht : 31 ≠ t) : some b ≠ v.ownBlock := by
  intro he
  rcases h.2 with ⟨hv, _⟩ | ⟨g, cap, cur, hv, _, hh, _⟩
  · rw [hv] at he; cases he
  · rw [hv] at he
    have hbg : b = g := by simpa [Value.ownBlock] using he
    rw [hbg, hh] at hb
    injection hb with hb
    injection hb with _ h2
    exact ht h2

theorem Own.lt {B : Nat} {v : Value} {l : List L.Tok} {w : World} (h : Own B v l w) : ∀ k, v.ownBlock = some k → B ≤ k ∧ k < w.heap.size := World.ownsRow.lt h

theorem Own.snoc {B : Nat} {v : Value} {l : List L.Tok} {w : World} (t : L.Tok) (h : w.ownsRow B 31 4 v (l.length + 1) (cellsT l ++ [.int .i64 t.kind, strV t.text, .int .i64 t.fr, .int .i64 t.to])) : Own B v (l ++ [t]) w := by
  unfold Own
  rw [cellsT_snoc, List.length_append]
  exact h

theorem cells_new (w1 : World) (o : Obj) (cs : List Value) (t : TypeId) (j : Nat) (u : Value) (h : cs[j]? = some u) :
    ((w1.alloc o).alloc (.cells cs.toArray t)).cell? ((⟨w1.heap.size + 1, 0, none⟩ : Addr).add j) = some u := by
  have hb : ((w1.alloc o).alloc (.cells cs.toArray t)).heap[w1.heap.size + 1]? = some (.cells cs.toArray t (0, 0)) := by
    have := heap_alloc_new (w1.alloc o) (.cells cs.toArray t)
    simpa using this
  have hadd : (⟨w1.heap.size + 1, 0, none⟩ : Addr).add j = ⟨w1.heap.size + 1, j, none⟩ := by unfold Addr.add; split <;> simp_all
  rw [hadd, cell_of_row _ _ j _ t (0, 0) hb]
  simpa using h

/-- What an append of one token leaves: the row, the frame, each elder block but the row's own, and the token's block. -/
theorem push_step {B : Nat} {v v' : Value} {acc : List L.Tok} {w w1 w2 : World} (t : L.Tok) (cs : Array Value) (ty : TypeId) (o2 : Obj) (hO : w1.ownsRow B 31 4 v acc.length (cellsT acc)) (hB : Below B w w1) (hBs : B ≤ w.heap.size)
    (hown : w2.ownsRow B 31 4 v' (acc.length + 1) (cellsT acc ++ [.int .i64 t.kind, strV t.text, .int .i64 t.fr, .int .i64 t.to])) (hg : ((w1.alloc (.cells cs ty)).alloc o2).grownBy w2 v.ownBlock) :
    Own B v' (acc ++ [t]) w2 ∧ Below B w w2 ∧ (∀ b, b < w1.heap.size → some b ≠ v.ownBlock → w2.heap[b]? = w1.heap[b]?) ∧ w2.heap[w1.heap.size]? = some (.cells cs ty (0, 0)) := by
  have hlt := World.ownsRow.lt hO
  have hz : B ≤ w1.heap.size := Nat.le_trans hBs hB.size
  refine ⟨Own.snoc t hown, ?_, ?_, ?_⟩
  · exact ((hB.alloc hz _).alloc (by simp; omega) _).grown hg (by simp; omega) (fun k hk => (hlt k hk).1)
  · intro b hb hne
    rw [hg.block b (by simp; omega) hne, Lib.alloc_old _ _ b (by simp; omega), Lib.alloc_old _ _ b hb]
  · rw [hg.block w1.heap.size (by simp; omega) (fun e => by have := (hlt _ e.symm).2; omega), Lib.alloc_old _ _ _ (by simp)]
    exact heap_alloc_new w1 _

theorem cells_one (w1 : World) (cs : List Value) (t : TypeId) (j : Nat) (u : Value) (h : cs[j]? = some u) :
    (w1.alloc (.cells cs.toArray t)).cell? ((⟨w1.heap.size, 0, none⟩ : Addr).add j) = some u := by
  have hb : (w1.alloc (.cells cs.toArray t)).heap[w1.heap.size]? = some (.cells cs.toArray t (0, 0)) := heap_alloc_new w1 _
  have hadd : (⟨w1.heap.size, 0, none⟩ : Addr).add j = ⟨w1.heap.size, j, none⟩ := by unfold Addr.add; split <;> simp_all
  rw [hadd, cell_of_row _ _ j _ t (0, 0) hb]
  simpa using h
theorem push_last {B : Nat} {v v' : Value} {acc : List L.Tok} {w w1 w2 : World} (t : L.Tok) (o : Obj) (hO : w1.ownsRow B 31 4 v acc.length (cellsT acc)) (hB : Below B w w1) (hBs : B ≤ w.heap.size)
    (hown : w2.ownsRow B 31 4 v' (acc.length + 1) (cellsT acc ++ [.int .i64 t.kind, strV t.text, .int .i64 t.fr, .int .i64 t.to])) (hg : (w1.alloc o).grownBy w2 v.ownBlock) :
    Own B v' (acc ++ [t]) w2 ∧ Below B w w2 := by
  have hlt := World.ownsRow.lt hO
  have hz : B ≤ w1.heap.size := Nat.le_trans hBs hB.size
  exact ⟨Own.snoc t hown, (hB.alloc hz _).grown hg (by simp; omega) (fun k hk => (hlt k hk).1)⟩

theorem infoTok : (Tryd.prog.info? 31).map (fun i => (i.zero, i.size, i.bytes)) = some (some (.agg #[.int .i64 0, .string ⟨#[]⟩, .int .i64 0, .int .i64 0]), 4, 40) := by kernel_rfl

end Go.Proofs.YtfmmhmkaphbmpaaDoor
