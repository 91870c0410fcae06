/-
  The texts AsT, AsO, AsW, one behind the other. Conditions: those that each of them names.
-/
import Derived.Test.YtmcdggjcpfkchaaMA3
import Derived.Test.YtmcdggjcpfkchaaMA1
import Derived.Test.YtmcdggjcpfkchaaM1
import Derived.Test.YtmcdggjcpfkchaaM2
import Derived.Lib.QuietBelow
import Derived.Laws.EntriesVeiled
section
/-
  The closure of ast.Right: what it stands on; the way out when the tree is too deep. (The rest is to come: the pattern is ty's visit, with a row of labels of the call's own.)
-/
namespace Go.Proofs.Ytmcdggjcpfkchaa
open Go.RowKit Go.Sort

theorem cell_kept {w w' : World} {b j : Nat} {u : Value} (h : w'.heap[b]? = w.heap[b]?) (hc : w.cell? ⟨b, j, none⟩ = some u) : w'.cell? ⟨b, j, none⟩ = some u := by
  rw [← hc]
  simp only [World.cell?, h]

/-- Parts that are read are read still when only one later block is written. -/
theorem RdP.grown {w w' : World} {B A : Nat} {v : Value} {l : List E.Pt} (h : RdP w B v l) (hg : w.grownBy w' (some A)) (hA : B ≤ A) (hB : B ≤ w.heap.size) : RdP w' B v l := by
  obtain ⟨A', cap, hv, h1, h2, hc⟩ := h
  refine ⟨A', cap, hv, h1, h2, fun hn => ?_⟩
  obtain ⟨b, o, ha, hlt, hx⟩ := hc hn
  refine ⟨b, o, ha, hlt, fun i hi => ?_⟩
  obtain ⟨vt, vu, c0, c1, c2, c3, c4, c5, c6, c7, ht, hu⟩ := hx i hi
  have e : w'.heap[b]? = w.heap[b]? := hg.block b (by omega) (by simp; omega)
  exact ⟨vt, vu, cell_kept e c0, cell_kept e c1, cell_kept e c2, cell_kept e c3, cell_kept e c4, cell_kept e c5, cell_kept e c6, cell_kept e c7, ht.grown hg hA, hu.grown hg hA⟩

/-- What the closure stands on: the slice's box, the place's box, its own box. -/
structure VStP (l : List E.Pt) (v : Value) (g T A V p : Nat) (w : World) : Prop where
  t : w.heap[T]? = some (.cells #[v] 32 (0, 0))
  a : w.heap[A]? = some (.cells #[.int .i64 p] 3 (0, 0))
  f : w.heap[V]? = some (.cells #[.func (.func g) #[] #[.pointer (some ⟨T, 0, none⟩), .pointer (some ⟨A, 0, none⟩), .pointer (some ⟨V, 0, none⟩)]] 67 (0, 0))
  rd : RdP w A v l
  ta : T < A
  av : A < V

theorem VStP.keep {l : List E.Pt} {v : Value} {g T A V p q : Nat} {w w' : World} (h : VStP l v g T A V p w) (hg : w.grownBy w' (some A)) (ha : w'.heap[A]? = some (.cells #[.int .i64 q] 3 (0, 0))) : VStP l v g T A V q w' := by
  have hT := heap_lt h.t
  have hV := heap_lt h.f
  have hA := heap_lt h.a
  have := h.ta
  have := h.av
  exact ⟨(hg.block T hT (by simp; omega)).trans h.t, ha, (hg.block V hV (by simp; omega)).trans h.f, h.rd.grown hg (Nat.le_refl _) (by omega), h.ta, h.av⟩

/-- What the parts' fields keep to, as the walks ask for it. -/
def Small (p : E.Pt) : Prop := p.name.size ≤ 9223372036854775807 ∧ p.bind.size ≤ 9223372036854775807 ∧ p.label.size ≤ 9223372036854775807 ∧ (∀ x ∈ p.t, x.name.size ≤ 9223372036854775807) ∧ ∀ x ∈ p.u, x.name.size ≤ 2000000

end Go.Proofs.Ytmcdggjcpfkchaa
end

section
/-
  Rows of texts of the call's own, for ast's walks (as ty's TyRw, without what this seat has not). No conditions but those that each lemma names.
-/
namespace Go.Proofs.Ytmcdggjcpfkchaa
open Go.RowKit

/-- A row of texts of the call's own. -/
def OwnS (B : Nat) (v : Value) (ss : List ByteArray) (w : World) : Prop := w.ownsRow B 9 1 v ss.length (ss.map .string)

theorem OwnS.below {B : Nat} {v : Value} {ss : List ByteArray} {w w' : World} (h : OwnS B v ss w) (hb : Below w.heap.size w w') : OwnS B v ss w' := row_below h hb

theorem OwnS.nil (B : Nat) (w : World) : OwnS B (.slice none 0 0) [] w := World.ownsRow_nil w B _ 1

/-- It stays where one elder block is written. -/
theorem OwnS.grown {B A : Nat} {v : Value} {ss : List ByteArray} {w w' : World} (h : OwnS B v ss w) (hg : w.grownBy w' (some A)) (hA : A < B) : OwnS B v ss w' := by
  refine World.ownsRow.kept h hg ?_
  rcases h.2 with ⟨hv, _⟩ | ⟨g, cap, cur, hv, hB, _⟩
  · left; rw [hv]; rfl
  · right
    rw [hv]
    simp only [Value.ownBlock, ne_eq, Option.some.injEq]
    omega

theorem OwnS.snoc {B : Nat} {v : Value} {ss : List ByteArray} {w : World} (s : ByteArray) (h : w.ownsRow B 9 1 v (ss.length + 1) (ss.map .string ++ [.string s])) : OwnS B v (ss ++ [s]) w := by
  unfold OwnS
  rw [List.map_append, List.length_append]
  exact h

theorem OwnS.rd {B : Nat} {v : Value} {ss : List ByteArray} {w : World} (h : OwnS B v ss w) : RdS w w.heap.size v ss := by
  rcases h.2 with ⟨hv, h0⟩ | ⟨g, cap, cur, hv, _, hh, hc, hm, _⟩
  · exact ⟨none, 0, by rw [hv, h0], fun hn => absurd (List.eq_nil_of_length_eq_zero h0) hn⟩
  · subst hv
    refine ⟨_, cap, rfl, fun _ => ⟨g, 0, rfl, heap_lt hh, fun i hi => ?_⟩⟩
    rw [Nat.zero_add, World.ownsRow.cellAt h i (by omega)]
    simp [hi]

theorem OwnS.val {B : Nat} {v : Value} {ss : List ByteArray} {w : World} (h : OwnS B v ss w) : ∃ A cap, v = .slice A ss.length cap := by
  obtain ⟨A, cap, hv, -⟩ := h.rd
  exact ⟨A, cap, hv⟩

theorem infoStr : (Try.prog.info? 9).map (fun i => (i.zero, i.size, i.bytes)) = some (some (.string ⟨#[]⟩), 1, 16) := by kernel_rfl

end Go.Proofs.Ytmcdggjcpfkchaa
end

section
/-
  The closure of ast.Right: the walk. Conditions: Small parts, KTab, MCell.
-/
namespace Go.Proofs.Ytmcdggjcpfkchaa
open Go.RowKit Go.Sort

theorem KTab.grown {A : Nat} {w w' : World} (h : KTab w) (hg : w.grownBy w' (some A)) (hA : 2 ≤ A) : KTab w' := by
  have := h.size
  obtain ⟨t, fr, h⟩ := h
  exact ⟨t, fr, (hg.block 0 (by omega) (by simp; omega)).trans h⟩
theorem MCell.grown {A : Nat} {w w' : World} (h : MCell w) (hg : w.grownBy w' (some A)) (hA : 2 ≤ A) : MCell w' := by
  obtain ⟨m, h1, h2⟩ := h
  have := hg.size
  exact ⟨m, cell_kept (hg.block 1 (by omega) (by simp; omega)) h1, by omega⟩

theorem str_oneP (w : World) (s : ByteArray) : ∀ j u, ([Value.string s] : List Value)[j]? = some u → (w.alloc (.cells #[.string s] 9)).cell? ((⟨w.heap.size, 0, none⟩ : Addr).add j) = some u := by
  intro j u h
  have hj : j = 0 := by
    rcases Nat.lt_or_ge j 1 with hj | hj
    · omega
    · rw [List.getElem?_eq_none (by simpa using hj)] at h; cases h
  subst hj
  have := Lib.cell_of_heap (heap_alloc_new w (.cells #[.string s] 9)) 0
  simp only [List.getElem?_cons_zero, Option.some.injEq] at h
  subst h
  exact this

/-- An append to a row of the call's own, whose block is not below B. -/
theorem grown_app {w w3 w5 : World} {A B : Nat} {own : Option Nat} (h : w.grownBy w3 (some A)) (o : Obj) (hg : (w3.alloc o).grownBy w5 own) (hB : ∀ k, own = some k → B ≤ k) (hw : w.heap.size ≤ B) :
    w.grownBy w5 (some A) ∧ ∀ i, i < B → i < w3.heap.size → w5.heap[i]? = w3.heap[i]? := by
  have e : ∀ i, i < B → i < w3.heap.size → w5.heap[i]? = w3.heap[i]? := fun i h1 h2 =>
    (hg.block i (by simp; omega) (fun he => by have := hB i he.symm; omega)).trans (heap_alloc_old w3 o h2)
  exact ⟨⟨hg.os.trans h.os, hg.tape.trans h.tape, hg.output.trans h.output, Nat.le_trans h.size (Nat.le_trans (by simp) hg.size), fun i hi hn => (e i (by omega) (Nat.lt_of_lt_of_le hi h.size)).trans (h.block i hi hn)⟩, e⟩

end Go.Proofs.Ytmcdggjcpfkchaa
end
