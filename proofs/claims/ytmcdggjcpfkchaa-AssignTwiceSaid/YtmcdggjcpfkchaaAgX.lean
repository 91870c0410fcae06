/-
  Expressions that are filled; rows of parts of the call's own, whose types are written anew. No conditions but those that each lemma names.
-/
import Derived.Test.YtmcdggjcpfkchaaAgE
import Derived.Test.YtmcdggjcpfkchaaMA19
namespace Go.Proofs.Ytmcdggjcpfkchaa.E
open Go
/-- A part, filled. -/
def fillP (cs : List L.Ch) (p : Pt) : Pt := { p with t := L.fillL cs p.t, u := L.fillL cs p.u }
def fillE (cs : List L.Ch) (e : List Pt) : List Pt := e.map (fillP cs)
/-- An expression, whose first k parts are filled. -/
def upto (cs : List L.Ch) (e : List Pt) (k : Nat) : List Pt := (e.take k).map (fillP cs) ++ e.drop k
theorem upto_zero (cs : List L.Ch) (e : List Pt) : upto cs e 0 = e := by simp [upto]
theorem upto_all (cs : List L.Ch) (e : List Pt) : upto cs e e.length = fillE cs e := by simp [upto, fillE]
theorem upto_len (cs : List L.Ch) (e : List Pt) (k : Nat) : (upto cs e k).length = e.length := by
  unfold upto
  rw [List.length_append, List.length_map, List.length_take, List.length_drop]
  omega
theorem upto_at (cs : List L.Ch) {e : List Pt} {k : Nat} (h : k < e.length) : (upto cs e k)[k]? = some e[k] := by
  unfold upto
  rw [List.getElem?_append_right (by rw [List.length_map, List.length_take]; omega), List.length_map, List.length_take, Nat.min_eq_left (by omega), Nat.sub_self, List.drop_eq_getElem_cons h]
  rfl
theorem upto_set (cs : List L.Ch) {e : List Pt} {k : Nat} (h : k < e.length) : (upto cs e k).set k (fillP cs e[k]) = upto cs e (k + 1) := by
  unfold upto
  have e1 : ((e.take k).map (fillP cs)).length = k := by rw [List.length_map, List.length_take]; omega
  rw [List.set_append_right _ _ (by omega), e1, Nat.sub_self, List.drop_eq_getElem_cons h, List.set_cons_zero, List.take_succ_eq_append_getElem h, List.map_append]
  simp
end Go.Proofs.Ytmcdggjcpfkchaa.E
namespace Go.Proofs.Ytmcdggjcpfkchaa
open Go.RowKit

theorem cellsP_cons (y : E.Pt × Value × Value) (ys : List (E.Pt × Value × Value)) : cellsP (y :: ys) = cells1 y ++ cellsP ys := rfl
theorem cellsP_set6 (v : Value) (t : List L.Nd) : ∀ (ys : List (E.Pt × Value × Value)) (i : Nat) (h : i < ys.length), (cellsP ys).set (i * 8 + 6) v = cellsP (ys.set i ({ ys[i].1 with t := t }, v, ys[i].2.2))
  | y :: ys, 0, _ => by
    rw [List.set_cons_zero, cellsP_cons, cellsP_cons, List.set_append_left _ _ (by simp [cells1])]
    rfl
  | y :: ys, i + 1, h => by
    have hl : (cells1 y).length = 8 := rfl
    rw [List.set_cons_succ, cellsP_cons, cellsP_cons, List.set_append_right _ _ (by omega), hl, show (i + 1) * 8 + 6 - 8 = i * 8 + 6 by omega, cellsP_set6 v t ys i (by simpa using h)]
    rfl
theorem cellsP_set7 (v : Value) (t : List L.Nd) : ∀ (ys : List (E.Pt × Value × Value)) (i : Nat) (h : i < ys.length), (cellsP ys).set (i * 8 + 7) v = cellsP (ys.set i ({ ys[i].1 with u := t }, ys[i].2.1, v))
  | y :: ys, 0, _ => by
    rw [List.set_cons_zero, cellsP_cons, cellsP_cons, List.set_append_left _ _ (by simp [cells1])]
    rfl
  | y :: ys, i + 1, h => by
    have hl : (cells1 y).length = 8 := rfl
    rw [List.set_cons_succ, cellsP_cons, cellsP_cons, List.set_append_right _ _ (by omega), hl, show (i + 1) * 8 + 7 - 8 = i * 8 + 7 by omega, cellsP_set7 v t ys i (by simpa using h)]
    rfl

/-- A type's row is another block. -/
def Off (g : Nat) (v : Value) (l : List L.Nd) : Prop := l ≠ [] → v.ownBlock ≠ some g
theorem rd_set {w : World} {B : Nat} {v : Value} {l : List L.Nd} {g j : Nat} (h : Rd w B v l) (ho : Off g v l) (u : Value) : Rd (w.setCell ⟨g, j, none⟩ u) B v l := by
  obtain ⟨A, cap, rfl, h1, h2, h3, hc⟩ := h
  refine ⟨A, cap, rfl, h1, h2, h3, fun hn => ?_⟩
  obtain ⟨b, o, rfl, hb, hx⟩ := hc hn
  have hne : b ≠ g := fun e => ho hn (by rw [e]; rfl)
  refine ⟨b, o, rfl, hb, fun i hi => ?_⟩
  have e : ∀ q, (w.setCell ⟨g, j, none⟩ u).cell? ⟨b, q, none⟩ = w.cell? ⟨b, q, none⟩ := fun q => World.cell?_of_block (a := ⟨b, q, none⟩) (heap_setCell_other w ⟨g, j, none⟩ b u hne)
  rw [e, e, e]
  exact hx i hi
/-- A row of parts of the call's own, in block g. -/
structure RowE (w : World) (B g cap : Nat) (zs : List (E.Pt × Value × Value)) : Prop where
  own : OwnP B (.slice (some ⟨g, 0, none⟩) zs.length cap) zs w
  rd : ∀ y ∈ zs, Rd w w.heap.size y.2.1 y.1.t ∧ Rd w w.heap.size y.2.2 y.1.u ∧ Off g y.2.1 y.1.t ∧ Off g y.2.2 y.1.u
theorem RowE.below {w w' : World} {B g cap : Nat} {zs : List (E.Pt × Value × Value)} (h : RowE w B g cap zs) (hb : Below w.heap.size w w') : RowE w' B g cap zs :=
  ⟨h.own.below hb, fun y hy => by
    obtain ⟨h1, h2, h3, h4⟩ := h.rd y hy
    exact ⟨(h1.below hb).mono hb.size, (h2.below hb).mono hb.size, h3, h4⟩⟩
theorem RowE.block {w : World} {B g cap : Nat} {zs : List (E.Pt × Value × Value)} (h : RowE w B g cap zs) : B ≤ g ∧ g < w.heap.size := World.ownsRow.lt h.own g rfl
theorem RowE.at_ {w : World} {B g cap : Nat} {zs : List (E.Pt × Value × Value)} (h : RowE w B g cap zs) {i : Nat} (hi : i < zs.length) : w.cell? ⟨g, i * 8 + 6, none⟩ = some zs[i].2.1 ∧ w.cell? ⟨g, i * 8 + 7, none⟩ = some zs[i].2.2 ∧ w.frozen? ⟨g, i * 8 + 6, none⟩ = false ∧ w.frozen? ⟨g, i * 8 + 7, none⟩ = false := by
  have hl := cellsP_len zs
  have e := fun j (hj : j < 8) => (World.ownsRow.cellAt h.own (i * 8 + j) (by omega)).trans (cellsP_at zs i hi j hj)
  exact ⟨e 6 (by omega), e 7 (by omega), World.ownsRow.frozenAt h.own _, World.ownsRow.frozenAt h.own _⟩
theorem RowE.setT {w : World} {B g cap : Nat} {zs : List (E.Pt × Value × Value)} (h : RowE w B g cap zs) {i : Nat} (hi : i < zs.length) {v : Value} {t : List L.Nd} (hr : Rd w w.heap.size v t) (ho : Off g v t) :
    RowE (w.setCell ⟨g, i * 8 + 6, none⟩ v) B g cap (zs.set i ({ zs[i].1 with t := t }, v, zs[i].2.2)) := by
  have hs : (w.setCell ⟨g, i * 8 + 6, none⟩ v).heap.size = w.heap.size := by simp
  constructor
  · unfold OwnP
    rw [← cellsP_set6 v t zs i hi, List.length_set]
    exact (World.ownsRow.stored h.own (i * 8 + 6) v).1
  · intro y hy
    rw [hs]
    rcases List.mem_or_eq_of_mem_set hy with hy | rfl
    · obtain ⟨h1, h2, h3, h4⟩ := h.rd y hy
      exact ⟨rd_set h1 h3 _, rd_set h2 h4 _, h3, h4⟩
    · obtain ⟨h1, h2, h3, h4⟩ := h.rd zs[i] (List.getElem_mem hi)
      exact ⟨rd_set hr ho _, rd_set h2 h4 _, ho, h4⟩
theorem RowE.setU {w : World} {B g cap : Nat} {zs : List (E.Pt × Value × Value)} (h : RowE w B g cap zs) {i : Nat} (hi : i < zs.length) {v : Value} {t : List L.Nd} (hr : Rd w w.heap.size v t) (ho : Off g v t) :
    RowE (w.setCell ⟨g, i * 8 + 7, none⟩ v) B g cap (zs.set i ({ zs[i].1 with u := t }, zs[i].2.1, v)) := by
  have hs : (w.setCell ⟨g, i * 8 + 7, none⟩ v).heap.size = w.heap.size := by simp
  constructor
  · unfold OwnP
    rw [← cellsP_set7 v t zs i hi, List.length_set]
    exact (World.ownsRow.stored h.own (i * 8 + 7) v).1
  · intro y hy
    rw [hs]
    rcases List.mem_or_eq_of_mem_set hy with hy | rfl
    · obtain ⟨h1, h2, h3, h4⟩ := h.rd y hy
      exact ⟨rd_set h1 h3 _, rd_set h2 h4 _, h3, h4⟩
    · obtain ⟨h1, h2, h3, h4⟩ := h.rd zs[i] (List.getElem_mem hi)
      exact ⟨rd_set h1 h3 _, rd_set hr ho _, h3, ho⟩
/-- Both types of a part, written anew. -/
theorem RowE.both {cs : List L.Ch} {e : List E.Pt} {w : World} {B g cap k : Nat} {zs : List (E.Pt × Value × Value)} (h : RowE w B g cap zs) (hz : zs.map (·.1) = E.upto cs e k) (hk : k < e.length) {v1 v2 : Value}
    (h1 : Rd w w.heap.size v1 (L.fillL cs e[k].t)) (o1 : Off g v1 (L.fillL cs e[k].t)) (h2 : Rd w w.heap.size v2 (L.fillL cs e[k].u)) (o2 : Off g v2 (L.fillL cs e[k].u)) :
    ∃ zs', RowE ((w.setCell ⟨g, k * 8 + 6, none⟩ v1).setCell ⟨g, k * 8 + 7, none⟩ v2) B g cap zs' ∧ zs'.map (·.1) = E.upto cs e (k + 1) ∧ zs'.length = zs.length := by
  have hzl : zs.length = e.length := by
    have := congrArg List.length hz
    rw [List.length_map, E.upto_len] at this
    exact this
  have hkz : k < zs.length := by omega
  have hat : zs[k].1 = e[k] := by
    have := congrArg (·[k]?) hz
    rw [E.upto_at cs hk] at this
    simpa [hkz] using this
  have a := h.setT hkz h1 o1
  have hs : (w.setCell ⟨g, k * 8 + 6, none⟩ v1).heap.size = w.heap.size := by simp
  have b := a.setU (i := k) (by rw [List.length_set]; exact hkz) (v := v2) (t := L.fillL cs e[k].u) (by rw [hs]; exact rd_set h2 o2 _) o2
  refine ⟨_, b, ?_, by simp⟩
  rw [← E.upto_set cs hk, ← hz, List.map_set, List.map_set, List.set_set]
  congr 1
  rw [List.getElem_set_self]
  simp only [hat]
  rfl
theorem off_low {w : World} {B g : Nat} {v : Value} {l : List L.Nd} (h : Rd w B v l) (hg : B ≤ g) : Off g v l := fun hn => by
  obtain ⟨A, cap, rfl, -, -, -, hc⟩ := h
  obtain ⟨b, o, rfl, hb, -⟩ := hc hn
  simp only [Value.ownBlock, ne_eq, Option.some.injEq]
  omega
theorem off_own {B g : Nat} {v : Value} {l : List L.Nd} {w : World} (h : Own B v l w) (hg : g < B) : Off g v l := fun _ e => by
  have := (h.lt g e).1
  omega
/-- A copy of parts that come in is such a row. -/
theorem rowE_of {w w' : World} {B g cap : Nat} {ys : List (E.Pt × Value × Value)} (ho : OwnP B (.slice (some ⟨g, 0, none⟩) ys.length cap) ys w') (hy : RdY w w.heap.size ys) (hb : Below w.heap.size w w') (hB : w.heap.size ≤ B) : RowE w' B g cap ys :=
  ⟨ho, fun y hy2 => by
    have hg := (World.ownsRow.lt ho g rfl).1
    obtain ⟨h1, h2⟩ := hy y hy2
    exact ⟨(h1.below hb).mono hb.size, (h2.below hb).mono hb.size, off_low h1 (by omega), off_low h2 (by omega)⟩⟩
theorem RowE.rdp {w : World} {B g cap : Nat} {zs : List (E.Pt × Value × Value)} (h : RowE w B g cap zs) (hn : zs ≠ []) : RdP w w.heap.size (.slice (some ⟨g, 0, none⟩) zs.length cap) (zs.map (·.1)) := h.own.rdp hn fun y hy => ⟨(h.rd y hy).1, (h.rd y hy).2.1⟩

end Go.Proofs.Ytmcdggjcpfkchaa
