/-
  A row of nodes of the call's own, and a slice of nodes that is read; what is kept of both. No conditions but those that each lemma names.
-/
import Derived.Test.YtimlblbmfckeiaaDoorTyF
import Derived.Laws.OwnMore
import Derived.Laws.AppendOwnNone
namespace Go.Proofs.YtimlblbmfckeiaaDoor
open Go.RowKit

theorem heap_lt {w : World} {b : Nat} {o : Obj} (h : w.heap[b]? = some o) : b < w.heap.size := (Array.getElem?_eq_some_iff.1 h).1
theorem cell_lt {w : World} {a : Addr} {v : Value} (h : w.cell? a = some v) : a.block < w.heap.size := by
  rcases Nat.lt_or_ge a.block w.heap.size with hlt | hge
  · exact hlt
  · have hn : w.heap[a.block]? = none := Array.getElem?_eq_none hge
    simp [World.cell?, hn] at h

def ndC (x : L.Nd) : List Value := [.int .i64 x.kind, .string x.name, .int .i64 x.n]
def cellsN (l : List L.Nd) : List Value := l.flatMap ndC

theorem cellsN_len (l : List L.Nd) : (cellsN l).length = l.length * 3 := by
  induction l with
  | nil => rfl
  | cons t r ih => simp only [cellsN, ndC, List.flatMap_cons, List.length_append, List.length_cons, List.length_nil] at ih ⊢; omega

theorem cellsN_append (l r : List L.Nd) : cellsN (l ++ r) = cellsN l ++ cellsN r := by simp [cellsN]
theorem cellsN_cons (x : L.Nd) (l : List L.Nd) : cellsN (x :: l) = ndC x ++ cellsN l := by simp [cellsN]

theorem cellsN_one (l : List L.Nd) : ∀ u ∈ cellsN l, u.oneCell' = true := by
  intro u hu
  obtain ⟨x, _, hx⟩ := List.mem_flatMap.1 hu
  simp [ndC] at hx
  rcases hx with rfl | rfl | rfl <;> rfl

theorem cellsN_get (l : List L.Nd) (i : Nat) (h : i < l.length) :
    (cellsN l)[i * 3]? = some (.int .i64 l[i].kind) ∧ (cellsN l)[i * 3 + 1]? = some (.string l[i].name) ∧ (cellsN l)[i * 3 + 2]? = some (.int .i64 l[i].n) := by
  induction l generalizing i with
  | nil => simp at h
  | cons t r ih =>
    rw [cellsN_cons]
    cases i with
    | zero => simp [ndC]
    | succ i =>
      have hi : i < r.length := by simpa using h
      have h1 := ih i hi
      have e3 : ∀ j, (ndC t ++ cellsN r)[(i + 1) * 3 + j]? = (cellsN r)[i * 3 + j]? := by
        intro j
        rw [List.getElem?_append_right (by simp [ndC]; omega)]
        congr 1
        simp [ndC]
        omega
      have e0 := e3 0
      simp only [Nat.add_zero] at e0
      rw [e0, e3 1, e3 2]
      exact h1

theorem cellsN_of {l : List L.Nd} {j : Nat} {u : Value} (h : (cellsN l)[j]? = some u) : ∃ i, ∃ hi : i < l.length, (j = i * 3 ∧ u = .int .i64 l[i].kind) ∨ (j = i * 3 + 1 ∧ u = .string l[i].name) ∨ (j = i * 3 + 2 ∧ u = .int .i64 l[i].n) := by
  have hj : j < (cellsN l).length := by
    rcases Nat.lt_or_ge j (cellsN l).length with h2 | h2
    · exact h2
    · rw [List.getElem?_eq_none h2] at h; cases h
  rw [cellsN_len] at hj
  have hi : j / 3 < l.length := by omega
  obtain ⟨a, b, c⟩ := cellsN_get l (j / 3) hi
  refine ⟨j / 3, hi, ?_⟩
  rcases (by omega : j = j / 3 * 3 ∨ j = j / 3 * 3 + 1 ∨ j = j / 3 * 3 + 2) with e | e | e
  · rw [e, a] at h; exact Or.inl ⟨e, (Option.some.inj h).symm⟩
  · rw [e, b] at h; exact Or.inr (Or.inl ⟨e, (Option.some.inj h).symm⟩)
  · rw [e, c] at h; exact Or.inr (Or.inr ⟨e, (Option.some.inj h).symm⟩)

/-- A slice value that holds just these nodes, in a block from B on, of the call's own. -/
def Own (B : Nat) (v : Value) (l : List L.Nd) (w : World) : Prop := w.ownsRow B 44 3 v l.length (cellsN l)

/-- A slice value that reads as these nodes, in a block below B. -/
def Rd (w : World) (B : Nat) (v : Value) (l : List L.Nd) : Prop :=
  ∃ (A : Option Addr) (cap : Nat), v = .slice A l.length cap ∧ l.length ≤ cap ∧ cap ≤ maxLen ∧ (A = none → cap = 0) ∧
    (l ≠ [] → ∃ b o, A = some ⟨b, o, none⟩ ∧ b < B ∧ ∀ (i : Nat) (h : i < l.length), w.cell? ⟨b, o + i * 3, none⟩ = some (.int .i64 l[i].kind) ∧ w.cell? ⟨b, o + i * 3 + 1, none⟩ = some (.string l[i].name) ∧ w.cell? ⟨b, o + i * 3 + 2, none⟩ = some (.int .i64 l[i].n))

theorem grown_of_below {w w' : World} (h : Below w.heap.size w w') : w.grownBy w' none := ⟨h.os, h.tape, h.output, h.size, fun i hi _ => h.block i hi⟩

theorem Own.below {B : Nat} {v : Value} {l : List L.Nd} {w w' : World} (h : Own B v l w) (hb : Below w.heap.size w w') : Own B v l w' := by
  unfold Own at h ⊢
  by_cases hv : v.ownBlock = none
  · exact h.kept (grown_of_below hb) (Or.inl hv)
  · exact h.kept (grown_of_below hb) (Or.inr hv)
theorem Own.alloc {B : Nat} {v : Value} {l : List L.Nd} {w : World} (h : Own B v l w) (o : Obj) : Own B v l (w.alloc o) := World.ownsRow.alloc h o
theorem Own.nil (B : Nat) (w : World) : Own B (.slice none 0 0) [] w := World.ownsRow_nil w B _ 3
theorem Own.lt {B : Nat} {v : Value} {l : List L.Nd} {w : World} (h : Own B v l w) : ∀ k, v.ownBlock = some k → B ≤ k ∧ k < w.heap.size := World.ownsRow.lt h
theorem Own.append {B : Nat} {v : Value} {l r : List L.Nd} {w : World} (h : w.ownsRow B 44 3 v (l.length + r.length) (cellsN l ++ cellsN r)) : Own B v (l ++ r) w := by
  unfold Own
  rw [cellsN_append, List.length_append]
  exact h

theorem Own.rd {B : Nat} {v : Value} {l : List L.Nd} {w : World} (h : Own B v l w) : Rd w w.heap.size v l := by
  rcases h.2 with ⟨hv, h0⟩ | ⟨g, cap, cur, hv, _, hh, hc, hm, _⟩
  · refine ⟨none, 0, by rw [hv, h0], by omega, Nat.zero_le _, fun _ => rfl, fun hn => absurd (List.eq_nil_of_length_eq_zero h0) hn⟩
  · subst hv
    refine ⟨_, cap, rfl, hc, hm, by simp, fun _ => ⟨g, 0, rfl, heap_lt hh, fun i hi => ?_⟩⟩
    obtain ⟨a, b, c⟩ := cellsN_get l i hi
    have hc := fun j hj => World.ownsRow.cellAt h j hj
    rw [Nat.zero_add]
    exact ⟨(hc _ (by omega)).trans a, (hc _ (by omega)).trans b, (hc _ (by omega)).trans c⟩

theorem Rd.mono {w : World} {B B' : Nat} {v : Value} {l : List L.Nd} (h : Rd w B v l) (hB : B ≤ B') : Rd w B' v l := by
  obtain ⟨A, cap, hv, h1, h2, h3, hc⟩ := h
  refine ⟨A, cap, hv, h1, h2, h3, fun hn => ?_⟩
  obtain ⟨b, o, ha, hb, hx⟩ := hc hn
  exact ⟨b, o, ha, by omega, hx⟩

theorem Rd.kept {w w' : World} {B : Nat} {v : Value} {l : List L.Nd} (h : Rd w B v l) (hk : ∀ b, b < B → b < w.heap.size → w'.heap[b]? = w.heap[b]?) : Rd w' B v l := by
  obtain ⟨A, cap, hv, h1, h2, h3, hc⟩ := h
  refine ⟨A, cap, hv, h1, h2, h3, fun hn => ?_⟩
  obtain ⟨b, o, ha, hb, hx⟩ := hc hn
  refine ⟨b, o, ha, hb, fun i hi => ?_⟩
  obtain ⟨x, y, z⟩ := hx i hi
  have hlt := cell_lt x
  have e : ∀ j, w'.cell? ⟨b, j, none⟩ = w.cell? ⟨b, j, none⟩ := fun j => World.cell?_of_block (a := ⟨b, j, none⟩) (hk b hb hlt)
  rw [e, e, e]
  exact ⟨x, y, z⟩

theorem Rd.below {w w' : World} {B : Nat} {v : Value} {l : List L.Nd} (h : Rd w B v l) (hb : Below w.heap.size w w') : Rd w' B v l := h.kept fun b _ hl => hb.block b hl
theorem Rd.low {w w' : World} {B : Nat} {v : Value} {l : List L.Nd} (h : Rd w B v l) (hb : Below B w w') : Rd w' B v l := h.kept fun b hl _ => hb.block b hl
theorem Rd.grown {w w' : World} {B A : Nat} {v : Value} {l : List L.Nd} (h : Rd w B v l) (hg : w.grownBy w' (some A)) (hA : B ≤ A) : Rd w' B v l := h.kept fun b hl hs => hg.block b hs (by simp; omega)
theorem Rd.alloc {w : World} {B : Nat} {v : Value} {l : List L.Nd} (h : Rd w B v l) (o : Obj) : Rd (w.alloc o) B v l := h.below (below_new o)

theorem Rd.size {w : World} {B : Nat} {v : Value} {l : List L.Nd} (h : Rd w B v l) : Rd w w.heap.size v l := by
  obtain ⟨A, cap, hv, h1, h2, h3, hc⟩ := h
  refine ⟨A, cap, hv, h1, h2, h3, fun hn => ?_⟩
  obtain ⟨b, o, ha, hb, hx⟩ := hc hn
  have h0 : 0 < l.length := List.length_pos_iff.2 hn
  exact ⟨b, o, ha, cell_lt (hx 0 h0).1, hx⟩

/-- What is read may be appended to a row of the call's own. -/
theorem Rd.src {w : World} {B : Nat} {v : Value} {l : List L.Nd} (h : Rd w B v l) :
    (v = .slice none 0 0 ∧ l = []) ∨ ∃ a cap, v = .slice (some a) l.length cap ∧ ∀ j u, (cellsN l)[j]? = some u → w.cell? (a.add j) = some u := by
  obtain ⟨A, cap, rfl, h1, h2, h3, hc⟩ := h
  cases A with
  | none =>
    have h0 := h3 rfl
    subst h0
    have h4 : l = [] := List.eq_nil_of_length_eq_zero (by omega)
    subst h4
    exact Or.inl ⟨rfl, rfl⟩
  | some a =>
    refine Or.inr ⟨a, cap, rfl, fun j u hu => ?_⟩
    obtain ⟨i, hi, hh⟩ := cellsN_of hu
    obtain ⟨b, o, ha, _, hx⟩ := hc (by rintro rfl; simp at hi)
    injection ha with ha
    subst ha
    obtain ⟨x, y, z⟩ := hx i hi
    have e : ∀ j, (⟨b, o, none⟩ : Addr).add j = ⟨b, o + j, none⟩ := fun j => by unfold Addr.add; split <;> simp_all
    rw [e]
    rcases hh with ⟨rfl, rfl⟩ | ⟨rfl, rfl⟩ | ⟨rfl, rfl⟩
    · exact x
    · exact y
    · exact z

theorem infoNode : (Tryd.prog.info? 44).map (fun i => (i.zero, i.size, i.bytes)) = some (some (.agg #[.int .i64 0, .string ⟨#[]⟩, .int .i64 0]), 3, 32) := by kernel_rfl

end Go.Proofs.YtimlblbmfckeiaaDoor
