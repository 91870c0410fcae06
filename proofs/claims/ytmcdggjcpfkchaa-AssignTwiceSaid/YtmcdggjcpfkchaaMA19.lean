/-
  The texts AsOp, one behind the other. Conditions: those that each of them names.
-/
import Derived.Test.YtmcdggjcpfkchaaMA1
import Derived.Test.YtmcdggjcpfkchaaMA4
section
/-
  Rows of parts that the call itself has made: an append of parts that are read, a label that is written. No conditions but those that each lemma names.
-/
namespace Go.Proofs.Ytmcdggjcpfkchaa
open Go.RowKit Go.Sort

/-- A part's cells. -/
def cells1 (y : E.Pt × Value × Value) : List Value := [.int .i64 y.1.kind, .string y.1.label, .string y.1.name, .string y.1.bind, .int .i64 y.1.many, .int .i64 y.1.num, y.2.1, y.2.2]
def cellsP (ys : List (E.Pt × Value × Value)) : List Value := ys.flatMap cells1

theorem cellsP_len (ys : List (E.Pt × Value × Value)) : (cellsP ys).length = ys.length * 8 := by
  induction ys with
  | nil => rfl
  | cons y ys ih =>
    have : cellsP (y :: ys) = cells1 y ++ cellsP ys := rfl
    rw [this, List.length_append, ih, List.length_cons]
    simp [cells1]
    omega

theorem cellsP_at : ∀ (ys : List (E.Pt × Value × Value)) (i : Nat) (h : i < ys.length) (j : Nat), j < 8 → (cellsP ys)[i * 8 + j]? = (cells1 ys[i])[j]?
  | [], i, h, _, _ => by simp at h
  | y :: ys, 0, _, j, hj => by
    have : cellsP (y :: ys) = cells1 y ++ cellsP ys := rfl
    rw [this, Nat.zero_mul, Nat.zero_add, List.getElem?_append_left (by simp [cells1]; omega)]
    rfl
  | y :: ys, i + 1, h, j, hj => by
    have e : cellsP (y :: ys) = cells1 y ++ cellsP ys := rfl
    have hi : i < ys.length := by simpa using h
    rw [e, List.getElem?_append_right (by simp [cells1]; omega), show (i + 1) * 8 + j - (cells1 y).length = i * 8 + j by simp [cells1]; omega]
    rw [cellsP_at ys i hi j hj]
    rfl

/-- The parts' types are read. -/
def RdY (w : World) (B : Nat) (ys : List (E.Pt × Value × Value)) : Prop := ∀ y ∈ ys, Rd w B y.2.1 y.1.t ∧ Rd w B y.2.2 y.1.u

theorem cells1_one {w : World} {B : Nat} {y : E.Pt × Value × Value} (h1 : Rd w B y.2.1 y.1.t) (h2 : Rd w B y.2.2 y.1.u) : ∀ u ∈ cells1 y, u.oneCell' = true := by
  obtain ⟨p, v1, v2⟩ := y
  obtain ⟨A1, c1, e1, -⟩ := h1
  obtain ⟨A2, c2, e2, -⟩ := h2
  simp only at e1 e2
  subst e1
  subst e2
  intro u hu
  simp only [cells1, List.mem_cons, List.mem_nil_iff, or_false] at hu
  rcases hu with rfl | rfl | rfl | rfl | rfl | rfl | rfl | rfl <;> rfl

theorem cellsP_one {w : World} {B : Nat} {ys : List (E.Pt × Value × Value)} (h : RdY w B ys) : ∀ u ∈ cellsP ys, u.oneCell' = true := by
  intro u hu
  obtain ⟨y, hy, hu⟩ := List.mem_flatMap.1 hu
  exact cells1_one (h y hy).1 (h y hy).2 u hu

/-- A slice that reads as parts: its cells, from a block. -/
theorem RdP.pick {w : World} {B : Nat} {v : Value} {l : List E.Pt} (h : RdP w B v l) (hn : l ≠ []) : ∃ (ys : List (E.Pt × Value × Value)) (b o cap : Nat), ys.map (·.1) = l ∧ RdY w B ys ∧ v = .slice (some ⟨b, o, none⟩) l.length cap ∧ b < B ∧ l.length ≤ cap ∧ cap ≤ maxLen ∧
    ∀ j u, (cellsP ys)[j]? = some u → w.cell? ⟨b, o + j, none⟩ = some u := by
  obtain ⟨A, cap, hv, h1, h2, hc⟩ := h
  obtain ⟨b, o, rfl, hb, hx⟩ := hc hn
  have hel : ∀ i : Nat, ∃ q : Value × Value, ∀ hi : i < l.length, w.cell? ⟨b, o + i * 8, none⟩ = some (.int .i64 l[i].kind) ∧ w.cell? ⟨b, o + i * 8 + 1, none⟩ = some (.string l[i].label) ∧ w.cell? ⟨b, o + i * 8 + 2, none⟩ = some (.string l[i].name) ∧ w.cell? ⟨b, o + i * 8 + 3, none⟩ = some (.string l[i].bind) ∧
      w.cell? ⟨b, o + i * 8 + 4, none⟩ = some (.int .i64 l[i].many) ∧ w.cell? ⟨b, o + i * 8 + 5, none⟩ = some (.int .i64 l[i].num) ∧ w.cell? ⟨b, o + i * 8 + 6, none⟩ = some q.1 ∧ w.cell? ⟨b, o + i * 8 + 7, none⟩ = some q.2 ∧ Rd w B q.1 l[i].t ∧ Rd w B q.2 l[i].u := fun i => by
    by_cases hi : i < l.length
    · obtain ⟨vt, vu, c⟩ := hx i hi
      exact ⟨(vt, vu), fun _ => c⟩
    · exact ⟨(.nilFunc, .nilFunc), fun h => absurd h hi⟩
  obtain ⟨Q, hQ⟩ := Classical.axiomOfChoice hel
  refine ⟨l.mapIdx (fun i p => (p, Q i)), b, o, cap, ?_, ?_, hv, hb, h1, h2, ?_⟩
  · apply List.ext_getElem (by simp)
    intro i h1 h2
    simp
  · intro y hy
    obtain ⟨i, hi, rfl⟩ := List.getElem_of_mem hy
    have hi2 : i < l.length := by simpa using hi
    have := hQ i hi2
    simp only [List.getElem_mapIdx]
    exact ⟨this.2.2.2.2.2.2.2.2.1, this.2.2.2.2.2.2.2.2.2⟩
  · intro j u hu
    have hj : j < (cellsP (l.mapIdx (fun i p => (p, Q i)))).length := by
      rcases Nat.lt_or_ge j (cellsP (l.mapIdx (fun i p => (p, Q i)))).length with h | h
      · exact h
      · rw [List.getElem?_eq_none h] at hu; cases hu
    rw [cellsP_len, List.length_mapIdx] at hj
    have hi : j / 8 < l.length := by omega
    have e := cellsP_at (l.mapIdx (fun i p => (p, Q i))) (j / 8) (by simpa using hi) (j % 8) (Nat.mod_lt _ (by omega))
    rw [show j / 8 * 8 + j % 8 = j by omega, hu] at e
    simp only [List.getElem_mapIdx] at e
    obtain ⟨c0, c1, c2, c3, c4, c5, c6, c7, -, -⟩ := hQ (j / 8) hi
    have hm : j % 8 < 8 := Nat.mod_lt _ (by omega)
    have hjj : o + j = o + j / 8 * 8 + j % 8 := by omega
    rw [hjj]
    generalize j % 8 = r at e hm
    rcases (by omega : r = 0 ∨ r = 1 ∨ r = 2 ∨ r = 3 ∨ r = 4 ∨ r = 5 ∨ r = 6 ∨ r = 7) with rfl | rfl | rfl | rfl | rfl | rfl | rfl | rfl
    · rw [e]; exact c0
    · rw [e]; exact c1
    · rw [e]; exact c2
    · rw [e]; exact c3
    · rw [e]; exact c4
    · rw [e]; exact c5
    · rw [e]; exact c6
    · rw [e]; exact c7

/-- A row of parts of the call's own. -/
def OwnP (B : Nat) (v : Value) (ys : List (E.Pt × Value × Value)) (w : World) : Prop := w.ownsRow B 49 8 v ys.length (cellsP ys)

theorem OwnP.below {B : Nat} {v : Value} {ys : List (E.Pt × Value × Value)} {w w' : World} (h : OwnP B v ys w) (hb : Below w.heap.size w w') : OwnP B v ys w' := row_below h hb

theorem OwnP.made (w : World) : OwnP w.heap.size (.slice (some ⟨w.heap.size, 0, none⟩) 0 0) [] (w.alloc (.cells #[] 49)) := World.ownsRow_made w #[] 0 (Nat.le_refl _) (Nat.zero_le _) (by simp)

theorem OwnP.form {B : Nat} {v : Value} {ys : List (E.Pt × Value × Value)} {w : World} (h : OwnP B v ys w) (hn : ys ≠ []) : ∃ g cap, v = .slice (some ⟨g, 0, none⟩) ys.length cap ∧ B ≤ g ∧ g < w.heap.size ∧ ys.length ≤ cap ∧ cap ≤ maxLen ∧ (∀ j, w.frozen? ⟨g, j, none⟩ = false) ∧ ∀ j, j < ys.length * 8 → w.cell? ⟨g, j, none⟩ = (cellsP ys)[j]? := by
  rcases h.2 with ⟨hv, h0⟩ | ⟨g, cap, cur, hv, hb, hh, hc, hm, _⟩
  · exact absurd (List.eq_nil_of_length_eq_zero h0) hn
  · subst hv
    exact ⟨g, cap, rfl, hb, heap_lt hh, hc, hm, fun j => World.ownsRow.frozenAt h j, fun j hj => World.ownsRow.cellAt h j hj⟩

theorem OwnP.rdp {B : Nat} {v : Value} {ys : List (E.Pt × Value × Value)} {w : World} (h : OwnP B v ys w) (hn : ys ≠ []) (hy : RdY w w.heap.size ys) : RdP w w.heap.size v (ys.map (·.1)) := by
  obtain ⟨g, cap, rfl, -, hg, h1, h2, -, hc⟩ := h.form hn
  refine ⟨_, cap, by rw [List.length_map], by rw [List.length_map]; exact h1, h2, fun _ => ⟨g, 0, rfl, hg, fun i hi => ?_⟩⟩
  have hi2 : i < ys.length := by simpa using hi
  have e : ∀ j, j < 8 → w.cell? ⟨g, 0 + i * 8 + j, none⟩ = (cells1 ys[i])[j]? := fun j hj => by
    rw [Nat.zero_add, hc _ (by omega), cellsP_at ys i hi2 j hj]
  refine ⟨ys[i].2.1, ys[i].2.2, ?_, ?_, ?_, ?_, ?_, ?_, ?_, ?_, ?_, ?_⟩
  · rw [List.getElem_map]; exact e 0 (by omega)
  · rw [List.getElem_map]; exact e 1 (by omega)
  · rw [List.getElem_map]; exact e 2 (by omega)
  · rw [List.getElem_map]; exact e 3 (by omega)
  · rw [List.getElem_map]; exact e 4 (by omega)
  · rw [List.getElem_map]; exact e 5 (by omega)
  · exact e 6 (by omega)
  · exact e 7 (by omega)
  · rw [List.getElem_map]; exact (hy _ (List.getElem_mem hi2)).1
  · rw [List.getElem_map]; exact (hy _ (List.getElem_mem hi2)).2

/-- The first part's label is taken away. -/
def bareY : List (E.Pt × Value × Value) → List (E.Pt × Value × Value)
  | [] => []
  | y :: ys => ({ y.1 with label := ⟨#[]⟩ }, y.2) :: ys

theorem OwnP.unlabel {B g cap : Nat} {y : E.Pt × Value × Value} {ys : List (E.Pt × Value × Value)} {w : World} (h : OwnP B (.slice (some ⟨g, 0, none⟩) (y :: ys).length cap) (y :: ys) w) : OwnP B (.slice (some ⟨g, 0, none⟩) (y :: ys).length cap) (bareY (y :: ys)) (w.setCell ⟨g, 1, none⟩ (.string ⟨#[]⟩)) := by
  have := (World.ownsRow.stored h 1 (.string ⟨#[]⟩)).1
  have e : (cellsP (y :: ys)).set 1 (.string ⟨#[]⟩) = cellsP (bareY (y :: ys)) := rfl
  rw [e] at this
  exact this

theorem infoPart : (Try.prog.info? 49).map (fun i => (i.zero, i.size, i.bytes)) = some (some (.agg #[.int .i64 0, .string ⟨#[]⟩, .string ⟨#[]⟩, .string ⟨#[]⟩, .int .i64 0, .int .i64 0, .slice none 0 0, .slice none 0 0]), 8, 120) := by kernel_rfl

end Go.Proofs.Ytmcdggjcpfkchaa
end
