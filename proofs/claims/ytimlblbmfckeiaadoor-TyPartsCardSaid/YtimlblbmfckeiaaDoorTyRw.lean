/-
  Rows of types and of texts that the call itself has made. No conditions but those that each lemma names.
-/
import Derived.Test.YtimlblbmfckeiaaDoorTyX
import Derived.Test.YtimlblbmfckeiaaDoorTyRo
namespace Go.Proofs.YtimlblbmfckeiaaDoor
open Go.RowKit

/-- A row of texts of the call's own. -/
def OwnS (B : Nat) (v : Value) (ss : List ByteArray) (w : World) : Prop := w.ownsRow B 9 1 v ss.length (ss.map .string)
/-- A row of types of the call's own, each in a row of its own. -/
def OwnT (B : Nat) (v : Value) (ts : List (Value × List L.Nd)) (w : World) : Prop := w.ownsRow B 23 1 v ts.length (ts.map (·.1)) ∧ ∀ t ∈ ts, Own B t.1 t.2 w

theorem OwnS.below {B : Nat} {v : Value} {ss : List ByteArray} {w w' : World} (h : OwnS B v ss w) (hb : Below w.heap.size w w') : OwnS B v ss w' := row_below h hb
theorem OwnT.below {B : Nat} {v : Value} {ts : List (Value × List L.Nd)} {w w' : World} (h : OwnT B v ts w) (hb : Below w.heap.size w w') : OwnT B v ts w' := ⟨row_below h.1 hb, fun t ht => (h.2 t ht).below hb⟩

theorem OwnS.snoc {B : Nat} {v : Value} {ss : List ByteArray} {w : World} (s : ByteArray) (h : w.ownsRow B 9 1 v (ss.length + 1) (ss.map .string ++ [.string s])) : OwnS B v (ss ++ [s]) w := by
  unfold OwnS
  rw [List.map_append, List.length_append]
  exact h
theorem OwnT.snoc {B : Nat} {v : Value} {ts : List (Value × List L.Nd)} {w : World} (t : Value × List L.Nd) (h : w.ownsRow B 23 1 v (ts.length + 1) (ts.map (·.1) ++ [t.1])) (hp : ∀ x ∈ ts, Own B x.1 x.2 w) (ht : Own B t.1 t.2 w) : OwnT B v (ts ++ [t]) w := by
  refine ⟨by rw [List.map_append, List.length_append]; exact h, fun x hx => ?_⟩
  rcases List.mem_append.1 hx with hx | hx
  · exact hp x hx
  · rw [List.mem_singleton.1 hx]; exact ht

theorem OwnS.rd {B : Nat} {v : Value} {ss : List ByteArray} {w : World} (h : OwnS B v ss w) : RdS w w.heap.size v ss := by
  rcases h.2 with ⟨hv, h0⟩ | ⟨g, cap, cur, hv, _, hh, hc, hm, _⟩
  · exact ⟨none, 0, by rw [hv, h0], fun hn => absurd (List.eq_nil_of_length_eq_zero h0) hn⟩
  · subst hv
    refine ⟨_, cap, rfl, fun _ => ⟨g, 0, rfl, heap_lt hh, fun i hi => ?_⟩⟩
    rw [Nat.zero_add, World.ownsRow.cellAt h i (by omega)]
    simp [hi]

theorem OwnT.rd {B : Nat} {v : Value} {ts : List (Value × List L.Nd)} {w : World} (h : OwnT B v ts w) : RdT w v ts := by
  refine ⟨?_, fun t ht => (h.2 t ht).rd⟩
  rcases h.1.2 with ⟨hv, h0⟩ | ⟨g, cap, cur, hv, _, hh, hc, hm, _⟩
  · exact ⟨none, 0, by rw [hv, h0], fun hn => absurd (List.eq_nil_of_length_eq_zero h0) hn⟩
  · subst hv
    refine ⟨_, cap, rfl, fun _ => ⟨g, 0, rfl, heap_lt hh, fun i hi => ?_⟩⟩
    rw [Nat.zero_add, World.ownsRow.cellAt h.1 i (by omega)]
    simp [hi]

theorem OwnS.val {B : Nat} {v : Value} {ss : List ByteArray} {w : World} (h : OwnS B v ss w) : ∃ A cap, v = .slice A ss.length cap := by
  obtain ⟨A, cap, hv, -⟩ := h.rd
  exact ⟨A, cap, hv⟩
theorem OwnT.val {B : Nat} {v : Value} {ts : List (Value × List L.Nd)} {w : World} (h : OwnT B v ts w) : ∃ A cap, v = .slice A ts.length cap := by
  obtain ⟨⟨A, cap, hv, -⟩, -⟩ := h.rd
  exact ⟨A, cap, hv⟩

theorem OwnT.two {B : Nat} {A : Option Addr} {cp : Nat} {ts : List (Value × List L.Nd)} {t1 t2 : Value × List L.Nd} {w : World} (h : OwnT B (.slice A ts.length cp) ts w) (hts : ts = [t1, t2]) :
    ∃ g, A = some ⟨g, 0, none⟩ ∧ g < w.heap.size ∧ w.cell? ⟨g, 0, none⟩ = some t1.1 ∧ w.cell? ⟨g, 1, none⟩ = some t2.1 := by
  subst hts
  rcases h.1.2 with ⟨hv, h0⟩ | ⟨g, cap, cur, hv, _, hh, hc, hm, _⟩
  · simp at h0
  · simp only [Value.slice.injEq] at hv
    obtain ⟨rfl, -, rfl⟩ := hv
    exact ⟨g, rfl, heap_lt hh, World.ownsRow.cellAt h.1 0 (by simp), World.ownsRow.cellAt h.1 1 (by simp)⟩

theorem infoStr : (Tryd.prog.info? 9).map (fun i => (i.zero, i.size, i.bytes)) = some (some (.string ⟨#[]⟩), 1, 16) := by kernel_rfl
theorem infoTyp : (Tryd.prog.info? 23).map (fun i => (i.zero, i.size, i.bytes)) = some (some (.slice none 0 0), 1, 24) := by kernel_rfl

end Go.Proofs.YtimlblbmfckeiaaDoor
