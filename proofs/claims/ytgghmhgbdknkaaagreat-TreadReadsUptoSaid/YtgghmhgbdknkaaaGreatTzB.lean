/-
  What the reference's whole, atom and rows tell; the walks of atom and whole where something is wrong already. Conditions: those that each lemma names.
-/
import Derived.Test.YtgghmhgbdknkaaaGreatTzA
namespace Go.Proofs.YtgghmhgbdknkaaaGreat
open Go.RowKit

/-- What a step of the reference that reads a type tells; where something is wrong what it tells is a row of the call's own of at most M nodes. -/
def WPost (M : Nat) (r : T.R T.Tr) (w : World) (e : Ending) (w' : World) : Prop :=
  Below w.heap.size w w' ∧ ((∃ (p : Nat) (er : Int) (v : Value) (ns : List L.Nd) (site : Int) (A : Option Addr) (n c : Nat), r = .bad p er ∧ e = .returned (.tuple #[v, stV p site (.slice A n c) er]) ∧ Own w.heap.size v ns w' ∧ ns.length ≤ M) ∨
    ∃ (t : T.Tr) (s' : T.S) (v : Value) (A : Option Addr) (n c : Nat), r = .ok t s' ∧ e = .returned (.tuple #[v, stV s'.pl s'.site (.slice A n c) 0]) ∧ Own w.heap.size v t.flat w' ∧ RdSt w' (.slice A n c) s'.sites)

/-- A step that ends with nothing but an error. -/
theorem WPost.none {M : Nat} {r : T.R T.Tr} {w w' : World} (hb : Below w.heap.size w w') (p : Nat) (er site : Int) (A : Option Addr) (n c : Nat) (h : r = .bad p er) : WPost M r w (.returned (.tuple #[.slice none 0 0, stV p site (.slice A n c) er])) w' :=
  ⟨hb, Or.inl ⟨p, er, _, [], site, A, n, c, h, rfl, Own.nil _ _, by simp⟩⟩

set_option maxHeartbeats 2000000 in
set_option maxRecDepth 100000 in
theorem atom_err (vl : Value) (p : Nat) (site er lv : Int) (her : (er != 0) = true) (A : Option Addr) (n c : Nat) (w : World) :
    Calls Tryz.prog 23 #[vl, stV p site (.slice A n c) er, .int .i64 lv] w fun e w' => e = .returned (.tuple #[.slice none 0 0, stV p site (.slice A n c) er]) ∧ Below w.heap.size w w' := by
  unfold stV
  go_enter Tryz.func23, Tryz.ntmps23
  go_wp2
  go_region
  all_goals go_wp2
  all_goals exact bodyPost_ret (v := .tuple #[.slice none 0 0, .agg #[.int .i64 (p : Int), .int .i64 site, .slice A n c, .int .i64 er]]) (by simp [results, Tryz.results23, go_sem]) rfl ⟨rfl, by first | exact ((below_new _).trans ((below_new _).mono (by simp))).drew | exact (below_new _).trans ((below_new _).mono (by simp))⟩

set_option maxHeartbeats 2000000 in
set_option maxRecDepth 100000 in
theorem whole_err (vl : Value) (p : Nat) (site er lv : Int) (her : (er != 0) = true) (A : Option Addr) (n c : Nat) (w : World) :
    Calls Tryz.prog 15 #[vl, stV p site (.slice A n c) er, .int .i64 lv] w fun e w' => e = .returned (.tuple #[.slice none 0 0, stV p site (.slice A n c) er]) ∧ Below w.heap.size w w' := by
  have HA := hid (fun w => atom_err vl p site er lv her A n c w)
  have hb0 : Below w.heap.size w ((w.alloc (.cells #[.int .i64 (p : Int), .int .i64 site, .slice A n c, .int .i64 er] 49)).alloc (.cells #[.int .i64 0, .int .i64 0, .slice none 0 0, .int .i64 0] 49)) := (below_new _).trans ((below_new _).mono (by simp))
  have HB0 := hid hb0
  have hR0 : ((w.alloc (.cells #[.int .i64 (p : Int), .int .i64 site, .slice A n c, .int .i64 er] 49)).alloc (.cells #[.int .i64 0, .int .i64 0, .slice none 0 0, .int .i64 0] 49)).heap[w.heap.size + 1]? = some (.cells #[.int .i64 0, .int .i64 0, .slice none 0 0, .int .i64 0] 49 (0, 0)) := by
    have := heap_alloc_new (w.alloc (.cells #[.int .i64 (p : Int), .int .i64 site, .slice A n c, .int .i64 er] 49)) (.cells #[.int .i64 0, .int .i64 0, .slice none 0 0, .int .i64 0] 49)
    rw [show (w.alloc (.cells #[.int .i64 (p : Int), .int .i64 site, .slice A n c, .int .i64 er] 49)).heap.size = w.heap.size + 1 by simp] at this
    exact this
  have HR0 := hid hR0
  clear hb0 hR0
  unfold stV at *
  go_enter Tryz.func15, Tryz.ntmps15
  go_wp2_with fail
  refine (HA.out _).mono ?_
  rintro e w1 ⟨rfl, h1⟩
  have hR := (h1.block _ (heap_lt HR0.out)).trans HR0.out
  have r0 : ∀ j, w1.cell? ⟨w.heap.size + 1, j, none⟩ = #[Value.int .i64 0, .int .i64 0, .slice none 0 0, .int .i64 0][j]? := fun j => Lib.cell_of_heap hR j
  have r1 : ∀ j, w1.frozen? ⟨w.heap.size + 1, j, none⟩ = false := fun j => Lib.frozen_of_heap hR j
  have hw1 : w.heap.size + 1 < w1.heap.size := heap_lt hR
  have HB1 := hid (up HB0.out h1 (Nat.le_refl _))
  clear h1 hR
  go_wp2
  go_region
  all_goals go_wp2
  all_goals (
    have hB4 := below4 (b := w.heap.size + 1) HB1.out (.int .i64 (p : Int)) (.int .i64 site) (.slice A n c) (.int .i64 er)
    exact bodyPost_ret (v := .tuple #[.slice none 0 0, .agg #[.int .i64 (p : Int), .int .i64 site, .slice A n c, .int .i64 er]]) (by simp [results, Tryz.results15, r0, hw1, go_sem]) rfl ⟨rfl, (hB4.alloc hB4.size _).drew⟩)

end Go.Proofs.YtgghmhgbdknkaaaGreat
