/-
  What the reference's reader of types stands on: the state's value; the walks of its small steps: is, base, wrong, needs. Conditions: the tokens are read.
-/
import Derived.Test.YtgghmhgbdknkaaaGreatMR4
import Derived.Test.YtgghmhgbdknkaaaGreatM6
namespace Go.Proofs.YtgghmhgbdknkaaaGreat
open Go.RowKit

/-- The value of a state of the reference: its place, the next site, its sites, what is wrong. -/
def stV (p : Nat) (site : Int) (vs : Value) (er : Int) : Value := .agg #[.int .i64 (p : Int), .int .i64 site, vs, .int .i64 er]

theorem infoState : (Tryz.prog.info? 49).map (fun i => (i.zero, i.size, i.bytes)) = some (some (.agg #[.int .i64 0, .int .i64 0, .slice none 0 0, .int .i64 0]), 4, 48) := by kernel_rfl

/-- A token of a slice that is read. -/
theorem RdK.at {w : World} {B : Nat} {A : Option Addr} {n cap : Nat} {l : List T.Tk} (h : RdK w B (.slice A n cap) l) {i : Nat} (hi : i < l.length) :
    ∃ b o, A = some ⟨b, o, none⟩ ∧ b < B ∧ w.cell? ⟨b, o + i * 4, none⟩ = some (.int .i64 l[i].kind) ∧ w.cell? ⟨b, o + i * 4 + 1, none⟩ = some (.string l[i].text) ∧ w.cell? ⟨b, o + i * 4 + 2, none⟩ = some (.int .i64 l[i].fr) ∧ w.cell? ⟨b, o + i * 4 + 3, none⟩ = some (.int .i64 l[i].to) := by
  obtain ⟨A', cap', hv, -, hc⟩ := h
  simp only [Value.slice.injEq] at hv
  obtain ⟨rfl, -, -⟩ := hv
  obtain ⟨b, o, h1, h2, h3⟩ := hc (by rintro rfl; simp at hi)
  exact ⟨b, o, h1, h2, h3 i hi⟩

theorem RdK.below {w w' : World} {v : Value} {l : List T.Tk} (h : RdK w w.heap.size v l) (hb : Below w.heap.size w w') : RdK w' w'.heap.size v l := (h.low hb).mono hb.size

theorem isSign_get {l : List T.Tk} {p : Nat} (h : p < l.length) (sg : ByteArray) : T.isSign l p sg = (decide (l[p].kind = 5) && decide (l[p].text = sg)) := by
  unfold T.isSign
  rw [List.getElem?_eq_getElem h]

theorem isSign_none' {l : List T.Tk} {p : Nat} (h : ¬ p < l.length) (k : ByteArray) : T.isSign l p k = false := by
  unfold T.isSign
  rw [List.getElem?_eq_none (by omega)]

set_option maxHeartbeats 2000000 in
set_option maxRecDepth 100000 in
theorem is_any (l : List T.Tk) (vl : Value) (p : Nat) (sg : ByteArray) (w : World) (hx : RdK w w.heap.size vl l) :
    Calls Tryz.prog 24 #[vl, .int .i64 (p : Int), .string sg] w fun e w' => e = .returned (.bool (T.isSign l p sg)) ∧ Below w.heap.size w w' := by
  have HX := hid hx
  obtain ⟨A, cap, rfl, hl, -⟩ := hx
  by_cases hlt : p < l.length
  · obtain ⟨b, o, rfl, hb, x0, x1, x2, x3⟩ := HX.out.at hlt
    rw [isSign_get hlt]
    have hz : (p : Int) < (l.length : Int) := by omega
    generalize l[p] = t at *
    obtain ⟨tk, tt, tf, tn⟩ := t
    have he := eqS tt sg
    by_cases h5 : tk = 5
    · subst h5
      by_cases hs : tt = sg
      · subst hs
        clear he
        go_enter Tryz.func24, Tryz.ntmps24
        go_wp2
        go_ret
        exact ⟨ret_bool (by simp), Below.refl _ _⟩
      · have e2 : (tt.toList == sg.toList) = false := by rw [he]; simp [hs]
        clear he
        go_enter Tryz.func24, Tryz.ntmps24
        go_wp2
        go_ret
        exact ⟨ret_bool (by simp), Below.refl _ _⟩
    · have e5 : (tk == 5) = false := by simpa using h5
      clear he
      go_enter Tryz.func24, Tryz.ntmps24
      go_wp2
      go_ret
      exact ⟨ret_bool (by simp), Below.refl _ _⟩
  · have hb : T.isSign l p sg = false := isSign_none' hlt sg
    rw [hb]
    have hz : decide ((p : Int) < (l.length : Int)) = false := by simp; omega
    have hz2 : decide (p < l.length) = false := by simp; omega
    clear HX hlt hb
    go_enter Tryz.func24, Tryz.ntmps24
    go_wp2
    go_ret
    exact ⟨rfl, Below.refl _ _⟩

set_option maxHeartbeats 2000000 in
set_option maxRecDepth 100000 in
theorem wrong_any (p q : Nat) (site er e0 : Int) (A : Option Addr) (n c : Nat) (w : World) :
    Calls Tryz.prog 25 #[stV p site (.slice A n c) e0, .int .i64 (q : Int), .int .i64 er] w fun e w' => e = .returned (stV q site (.slice A n c) er) ∧ Below w.heap.size w w' := by
  unfold stV
  go_enter Tryz.func25, Tryz.ntmps25
  go_wp2
  exact bodyPost_ret (v := .agg #[.int .i64 (q : Int), .int .i64 site, .slice A n c, .int .i64 er]) (by simp [results, Tryz.results25, go_sem]) rfl ⟨rfl, (below_new _).trans ((below_new _).mono (by simp))⟩

set_option maxHeartbeats 2000000 in
set_option maxRecDepth 100000 in
theorem needs_bad (vl : Value) (p : Nat) (site er : Int) (her : (er != 0) = true) (A : Option Addr) (n c : Nat) (sg : ByteArray) (w : World) :
    Calls Tryz.prog 46 #[vl, stV p site (.slice A n c) er, .string sg] w fun e w' => e = .returned (stV p site (.slice A n c) er) ∧ Below w.heap.size w w' := by
  unfold stV
  go_enter Tryz.func46, Tryz.ntmps46
  go_wp2
  exact bodyPost_ret (v := .agg #[.int .i64 (p : Int), .int .i64 site, .slice A n c, .int .i64 er]) (by simp [results, Tryz.results46, go_sem]) rfl ⟨rfl, (below_new _).trans ((below_new _).mono (by simp))⟩

set_option maxHeartbeats 2000000 in
set_option maxRecDepth 100000 in
theorem needs_any (l : List T.Tk) (vl : Value) (p : Nat) (hp : p ≤ 2000000) (site : Int) (A : Option Addr) (n c : Nat) (sg : ByteArray) (w : World) (hx : RdK w w.heap.size vl l) :
    Calls Tryz.prog 46 #[vl, stV p site (.slice A n c) 0, .string sg] w fun e w' => Below w.heap.size w w' ∧ ((T.isSign l p sg = true ∧ e = .returned (stV (p + 1) site (.slice A n c) 0)) ∨ (T.isSign l p sg = false ∧ e = .returned (stV p site (.slice A n c) 2))) := by
  have hb0 : Below w.heap.size w ((w.alloc (.cells #[.int .i64 (p : Int), .int .i64 site, .slice A n c, .int .i64 0] 49)).alloc (.cells #[.int .i64 0, .int .i64 0, .slice none 0 0, .int .i64 0] 49)) := (below_new _).trans ((below_new _).mono (by simp))
  have HB0 := hid hb0
  have HI := hid (is_any l vl p sg _ (hx.below hb0))
  have HW := hid (fun w => wrong_any p p site 2 0 A n c w)
  obtain ⟨Al, cl, rfl, -⟩ := hx
  clear hb0
  unfold stV at *
  cases hs : T.isSign l p sg with
  | true =>
    rw [hs] at HI
    clear hs
    go_enter Tryz.func46, Tryz.ntmps46
    go_wp2_with fail
    refine (HI.out).mono ?_
    rintro e w1 ⟨rfl, h1⟩
    have hM : w1.heap[w.heap.size]? = some (.cells #[.int .i64 (p : Int), .int .i64 site, .slice A n c, .int .i64 0] 49 (0, 0)) := (h1.block w.heap.size (by simp; omega)).trans ((heap_alloc_old (w.alloc (.cells #[.int .i64 (p : Int), .int .i64 site, .slice A n c, .int .i64 0] 49)) (.cells #[.int .i64 0, .int .i64 0, .slice none 0 0, .int .i64 0] 49) (by simp)).trans (heap_alloc_new w _))
    have hR : w1.heap[w.heap.size + 1]? = some (.cells #[.int .i64 0, .int .i64 0, .slice none 0 0, .int .i64 0] 49 (0, 0)) := (h1.block (w.heap.size + 1) (by simp)).trans (by
      have := heap_alloc_new (w.alloc (.cells #[.int .i64 (p : Int), .int .i64 site, .slice A n c, .int .i64 0] 49)) (.cells #[.int .i64 0, .int .i64 0, .slice none 0 0, .int .i64 0] 49)
      rw [show (w.alloc (.cells #[.int .i64 (p : Int), .int .i64 site, .slice A n c, .int .i64 0] 49)).heap.size = w.heap.size + 1 by simp] at this
      exact this)
    have m0 : ∀ j, w1.cell? ⟨w.heap.size, j, none⟩ = #[Value.int .i64 (p : Int), .int .i64 site, .slice A n c, .int .i64 0][j]? := fun j => Lib.cell_of_heap hM j
    have m1 : ∀ j, w1.frozen? ⟨w.heap.size, j, none⟩ = false := fun j => Lib.frozen_of_heap hM j
    have r0 : ∀ j, w1.cell? ⟨w.heap.size + 1, j, none⟩ = #[Value.int .i64 0, .int .i64 0, .slice none 0 0, .int .i64 0][j]? := fun j => Lib.cell_of_heap hR j
    have r1 : ∀ j, w1.frozen? ⟨w.heap.size + 1, j, none⟩ = false := fun j => Lib.frozen_of_heap hR j
    have HB1 := hid (up HB0.out h1 (Nat.le_refl _))
    have hw1 : w.heap.size + 1 < w1.heap.size := heap_lt hR
    clear h1 hM hR
    go_wp2
    refine bodyPost_ret (v := .agg #[.int .i64 ((p + 1 : Nat) : Int), .int .i64 site, .slice A n c, .int .i64 0]) (by simp [results, Tryz.results46, r0, go_sem]) rfl ⟨?_, Or.inl ⟨by first | rfl | trivial, rfl⟩⟩
    exact below4 (HB1.out.setCell (p := ⟨w.heap.size, 0, none⟩) (Nat.le_refl _) _) _ _ _ _
  | false =>
    rw [hs] at HI
    clear hs
    go_enter Tryz.func46, Tryz.ntmps46
    go_wp2_with fail
    refine (HI.out).mono ?_
    rintro e w1 ⟨rfl, h1⟩
    have hM : w1.heap[w.heap.size]? = some (.cells #[.int .i64 (p : Int), .int .i64 site, .slice A n c, .int .i64 0] 49 (0, 0)) := (h1.block w.heap.size (by simp; omega)).trans ((heap_alloc_old (w.alloc (.cells #[.int .i64 (p : Int), .int .i64 site, .slice A n c, .int .i64 0] 49)) (.cells #[.int .i64 0, .int .i64 0, .slice none 0 0, .int .i64 0] 49) (by simp)).trans (heap_alloc_new w _))
    have hR : w1.heap[w.heap.size + 1]? = some (.cells #[.int .i64 0, .int .i64 0, .slice none 0 0, .int .i64 0] 49 (0, 0)) := (h1.block (w.heap.size + 1) (by simp)).trans (by
      have := heap_alloc_new (w.alloc (.cells #[.int .i64 (p : Int), .int .i64 site, .slice A n c, .int .i64 0] 49)) (.cells #[.int .i64 0, .int .i64 0, .slice none 0 0, .int .i64 0] 49)
      rw [show (w.alloc (.cells #[.int .i64 (p : Int), .int .i64 site, .slice A n c, .int .i64 0] 49)).heap.size = w.heap.size + 1 by simp] at this
      exact this)
    have m0 : ∀ j, w1.cell? ⟨w.heap.size, j, none⟩ = #[Value.int .i64 (p : Int), .int .i64 site, .slice A n c, .int .i64 0][j]? := fun j => Lib.cell_of_heap hM j
    have HR := hid hR
    have HB1 := hid (up HB0.out h1 (Nat.le_refl _))
    clear h1 hM hR
    go_wp2_with fail
    refine (HW.out _).mono ?_
    rintro e w2 ⟨rfl, h2⟩
    have hR2 := (h2.block _ (heap_lt HR.out)).trans HR.out
    have r0 : ∀ j, w2.cell? ⟨w.heap.size + 1, j, none⟩ = #[Value.int .i64 0, .int .i64 0, .slice none 0 0, .int .i64 0][j]? := fun j => Lib.cell_of_heap hR2 j
    have r1 : ∀ j, w2.frozen? ⟨w.heap.size + 1, j, none⟩ = false := fun j => Lib.frozen_of_heap hR2 j
    have HB2 := hid (up HB1.out h2 (Nat.le_refl _))
    clear h2 hR2 m0
    go_wp2
    refine bodyPost_ret (v := .agg #[.int .i64 (p : Int), .int .i64 site, .slice A n c, .int .i64 2]) (by simp [results, Tryz.results46, r0, go_sem]) rfl ⟨?_, Or.inr ⟨by first | rfl | trivial, rfl⟩⟩
    exact below4 HB2.out _ _ _ _

/-- A base type's kind, or -1. -/
theorem ret_int2 {a b : Int} (h : a = b) : Ending.returned (.int .i64 a) = .returned (.int .i64 b) := by rw [h]

set_option maxHeartbeats 2000000 in
set_option maxRecDepth 100000 in
theorem base_any (t : T.Tk) (w : World) :
    Calls Tryz.prog 44 #[tokV t] w fun e w' => e = .returned (.int .i64 (T.baseK t)) ∧ Below w.heap.size w w' := by
  obtain ⟨tk, tt, tf, tn⟩ := t
  unfold tokV
  by_cases h6 : tk = 6
  · subst h6
    have e1 := eqS tt ⟨#[105, 110, 116]⟩
    rw [show (⟨#[105, 110, 116]⟩ : ByteArray).toList = [105, 110, 116] by first | rfl | (simp; done) | decide] at e1
    have e2 := eqS tt ⟨#[98, 111, 111, 108]⟩
    rw [show (⟨#[98, 111, 111, 108]⟩ : ByteArray).toList = [98, 111, 111, 108] by first | rfl | (simp; done) | decide] at e2
    have e3 := eqS tt ⟨#[115, 116, 114, 105, 110, 103]⟩
    rw [show (⟨#[115, 116, 114, 105, 110, 103]⟩ : ByteArray).toList = [115, 116, 114, 105, 110, 103] by first | rfl | (simp; done) | decide] at e3
    have e4 := eqS tt ⟨#[117, 110, 105, 116]⟩
    rw [show (⟨#[117, 110, 105, 116]⟩ : ByteArray).toList = [117, 110, 105, 116] by first | rfl | (simp; done) | decide] at e4
    by_cases h1 : tt = ⟨#[105, 110, 116]⟩
    · have HB : Hid (T.baseK ⟨6, tt, tf, tn⟩ = 1) := hid (by simp [T.baseK, h1])
      rw [HB.out]
      rw [decide_eq_true h1] at e1
      clear h1 e2 e3 e4
      go_enter Tryz.func44, Tryz.ntmps44
      go_wp2
      go_ret
      exact ⟨rfl, by first | exact Below.refl _ _ | exact below_new _⟩
    by_cases h2 : tt = ⟨#[98, 111, 111, 108]⟩
    · have HB : Hid (T.baseK ⟨6, tt, tf, tn⟩ = 2) := hid (by simp [T.baseK, h2])
      rw [HB.out]
      rw [decide_eq_false h1] at e1
      rw [decide_eq_true h2] at e2
      clear h1 h2 e3 e4
      go_enter Tryz.func44, Tryz.ntmps44
      go_wp2
      go_ret
      exact ⟨rfl, by first | exact Below.refl _ _ | exact below_new _⟩
    by_cases h3 : tt = ⟨#[115, 116, 114, 105, 110, 103]⟩
    · have HB : Hid (T.baseK ⟨6, tt, tf, tn⟩ = 3) := hid (by simp [T.baseK, h3])
      rw [HB.out]
      rw [decide_eq_false h1] at e1
      rw [decide_eq_false h2] at e2
      rw [decide_eq_true h3] at e3
      clear h1 h2 h3 e4
      go_enter Tryz.func44, Tryz.ntmps44
      go_wp2
      go_ret
      exact ⟨rfl, by first | exact Below.refl _ _ | exact below_new _⟩
    by_cases h4 : tt = ⟨#[117, 110, 105, 116]⟩
    · have HB : Hid (T.baseK ⟨6, tt, tf, tn⟩ = 4) := hid (by simp [T.baseK, h4])
      rw [HB.out]
      rw [decide_eq_false h1] at e1
      rw [decide_eq_false h2] at e2
      rw [decide_eq_false h3] at e3
      rw [decide_eq_true h4] at e4
      clear h1 h2 h3 h4
      go_enter Tryz.func44, Tryz.ntmps44
      go_wp2
      go_ret
      exact ⟨rfl, by first | exact Below.refl _ _ | exact below_new _⟩
    have HB : Hid (T.baseK ⟨6, tt, tf, tn⟩ = -1) := hid (by simp [T.baseK, h1, h2, h3, h4])
    rw [HB.out]
    rw [decide_eq_false h1] at e1
    rw [decide_eq_false h2] at e2
    rw [decide_eq_false h3] at e3
    rw [decide_eq_false h4] at e4
    clear h1 h2 h3 h4
    go_enter Tryz.func44, Tryz.ntmps44
    go_wp2
    go_ret
    exact ⟨rfl, by first | exact Below.refl _ _ | exact below_new _⟩
  · have e6 : (tk != 6) = true := by simpa using h6
    have HB : Hid (T.baseK ⟨tk, tt, tf, tn⟩ = -1) := hid (by simp [T.baseK, h6])
    rw [HB.out]
    clear h6
    go_enter Tryz.func44, Tryz.ntmps44
    go_wp2
    go_ret
    exact ⟨rfl, by first | exact Below.refl _ _ | exact below_new _⟩

theorem cell_cells {w : World} {b : Nat} {cur : Array Value} {ty : TypeId} {fr : Nat × Nat} (h : w.heap[b]? = some (.cells cur ty fr)) (j : Nat) : w.cell? ⟨b, j, none⟩ = cur[j]? := by
  simp [World.cell?, h]

/-- A slice of sites that is read, in a block of sites. -/
def RdSt (w : World) (v : Value) (l : List T.Si) : Prop :=
  ∃ (A : Option Addr) (cap : Nat), v = .slice A l.length cap ∧ (l ≠ [] → ∃ b o cur fr, A = some ⟨b, o, none⟩ ∧ w.heap[b]? = some (.cells cur 41 fr) ∧
    ∀ (i : Nat) (h : i < l.length), cur[o + i * 3]? = some (.int .i64 l[i].fr) ∧ cur[o + i * 3 + 1]? = some (.int .i64 l[i].to) ∧ cur[o + i * 3 + 2]? = some (.bool false))

theorem RdSt.of {w w' : World} {v : Value} {l : List T.Si} (h : RdSt w v l) (hk : ∀ (b : Nat) (cur : Array Value) (fr : Nat × Nat), w.heap[b]? = some (Obj.cells cur 41 fr) → w'.heap[b]? = some (Obj.cells cur 41 fr)) : RdSt w' v l := by
  obtain ⟨A, cap, hv, hc⟩ := h
  refine ⟨A, cap, hv, fun hn => ?_⟩
  obtain ⟨b, o, cur, fr, h1, h2, h3⟩ := hc hn
  exact ⟨b, o, cur, fr, h1, hk b cur fr h2, h3⟩
theorem RdSt.below {w w' : World} {v : Value} {l : List T.Si} (h : RdSt w v l) (hb : Below w.heap.size w w') : RdSt w' v l := h.of fun b _ _ hb2 => (hb.block b (heap_lt hb2)).trans hb2
theorem RdSt.put {w w' : World} {N : Nat} {v : Value} {l : List T.Si} {c2 : Array Value} {fr2 : Nat × Nat} {T2 : TypeId} (h : RdSt w v l) (hN : w.heap[N]? = some (.cells c2 T2 fr2)) (hT : 41 ≠ T2) (hg : w.grownBy w' (some N)) : RdSt w' v l := h.of fun b cur fr hb => (hg.block b (heap_lt hb) (fun e => by
  injection e with e
  subst e
  rw [hb] at hN
  injection hN with hN
  injection hN with _ h2
  exact hT h2)).trans hb
theorem RdSt.grown {w w' : World} {B2 z n : Nat} {v v2 : Value} {l : List T.Si} {c : List Value} {T2 : TypeId} (h : RdSt w v l) (ho : w.ownsRow B2 T2 z v2 n c) (hT : 41 ≠ T2) (hg : w.grownBy w' v2.ownBlock) : RdSt w' v l := h.of fun b cur fr hb => (hg.block b (heap_lt hb) (fun e => by
  rcases ho.2 with ⟨hv, _⟩ | ⟨g, cap, cu, hv, _, hh, _⟩
  · rw [hv] at e; cases e
  · rw [hv] at e
    simp only [Value.ownBlock, Option.some.injEq] at e
    subst e
    rw [hb] at hh
    injection hh with hh
    injection hh with _ h2
    exact hT h2)).trans hb
theorem RdSt.rd {w : World} {v : Value} {l : List T.Si} (h : RdSt w v l) : RdSi w v l := by
  obtain ⟨A, cap, hv, hc⟩ := h
  refine ⟨A, cap, hv, fun hn => ?_⟩
  obtain ⟨b, o, cur, fr, h1, h2, h3⟩ := hc hn
  refine ⟨b, o, h1, heap_lt h2, fun i hi => ?_⟩
  obtain ⟨a1, a2, a3⟩ := h3 i hi
  have hcell : ∀ j, w.cell? ⟨b, j, none⟩ = cur[j]? := fun j => cell_cells h2 j
  exact ⟨(hcell _).trans a1, (hcell _).trans a2, (hcell _).trans a3⟩
theorem RdSt.nil (w : World) : RdSt w (.slice none 0 0) [] := ⟨none, 0, rfl, fun h => absurd rfl h⟩
theorem RdSt.val {w : World} {v : Value} {l : List T.Si} (h : RdSt w v l) : ∃ A c, v = .slice A l.length c := by
  obtain ⟨A, c, hv, -⟩ := h
  exact ⟨A, c, hv⟩
theorem OwnSi.rdt {B : Nat} {v : Value} {l : List T.Si} {w : World} (h : OwnSi B v l w) : RdSt w v l := by
  rcases h.2 with ⟨hv, h0⟩ | ⟨g, cap, cur, hv, hb, hh, hc, hm, hsz, htk⟩
  · exact ⟨none, 0, by rw [hv, h0], fun hn => absurd (List.eq_nil_of_length_eq_zero h0) hn⟩
  · subst hv
    refine ⟨_, cap, rfl, fun _ => ⟨g, 0, cur, (0, 0), rfl, hh, fun i hi => ?_⟩⟩
    obtain ⟨h1, h2, h3⟩ := cellsSi_at hi
    have hl := cellsSi_len l
    have hcur : ∀ j, j < l.length * 3 → cur[j]? = (cellsSi l)[j]? := fun j hj => by
      rw [← htk, List.getElem?_take_of_lt hj, Array.getElem?_toList]
    rw [Nat.zero_add, hcur _ (by omega), hcur _ (by omega), hcur _ (by omega)]
    exact ⟨h1, h2, h3⟩

end Go.Proofs.YtgghmhgbdknkaaaGreat
