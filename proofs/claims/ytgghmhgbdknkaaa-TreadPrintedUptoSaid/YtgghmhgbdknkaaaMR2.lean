/-
  The texts TrQ, TrQr, TrR, TrS, TrT, TrU, TrX, TrW, TrBa, TrY, one behind the other. Conditions: those that each of them names.
-/
import Derived.Test.YtgghmhgbdknkaaaMR6
import Derived.Test.YtgghmhgbdknkaaaMR5
import Derived.Test.YtgghmhgbdknkaaaM6
import Derived.Test.YtgghmhgbdknkaaaMR1
import Derived.Defers
import Derived.Recover
section
/-
  The walk of joined: an arrow, or a row, of trees that were read. Conditions: at most 200 trees, of at most 2000000 nodes each; what a row's trees and labels are as they should be.
-/
namespace Go.Proofs.Ytgghmhgbdknkaaa
open Go.RowKit

instance (t : T.Tr) : Decidable (Fits t) := by unfold Fits; exact inferInstance

/-- A tree in a row of trees. -/
abbrev Kd := Value × T.Tr
/-- A slice of trees that is read. -/
def RdKd (w : World) (v : Value) (ks : List Kd) : Prop :=
  (∃ (A : Option Addr) (cap : Nat), v = .slice A ks.length cap ∧ (ks ≠ [] → ∃ b o, A = some ⟨b, o, none⟩ ∧ b < w.heap.size ∧ ∀ (i : Nat) (h : i < ks.length), w.cell? ⟨b, o + i * 3, none⟩ = some ks[i].1 ∧ w.cell? ⟨b, o + i * 3 + 1, none⟩ = some (.int .i64 (ks[i].2.nodes : Int)) ∧ w.cell? ⟨b, o + i * 3 + 2, none⟩ = some (.int .i64 (ks[i].2.deep : Int)))) ∧
  ∀ k ∈ ks, (Fits k.2 → Rd w w.heap.size k.1 k.2.flat) ∧ (¬ Fits k.2 → k.1 = .slice none 0 0)

theorem RdKd.below {w w' : World} {v : Value} {ks : List Kd} (h : RdKd w v ks) (hb : Below w.heap.size w w') : RdKd w' v ks := by
  obtain ⟨⟨A, cap, hv, hc⟩, hr⟩ := h
  refine ⟨⟨A, cap, hv, fun hn => ?_⟩, fun t ht => ⟨fun hf => (((hr t ht).1 hf).below hb).size, (hr t ht).2⟩⟩
  obtain ⟨b, o, ha, hlt, hx⟩ := hc hn
  refine ⟨b, o, ha, Nat.lt_of_lt_of_le hlt hb.size, fun i hi => ?_⟩
  have e : ∀ j, w'.cell? ⟨b, j, none⟩ = w.cell? ⟨b, j, none⟩ := fun j => hb.cell (p := ⟨b, j, none⟩) hlt
  rw [e, e, e]
  exact hx i hi

theorem RdKd.at {w : World} {A : Option Addr} {n cap : Nat} {ks : List Kd} (h : RdKd w (.slice A n cap) ks) {i : Nat} (hi : i < ks.length) :
    ∃ b o, A = some ⟨b, o, none⟩ ∧ b < w.heap.size ∧ w.cell? ⟨b, o + i * 3, none⟩ = some ks[i].1 ∧ w.cell? ⟨b, o + i * 3 + 1, none⟩ = some (.int .i64 (ks[i].2.nodes : Int)) ∧ w.cell? ⟨b, o + i * 3 + 2, none⟩ = some (.int .i64 (ks[i].2.deep : Int)) := by
  obtain ⟨⟨A', cap', hv, hc⟩, -⟩ := h
  simp only [Value.slice.injEq] at hv
  obtain ⟨rfl, -, -⟩ := hv
  obtain ⟨b, o, h1, h2, h3⟩ := hc (by rintro rfl; simp at hi)
  exact ⟨b, o, h1, h2, h3 i hi⟩

theorem RdKd.val {w : World} {v : Value} {ks : List Kd} (h : RdKd w v ks) {k : Kd} (hk : k ∈ ks) : ∃ A n c, k.1 = .slice A n c := by
  by_cases hf : Fits k.2
  · obtain ⟨A, c, hv, -⟩ := (h.2 k hk).1 hf
    exact ⟨A, _, c, hv⟩
  · exact ⟨none, 0, 0, (h.2 k hk).2 hf⟩

/-- The nodes of all of them, and one. -/
def sumN (ks : List Kd) : Nat := 1 + (ks.map fun k => k.2.nodes).sum
def topD (ks : List Kd) : Nat := T.maxD (ks.map fun k => k.2.deep)

theorem sumN_step {ks : List Kd} {k : Nat} (h : k < ks.length) : sumN (ks.take (k + 1)) = sumN (ks.take k) + ks[k].2.nodes := by
  unfold sumN
  rw [List.take_succ_eq_append_getElem h, List.map_append, List.sum_append]
  simp
  omega
theorem topD_step {ks : List Kd} {k : Nat} (h : k < ks.length) : topD (ks.take (k + 1)) = max (topD (ks.take k)) ks[k].2.deep := by
  unfold topD T.maxD
  rw [List.take_succ_eq_append_getElem h, List.map_append, List.foldl_append]
  rfl
theorem sumN_le {ks : List Kd} (h : ∀ k ∈ ks, k.2.nodes ≤ 2000000) : sumN ks ≤ 1 + ks.length * 2000000 := by
  unfold sumN
  induction ks with
  | nil => simp
  | cons k r ih =>
    have h1 := ih fun x hx => h x (by simp [hx])
    have h2 := h k (by simp)
    simp only [List.map_cons, List.sum_cons, List.length_cons] at h1 ⊢
    omega
theorem topD_le {ks : List Kd} (h : ∀ k ∈ ks, k.2.deep ≤ 2000000) : topD ks ≤ 2000000 := by
  unfold topD T.maxD
  rw [T.foldl_max_le]
  refine ⟨by omega, fun x hx => ?_⟩
  obtain ⟨k, hk, rfl⟩ := List.mem_map.1 hx
  exact h k hk

theorem sumN_mem {ks : List Kd} {k : Kd} (h : k ∈ ks) : k.2.nodes < sumN ks := by
  unfold sumN
  induction ks with
  | nil => cases h
  | cons x r ih =>
    simp only [List.map_cons, List.sum_cons]
    rcases List.mem_cons.1 h with rfl | h
    · omega
    · have := ih h; omega
theorem topD_mem {ks : List Kd} {k : Kd} (h : k ∈ ks) : k.2.deep ≤ topD ks := by
  have := (T.foldl_max_le (topD ks) (ks.map fun k => k.2.deep) 0).1 (Nat.le_refl _)
  exact this.2 _ (List.mem_map.2 ⟨k, h, rfl⟩)

/-- The types of the first ones, laid into a new row. -/
def laidT (ks : List Kd) (i : Nat) : List Value := (ks.take i).map (·.1) ++ List.replicate (ks.length - i) (.slice none 0 0)

theorem laidT_len {ks : List Kd} {i : Nat} (h : i ≤ ks.length) : (laidT ks i).length = ks.length := by simp [laidT]; omega
theorem laidT_set {ks : List Kd} {i : Nat} (h : i < ks.length) : (laidT ks i).set i ks[i].1 = laidT ks (i + 1) := by
  unfold laidT
  have hl : ((ks.take i).map (fun x : Kd => x.1)).length = i := by simp; omega
  rw [show ks.length - i = (ks.length - (i + 1)) + 1 by omega, List.replicate_succ, List.take_succ_eq_append_getElem h]
  rw [List.set_append_right _ _ (by omega), hl, List.map_append]
  simp
theorem laidT_at {ks : List Kd} {i : Nat} (h : i < ks.length) : (laidT ks i)[i]? = some (.slice none 0 0) := by
  unfold laidT
  have hl : ((ks.take i).map (fun x : Kd => x.1)).length = i := by simp; omega
  rw [List.getElem?_append_right (by omega), hl, Nat.sub_self, List.getElem?_replicate]
  simp
  omega
theorem laidT_all (ks : List Kd) : laidT ks ks.length = ks.map (·.1) := by simp [laidT]

theorem infoTypS : (Try.prog.info? 23).map (fun i => (i.zero, i.size, i.bytes)) = some (some (.slice none 0 0), 1, 24) := by kernel_rfl

theorem tr_ne (t : T.Tr) : t.flat ≠ [] := by simp [T.Tr.flat]
theorem tr_len (t : T.Tr) : t.flat.length = t.nodes := by simp [T.Tr.flat, T.Tr.nodes]

theorem joined_make (w : World) (n : Nat) (hn : n ≤ 200) :
    ∃ wm, (Instr.makeSlice 90 (.int .i64 (n : Int)) (.int .i64 (n : Int))).run Try.prog w = .ok (.slice (some ⟨w.heap.size, 0, none⟩) n n) wm ∧ wm.ownsRow w.heap.size 23 1 (.slice (some ⟨w.heap.size, 0, none⟩) n n) n (List.replicate n (.slice none 0 0)) ∧ w.grownBy wm none := by
  obtain ⟨i0, hi, hz0, hz1, hz2⟩ := info_parts infoTypS
  obtain ⟨wm, hrun, hown, hgrow⟩ := run_make_full (P := Try.prog) w w.heap.size 90 23 i0 (.slice none 0 0) 1 Try.underlying90 hi hz0 hz1 .i64 .i64 n (by rw [hz2]; omega) (by unfold maxLen; omega) (Nat.le_refl _)
  refine ⟨wm, hrun, ?_, hgrow⟩
  have e : (madeCells (Value.slice none 0 0).cells (n * 1)).toList = List.replicate n (.slice none 0 0) := by
    rw [Nat.mul_one]
    show (madeCells #[.slice none 0 0] n).toList = _
    rw [toList_madeCells_one]
  rw [e] at hown
  exact hown

/-- What stands while joined goes over the trees: its result, its own tree, the new row. -/
structure JSt (w0 : World) (R L : Nat) (ks : List Kd) (i : Nat) (w : World) : Prop where
  res : w.heap[R]? = some (.cells #[.slice none 0 0, .int .i64 0, .int .i64 0] 73 (0, 0))
  all : w.heap[R + 1]? = some (.cells #[.slice none 0 0, .int .i64 (sumN (ks.take i) : Int), .int .i64 (topD (ks.take i) : Int)] 73 (0, 0))
  row : w.ownsRow w0.heap.size 23 1 (.slice (some ⟨L, 0, none⟩) ks.length ks.length) ks.length (laidT ks i)
  bel : Below w0.heap.size w0 w

theorem JSt.rdT {w0 w : World} {R L : Nat} {vk : Value} {ks : List Kd} (h : JSt w0 R L ks ks.length w) (hk : RdKd w0 vk ks) (hf : ∀ k ∈ ks, Fits k.2) : RdT w (.slice (some ⟨L, 0, none⟩) ks.length ks.length) (ks.map fun k => (k.1, k.2.flat)) := by
  have ho := h.row
  refine ⟨⟨some ⟨L, 0, none⟩, ks.length, by simp, fun hn => ?_⟩, fun t ht => ?_⟩
  · rcases ho.2 with ⟨hv, _⟩ | ⟨g, cap, cur, hv, _, hh, _⟩
    · cases hv
    · simp only [Value.slice.injEq, Option.some.injEq, Addr.mk.injEq] at hv
      obtain ⟨⟨rfl, -, -⟩, -, -⟩ := hv
      refine ⟨_, 0, rfl, heap_lt hh, fun i hi => ?_⟩
      simp only [List.length_map] at hi
      rw [Nat.zero_add, World.ownsRow.cellAt ho i (by omega), laidT_all]
      simp [hi]
  · obtain ⟨k, hk1, rfl⟩ := List.mem_map.1 ht
    exact (((hk.2 k hk1).1 (hf k hk1)).below h.bel).size

theorem JSt.lt {w0 w : World} {R L : Nat} {ks : List Kd} {i : Nat} (h : JSt w0 R L ks i w) : L < w.heap.size := by
  rcases h.row.2 with ⟨hv, _⟩ | ⟨g, cap, cur, hv, _, hh, _⟩
  · cases hv
  · simp only [Value.slice.injEq, Option.some.injEq, Addr.mk.injEq] at hv
    obtain ⟨⟨rfl, -, -⟩, -, -⟩ := hv
    exact heap_lt hh

theorem JSt.below {w0 w w' : World} {R L : Nat} {ks : List Kd} {i : Nat} (h : JSt w0 R L ks i w) (hb : Below w.heap.size w w') : JSt w0 R L ks i w' :=
  ⟨(hb.block _ (heap_lt h.res)).trans h.res, (hb.block _ (heap_lt h.all)).trans h.all, row_below h.row hb, h.bel.trans (hb.mono h.bel.size)⟩

theorem JSt.step {w0 w : World} {R L : Nat} {ks : List Kd} {i : Nat} (h : JSt w0 R L ks i w) (hi : i < ks.length) (hL : R + 1 < L) (hR : w0.heap.size ≤ R) (o : Obj) (a b : Int) (ha : a = (sumN (ks.take (i + 1)) : Int)) (hb : b = (topD (ks.take (i + 1)) : Int)) :
    JSt w0 R L ks (i + 1) ((((w.setCell ⟨L, i, none⟩ ks[i].1).setCell ⟨R + 1, 1, none⟩ (.int .i64 a)).setCell ⟨R + 1, 2, none⟩ (.int .i64 b)).alloc o) := by
  refine JSt.below ?_ (below_new _)
  have hLz := h.lt
  obtain ⟨g1, g2, g3, hB1⟩ := h
  have hlen := laidT_len (Nat.le_of_lt hi)
  obtain ⟨hst, hgr⟩ := World.ownsRow.stored g3 i ks[i].1
  rw [laidT_set hi] at hst
  have e1 : (w.setCell ⟨L, i, none⟩ ks[i].1).heap[R]? = some (.cells #[.slice none 0 0, .int .i64 0, .int .i64 0] 73 (0, 0)) := (heap_setCell_other w ⟨L, i, none⟩ R _ (by simp; omega)).trans g1
  have e2 := (heap_setCell_other w ⟨L, i, none⟩ (R + 1) ks[i].1 (by simp; omega)).trans g2
  have hB2 : Below w0.heap.size w0 (w.setCell ⟨L, i, none⟩ ks[i].1) := hB1.setCell (p := ⟨L, i, none⟩) (by simp; omega) _
  generalize w.setCell ⟨L, i, none⟩ ks[i].1 = w2 at *
  have e3 : (w2.setCell ⟨R + 1, 1, none⟩ (.int .i64 a)).heap[R + 1]? = _ := heap_setCell_same w2 (R + 1) 1 _ _ _ e2
  have e4 : (w2.setCell ⟨R + 1, 1, none⟩ (.int .i64 a)).heap[R]? = _ := (heap_setCell_other w2 ⟨R + 1, 1, none⟩ R _ (by simp)).trans e1
  have hB3 : Below w0.heap.size w0 (w2.setCell ⟨R + 1, 1, none⟩ (.int .i64 a)) := hB2.setCell (p := ⟨R + 1, 1, none⟩) (by simp; omega) _
  have r3 := hst.kept (grownBy_cell w2 (R + 1) 1 (.int .i64 a)) (by right; simp [Value.ownBlock]; omega)
  generalize w2.setCell ⟨R + 1, 1, none⟩ (.int .i64 a) = w3 at *
  have e5 : (w3.setCell ⟨R + 1, 2, none⟩ (.int .i64 b)).heap[R + 1]? = _ := heap_setCell_same w3 (R + 1) 2 _ _ _ e3
  refine ⟨(heap_setCell_other w3 ⟨R + 1, 2, none⟩ R _ (by simp)).trans e4, ?_, r3.kept (grownBy_cell w3 (R + 1) 2 (.int .i64 b)) (by right; simp [Value.ownBlock]; omega), hB3.setCell (p := ⟨R + 1, 2, none⟩) (by simp; omega) _⟩
  rw [e5, ha, hb]
  simp

/-- The tree's depth is one more, behind the loop. -/
theorem JSt.deeper {w0 w : World} {R L : Nat} {ks : List Kd} (h : JSt w0 R L ks ks.length w) (hL : R + 1 < L) (hR : w0.heap.size ≤ R) (b : Int) (hb : b = (topD ks + 1 : Nat)) :
    (w.setCell ⟨R + 1, 2, none⟩ (.int .i64 b)).heap[R]? = some (.cells #[.slice none 0 0, .int .i64 0, .int .i64 0] 73 (0, 0)) ∧
    (w.setCell ⟨R + 1, 2, none⟩ (.int .i64 b)).heap[R + 1]? = some (.cells #[.slice none 0 0, .int .i64 (sumN ks : Int), .int .i64 ((topD ks + 1 : Nat) : Int)] 73 (0, 0)) ∧
    (w.setCell ⟨R + 1, 2, none⟩ (.int .i64 b)).ownsRow w0.heap.size 23 1 (.slice (some ⟨L, 0, none⟩) ks.length ks.length) ks.length (laidT ks ks.length) ∧ Below w0.heap.size w0 (w.setCell ⟨R + 1, 2, none⟩ (.int .i64 b)) := by
  have hLz := h.lt
  obtain ⟨g1, g2, g3, hB1⟩ := h
  rw [List.take_length] at g2
  have e5 : (w.setCell ⟨R + 1, 2, none⟩ (.int .i64 b)).heap[R + 1]? = _ := heap_setCell_same w (R + 1) 2 _ _ _ g2
  refine ⟨(heap_setCell_other w ⟨R + 1, 2, none⟩ R _ (by simp)).trans g1, ?_, g3.kept (grownBy_cell w (R + 1) 2 (.int .i64 b)) (by right; simp [Value.ownBlock]; omega), hB1.setCell (p := ⟨R + 1, 2, none⟩) (by simp; omega) _⟩
  rw [e5, hb]
  simp

theorem JEnd {w w7 : World} {t : T.Tr} {v : Value} {c1 c2 : Array Value} (hr : w7.heap[w.heap.size]? = some (.cells c1 73 (0, 0))) (ha : w7.heap[w.heap.size + 1]? = some (.cells c2 73 (0, 0))) (hO : Own w.heap.size v t.flat w7) (hB : Below w.heap.size w w7) (hf : Fits t) (x y : Value) :
    TrV w.heap.size t v (put3 (w7.setCell ⟨w.heap.size + 1, 0, none⟩ v) w.heap.size v x y) ∧ Below w.heap.size w (put3 (w7.setCell ⟨w.heap.size + 1, 0, none⟩ v) w.heap.size v x y) := by
  have hO8 : Own w.heap.size v t.flat (w7.setCell ⟨w.heap.size + 1, 0, none⟩ v) := row_put hO ha (by decide) (grownBy_cell w7 (w.heap.size + 1) 0 v)
  have hB8 : Below w.heap.size w (w7.setCell ⟨w.heap.size + 1, 0, none⟩ v) := hB.setCell (p := ⟨w.heap.size + 1, 0, none⟩) (by simp) _
  have hr8 : (w7.setCell ⟨w.heap.size + 1, 0, none⟩ v).heap[w.heap.size]? = _ := (heap_setCell_other w7 ⟨w.heap.size + 1, 0, none⟩ w.heap.size v (by simp)).trans hr
  generalize w7.setCell ⟨w.heap.size + 1, 0, none⟩ v = w8 at *
  have hg := put3_grown w8 w.heap.size v x y
  exact ⟨⟨fun _ => row_put hO8 hr8 (by decide) hg, fun hn => absurd hf hn⟩, hB8.grown hg hB8.size (fun k hk => by injection hk with hk; omega)⟩

/-- What joined is given is the tree's children, and how it makes its nodes of theirs. -/
def JFits (ks : List Kd) (t : T.Tr) : Prop := t.nodes = sumN ks ∧ t.deep = topD ks + 1

set_option maxHeartbeats 4000000 in
set_option maxRecDepth 100000 in
theorem joinedA_any (a b : Kd) (vk : Value) (w : World) (hk : RdKd w vk [a, b]) (hn : ∀ k ∈ [a, b], k.2.nodes ≤ 2000000 ∧ k.2.deep ≤ 2000000) :
    Calls Try.prog 48 #[.int .i64 5, .slice none 0 0, vk] w fun e w' => ∃ v, e = .returned (trV (T.arrT a.2 b.2) v) ∧ TrV w.heap.size (T.arrT a.2 b.2) v w' ∧ Below w.heap.size w w' := by
  have hJN : (T.arrT a.2 b.2).nodes = sumN [a, b] := by rw [T.arrT_nodes]; simp [sumN]; omega
  have hJD : (T.arrT a.2 b.2).deep = topD [a, b] + 1 := by rw [T.arrT_deep]; simp [topD, T.maxD]
  have HAB : Hid (∀ k ∈ [a, b], k = a ∨ k = b) := hid (by simp)
  have HF : Hid (([a, b] : List Kd).map (fun k => (k.1, k.2.flat)) = [(a.1, a.2.flat), (b.1, b.2.flat)]) := hid rfl
  have HFT : Hid ((T.arrT a.2 b.2).flat = ⟨5, ⟨#[]⟩, 0⟩ :: (a.2.flat ++ b.2.flat)) := hid (by simp [T.arrT, T.Tr.flat, L.Fo.flat, T.e0])
  have HJN := hid hJN
  have HJD := hid hJD
  have HM : Hid (a ∈ [a, b] ∧ b ∈ [a, b]) := hid (by simp)
  have h2 : ([a, b] : List Kd).length = 2 := rfl
  have H2 := hid h2
  obtain ⟨ks, hks⟩ : ∃ ks, ks = [a, b] := ⟨_, rfl⟩
  rw [← hks] at hk hn HAB HF HJN HJD HM H2
  have HKS := hid hks
  have HK := hid hk
  have HN := hid hn
  have hnl : ks.length ≤ 200 := by rw [H2.out]; omega
  obtain ⟨⟨A, cap, rfl, -⟩, -⟩ := hk
  obtain ⟨wm, hrun, hown, hgrow⟩ := joined_make ((w.alloc (.cells #[.slice none 0 0, .int .i64 0, .int .i64 0] 73)).alloc (.cells #[.slice none 0 0, .int .i64 1, .int .i64 0] 73)) ks.length hnl
  have hsz : ((w.alloc (.cells #[.slice none 0 0, .int .i64 0, .int .i64 0] 73)).alloc (.cells #[.slice none 0 0, .int .i64 1, .int .i64 0] 73)).heap.size = w.heap.size + 2 := by simp
  rw [hsz] at hrun hown
  have HJ : Hid (JSt w w.heap.size (w.heap.size + 2) ks 0 wm) := hid (by
    refine ⟨?_, ?_, ?_, ?_⟩
    · refine (hgrow.block _ (by rw [hsz]; omega) (by simp)).trans ?_
      rw [heap_alloc_old _ _ (by simp)]
      exact heap_alloc_new w _
    · refine (hgrow.block _ (by rw [hsz]; omega) (by simp)).trans ?_
      have := heap_alloc_new (w.alloc (.cells #[.slice none 0 0, .int .i64 0, .int .i64 0] 73)) (.cells #[.slice none 0 0, .int .i64 1, .int .i64 0] 73)
      rw [show (w.alloc (.cells #[.slice none 0 0, .int .i64 0, .int .i64 0] 73)).heap.size = w.heap.size + 1 by simp] at this
      rw [this]
      simp [sumN, topD, T.maxD]
    · have e : laidT ks 0 = List.replicate ks.length (.slice none 0 0) := by simp [laidT]
      rw [e]
      exact row_more hown (by omega)
    · exact ((below_new _).trans ((below_new _).mono (by simp))).grown hgrow (by simp; omega) (by intro k hk; cases hk))
  clear hn hown hgrow hks h2 hJN hJD
  go_enter Try.func48, Try.ntmps48
  go_wp2
  go_loopw [17] (fun vi wr => ∃ i : Nat, vi = .int .i64 i ∧ i ≤ ks.length ∧ Hid (JSt w w.heap.size (w.heap.size + 2) ks i wr)) (fun vi _ => ks.length - (intOf vi).toNat)
  case atStart => exact ⟨0, rfl, by omega, HJ⟩
  case round =>
    obtain ⟨i, rfl, hi, hJ⟩ := hrel
    by_cases hlt : i < ks.length
    · obtain ⟨b0, o0, rfl, hb0, x0, x1, x2⟩ := HK.out.at hlt
      have hiz : (i : Int) < (ks.length : Int) := by omega
      have hJB := hJ.out.bel
      have c0 := (hJB.cell (p := ⟨b0, o0 + i * 3, none⟩) hb0).trans x0
      have c1 := (hJB.cell (p := ⟨b0, o0 + i * 3 + 1, none⟩) hb0).trans x1
      have c2 := (hJB.cell (p := ⟨b0, o0 + i * 3 + 2, none⟩) hb0).trans x2
      obtain ⟨Av, nv, cv, hv⟩ := HK.out.val (List.getElem_mem hlt)
      have hst := sumN_step hlt
      have htp := topD_step hlt
      have hnb := HN.out _ (List.getElem_mem hlt)
      have hsb := sumN_le (ks := ks.take i) (fun k hk => (HN.out k (List.mem_of_mem_take hk)).1)
      have hdb := topD_le (ks := ks.take i) (fun k hk => (HN.out k (List.mem_of_mem_take hk)).2)
      have hlt2 : (ks.take i).length ≤ 200 := by rw [List.length_take]; omega
      have g0 : ∀ j, wr.cell? ⟨w.heap.size, j, none⟩ = _ := fun j => Lib.cell_of_heap hJ.out.res j
      have g1 : wr.cell? ⟨w.heap.size + 1, 1, none⟩ = some (.int .i64 (sumN (ks.take i) : Int)) := Lib.cell_of_heap hJ.out.all 1
      have g2 : wr.cell? ⟨w.heap.size + 1, 2, none⟩ = some (.int .i64 (topD (ks.take i) : Int)) := Lib.cell_of_heap hJ.out.all 2
      have z1 : ∀ j, wr.frozen? ⟨w.heap.size + 1, j, none⟩ = false := fun j => Lib.frozen_of_heap hJ.out.all j
      have r1 := (World.ownsRow.cellAt hJ.out.row i (by omega)).trans (laidT_at hlt)
      have z2 := World.ownsRow.frozenAt hJ.out.row i
      have hR1 : w.heap.size + 1 < wr.heap.size := heap_lt hJ.out.all
      have hR2 : w.heap.size + 2 < wr.heap.size := hJ.out.lt
      have HSTEP := hid (fun kc x y hx hy => hJ.out.step hlt (by omega) (Nat.le_refl _) kc x y hx hy)
      rw [hv] at c0 HSTEP
      have HST := hid hst
      have HTP := hid htp
      clear hJB x0 x1 x2 hv hst htp hrun
      generalize (ks[i].2.nodes) = nk at *
      generalize (ks[i].2.deep) = dk at *
      generalize hSN : sumN (ks.take i) = SN at *
      generalize hTD : topD (ks.take i) = TD at *
      clear hSN hTD
      go_wp2
      go_roundw
      case rel => exact ⟨i + 1, by go_num, by omega, hid (HSTEP.out _ _ _ (by rw [HST.out]; omega) (by rw [HTP.out]; omega))⟩
      case measure => simp [intOf]; omega
    · obtain rfl : i = ks.length := by omega
      have hdb := topD_le (ks := ks) (fun k hk => (HN.out k hk).2)
      have hsb := sumN_le (ks := ks) (fun k hk => (HN.out k hk).1)
      have HDP := hid (hJ.out.deeper (by omega) (Nat.le_refl _) _ rfl)
      have g2 : wr.cell? ⟨w.heap.size + 1, 2, none⟩ = some (.int .i64 (topD (ks.take ks.length) : Int)) := Lib.cell_of_heap hJ.out.all 2
      have z1 : ∀ j, wr.frozen? ⟨w.heap.size + 1, j, none⟩ = false := fun j => Lib.frozen_of_heap hJ.out.all j
      rw [List.take_length] at g2
      have g0 : wr.cell? ⟨w.heap.size + 1, 0, none⟩ = some (.slice none 0 0) := Lib.cell_of_heap hJ.out.all 0
      have g1 : wr.cell? ⟨w.heap.size + 1, 1, none⟩ = some (.int .i64 (sumN (ks.take ks.length) : Int)) := Lib.cell_of_heap hJ.out.all 1
      rw [List.take_length] at g1
      have hFn : (Fits (T.arrT a.2 b.2)) ↔ (sumN ks ≤ 10000 ∧ topD ks + 1 ≤ 100) := by unfold Fits; rw [HJN.out, HJD.out]
      obtain ⟨w5, hw5⟩ : ∃ w5, w5 = wr.setCell ⟨w.heap.size + 1, 2, none⟩ (.int .i64 ((topD ks : Int) + 1)) := ⟨_, rfl⟩
      have HW5 := hid hw5
      have HD5 : Hid (w5.heap[w.heap.size]? = some (.cells #[.slice none 0 0, .int .i64 0, .int .i64 0] 73 (0, 0)) ∧
        w5.heap[w.heap.size + 1]? = some (.cells #[.slice none 0 0, .int .i64 (sumN ks : Int), .int .i64 ((topD ks + 1 : Nat) : Int)] 73 (0, 0)) ∧
        w5.ownsRow w.heap.size 23 1 (.slice (some ⟨w.heap.size + 2, 0, none⟩) ks.length ks.length) ks.length (laidT ks ks.length) ∧ Below w.heap.size w w5) := hid (by rw [hw5]; exact hJ.out.deeper (by omega) (Nat.le_refl _) _ (by omega))
      clear hw5 HDP hJ hrun HJ hsz
      obtain ⟨LM, HLM, hLM⟩ : ∃ LM : Int, Hid (∀ w, Calls Try.prog 39 #[.agg #[.slice none 0 0, .int .i64 (sumN ks : Int), .int .i64 ((topD ks : Int) + 1)]] w fun e w' => e = .returned (.int .i64 LM) ∧ Below w.heap.size w w') ∧ (LM != 0) = !decide (Fits (T.arrT a.2 b.2)) := by
        refine ⟨_, hid (fun w => limit_any _ _ _ w), ?_⟩
        by_cases hf : Fits (T.arrT a.2 b.2)
        · have := hFn.1 hf
          rw [decide_eq_true hf, if_neg (by omega), if_neg (by omega)]
          rfl
        · have := mt hFn.2 hf
          rw [decide_eq_false hf]
          by_cases h1 : 10000 < (sumN ks : Int)
          · rw [if_pos h1]; rfl
          · rw [if_neg h1, if_pos (by omega)]; rfl
      by_cases hf : Fits (T.arrT a.2 b.2)
      · rw [decide_eq_true hf] at hLM
        have HFN := hid (hFn.1 hf)
        clear hFn
        go_wp2_with fail
        refine (HLM.out _).mono ?_
        rintro e w6 ⟨rfl, h6⟩
        rw [← HW5.out] at h6
        have hr6 := (h6.block _ (heap_lt HD5.out.1)).trans HD5.out.1
        have ha6 := (h6.block _ (heap_lt HD5.out.2.1)).trans HD5.out.2.1
        have ho6 := row_below HD5.out.2.2.1 h6
        have hb6 := HD5.out.2.2.2.trans (h6.mono HD5.out.2.2.2.size)
        have hfa : ∀ k ∈ ks, Fits k.2 := fun k hk => by
          have h1 := sumN_mem hk
          have h2 := topD_mem hk
          have h3 := HFN.out
          exact ⟨by omega, by omega⟩
        obtain ⟨Aa, ca, hva, hra⟩ := (HK.out.2 _ HM.out.1).1 (hfa _ HM.out.1)
        obtain ⟨Ab, cb, hvb, hrb⟩ := (HK.out.2 _ HM.out.2).1 (hfa _ HM.out.2)
        have hra6 : Rd w6 w6.heap.size a.1 a.2.flat := (((HK.out.2 _ HM.out.1).1 (hfa _ HM.out.1)).below hb6).size
        have hrb6 : Rd w6 w6.heap.size b.1 b.2.flat := (((HK.out.2 _ HM.out.2).1 (hfa _ HM.out.2)).below hb6).size
        have la := tr_len a.2
        have lb := tr_len b.2
        have ma := sumN_mem HM.out.1
        have mb := sumN_mem HM.out.2
        have HAR := hid (fun W (hW : Below w6.heap.size w6 W) => arrow_any a.2.flat b.2.flat a.1 b.1 W (hra6.below hW).size (hrb6.below hW).size (tr_ne _) (tr_ne _) (by have := HFN.out; omega) (by have := HFN.out; omega))
        have l0 : w6.cell? ⟨w.heap.size + 2, 0, none⟩ = some a.1 := (World.ownsRow.cellAt ho6 0 (by rw [H2.out]; omega)).trans (by rw [laidT_all, HKS.out]; rfl)
        have l1 : w6.cell? ⟨w.heap.size + 2, 1, none⟩ = some b.1 := (World.ownsRow.cellAt ho6 1 (by rw [H2.out]; omega)).trans (by rw [laidT_all, HKS.out]; rfl)
        have h2z : 1 < (ks.length : Int) := by rw [H2.out]; decide
        have h2n : 0 < ks.length := by rw [H2.out]; decide
        have h2m : 1 < ks.length := by rw [H2.out]; decide
        rw [hva] at HAR l0
        rw [hvb] at HAR l1
        have k0 : ∀ j, w6.cell? ⟨w.heap.size, j, none⟩ = #[Value.slice none 0 0, .int .i64 0, .int .i64 0][j]? := fun j => Lib.cell_of_heap hr6 j
        have y0 : ∀ j, w6.frozen? ⟨w.heap.size, j, none⟩ = false := fun j => Lib.frozen_of_heap hr6 j
        have HR6 := hid hr6
        have HA6 := hid ha6
        have HB6 := hid hb6
        clear hra hrb hra6 hrb6 la lb ma mb hva hvb hfa hr6 ha6 ho6 hb6 h6 g0 g1 g2 z1
        go_upto_region 14 with fail
        have HDR := hid ((Below.refl w6.heap.size w6).drew)
        have HDC := hid (fun (W w7 : World) (hW : Below w6.heap.size w6 W) (h7 : Below W.heap.size W w7) => show (∀ j, w7.cell? ⟨w.heap.size + 1, j, none⟩ = _) ∧ ∀ j, w7.frozen? ⟨w.heap.size + 1, j, none⟩ = false from
          ⟨fun j => Lib.cell_of_heap ((h7.block _ (heap_lt ((hW.block _ (heap_lt HA6.out)).trans HA6.out))).trans ((hW.block _ (heap_lt HA6.out)).trans HA6.out)) j, fun j => Lib.frozen_of_heap ((h7.block _ (heap_lt ((hW.block _ (heap_lt HA6.out)).trans HA6.out))).trans ((hW.block _ (heap_lt HA6.out)).trans HA6.out)) j⟩)
        have HDE := hid (fun (W w7 : World) (hW : Below w6.heap.size w6 W) (h7 : Below W.heap.size W w7) => show (∀ j, w7.cell? ⟨w.heap.size, j, none⟩ = _) ∧ ∀ j, w7.frozen? ⟨w.heap.size, j, none⟩ = false from
          ⟨fun j => Lib.cell_of_heap ((h7.block _ (heap_lt ((hW.block _ (heap_lt HR6.out)).trans HR6.out))).trans ((hW.block _ (heap_lt HR6.out)).trans HR6.out)) j, fun j => Lib.frozen_of_heap ((h7.block _ (heap_lt ((hW.block _ (heap_lt HR6.out)).trans HR6.out))).trans ((hW.block _ (heap_lt HR6.out)).trans HR6.out)) j⟩)
        go_region_law (first
          | (go_simp; go_at_call 58; refine (HAR.out _ HDR.out).mono ?_; rintro e w7 ⟨v, rfl, hO7, hb7⟩
             obtain ⟨q1, q2⟩ := HDC.out _ _ HDR.out hb7
             obtain ⟨q3, q4⟩ := HDE.out _ _ HDR.out hb7
             obtain ⟨Av, nv, cv, rfl⟩ : ∃ A n c, v = .slice A n c := by obtain ⟨A, c, h, -⟩ := hO7.rd; exact ⟨A, _, c, h⟩
             have HR7 := hid ((hb7.block _ (heap_lt ((HDR.out.block _ (heap_lt HR6.out)).trans HR6.out))).trans ((HDR.out.block _ (heap_lt HR6.out)).trans HR6.out))
             have HA7 := hid ((hb7.block _ (heap_lt ((HDR.out.block _ (heap_lt HA6.out)).trans HA6.out))).trans ((HDR.out.block _ (heap_lt HA6.out)).trans HA6.out))
             have HO7 := hid hO7
             have HB7 := hid hb7
             clear hO7 hb7))
        all_goals go_wp2
        all_goals (
          refine bodyPost_ret (v := .agg #[.slice Av nv cv, .int .i64 (sumN ks : Int), .int .i64 ((topD ks + 1 : Nat) : Int)]) ?_ rfl ?_
          · simp [results, Try.results48, q3, go_sem]
          · have hB7 := HB6.out.trans ((HDR.out.mono HB6.out.size).trans (HB7.out.mono (Nat.le_trans HB6.out.size HDR.out.size)))
            obtain ⟨e1, e2⟩ := JEnd (t := T.arrT a.2 b.2) HR7.out HA7.out (by rw [HFT.out]; exact HO7.out.more (Nat.le_trans HB6.out.size HDR.out.size)) hB7 hf (.int .i64 (sumN ks : Int)) (.int .i64 ((topD ks : Int) + 1))
            exact ⟨.slice Av nv cv, by unfold trV; rw [HJN.out, HJD.out], e1, e2⟩)
      · rw [decide_eq_false hf] at hLM
        have HF0 := hid hf
        clear hFn
        go_wp2_with fail
        refine (HLM.out _).mono ?_
        rintro e w6 ⟨rfl, h6⟩
        rw [← HW5.out] at h6
        have hr6 := (h6.block _ (heap_lt HD5.out.1)).trans HD5.out.1
        have ha6 := (h6.block _ (heap_lt HD5.out.2.1)).trans HD5.out.2.1
        have k0 : ∀ j, w6.cell? ⟨w.heap.size, j, none⟩ = #[Value.slice none 0 0, .int .i64 0, .int .i64 0][j]? := fun j => Lib.cell_of_heap hr6 j
        have y0 : ∀ j, w6.frozen? ⟨w.heap.size, j, none⟩ = false := fun j => Lib.frozen_of_heap hr6 j
        have k1 : ∀ j, w6.cell? ⟨w.heap.size + 1, j, none⟩ = #[Value.slice none 0 0, .int .i64 (sumN ks : Int), .int .i64 ((topD ks + 1 : Nat) : Int)][j]? := fun j => Lib.cell_of_heap ha6 j
        have HB6 := hid (HD5.out.2.2.2.trans (h6.mono HD5.out.2.2.2.size))
        clear hr6 ha6 h6 g0 g1 g2 z1
        go_wp2
        refine bodyPost_ret (v := .agg #[.slice none 0 0, .int .i64 (sumN ks : Int), .int .i64 ((topD ks + 1 : Nat) : Int)]) ?_ rfl ?_
        · simp [results, Try.results48, k0, go_sem]
        · refine ⟨.slice none 0 0, by unfold trV; rw [HJN.out, HJD.out], ⟨fun h => absurd h HF0.out, fun _ => rfl⟩, ?_⟩
          exact HB6.out.grown (put3_grown w6 w.heap.size _ _ _) HB6.out.size (fun k hk => by injection hk with hk; omega)

end Go.Proofs.Ytgghmhgbdknkaaa
end

section
/-
  The walk of joined at a row's trees. Conditions: at most 50 labels, which are right and unlike, of at most 2000000 bytes each; trees of at most 2000000 nodes.
-/
namespace Go.Proofs.Ytgghmhgbdknkaaa
open Go.RowKit

theorem deep_leF : ∀ f : L.Fo, f.deep ≤ f.flat.length
  | .nil => by simp [L.Fo.deep]
  | .cons x ks r => by
    have h1 := deep_leF ks
    have h2 := deep_leF r
    simp only [L.Fo.deep, L.Fo.flat, List.length_cons, List.length_append]
    omega

theorem deep_nodes (t : T.Tr) : t.deep ≤ t.nodes := by
  have := deep_leF t.2
  unfold T.Tr.deep T.Tr.nodes
  omega

theorem isRow_items {kind : Int} (hk : kind = 6 ∨ kind = 7) {l : List (ByteArray × T.Tr)} (hI : T.Items kind l) (hl : l.length ≤ 50) (h7 : kind = 7 → 0 < l.length) : L.isRow kind (l.map (·.1)) (l.length : Int) = true := by
  have h1 : L.numbered (⟨kind, ⟨#[]⟩, (l.length : Int)⟩ : L.Nd) = true := by
    unfold L.numbered
    rcases hk with rfl | rfl
    · simp; omega
    · have := h7 rfl
      simp; omega
  simp only [L.isRow, Bool.and_eq_true, Bool.or_eq_true, decide_eq_true_eq, List.length_map]
  refine ⟨hk, trivial, h1, ?_⟩
  rw [List.all_eq_true]
  intro x hx
  obtain ⟨p, hp, rfl⟩ := List.mem_map.1 hx
  exact hI.lab p hp

/-- What Row says of such labels and types is the row's nodes. -/
theorem rowSaid_items {kind : Int} (hk : kind = 6 ∨ kind = 7) {l : List (ByteArray × T.Tr)} (hI : T.Items kind l) (hl : l.length ≤ 50) (h7 : kind = 7 → 0 < l.length) {ts : List (Value × List L.Nd)} (ht : ts.map (·.2) = l.map (fun p => p.2.flat)) {B : Nat} {v : Value} {c : Int} {w : World}
    (h : RowSaid kind (l.map (·.1)) ts B v c w) : c = 0 ∧ Own B v (T.rowT kind l).flat w := by
  have hlen : ts.length = l.length := by have := congrArg List.length ht; simpa using this
  have hrow := isRow_items hk hI hl h7
  have hp := T.order_perm (l.map (·.1))
  have hr := T.order_rise hI.nd
  unfold RowSaid at h
  rw [hlen, hrow] at h
  rcases h with ⟨h1, -⟩ | ⟨-, h1, -⟩ | ⟨-, rfl, ks, p1, r1, o1⟩
  · cases h1
  · exact absurd ⟨_, hp, hr⟩ h1
  · obtain rfl := L.rise_unique hr r1 (hp.trans p1.symm)
    refine ⟨rfl, ?_⟩
    rw [T.rowT_flat kind l ts ht, hlen]
    exact o1

abbrev It := Value × (ByteArray × T.Tr)
def itS (its : List It) : List ByteArray := its.map fun x => x.2.1
def itK (its : List It) : List Kd := its.map fun x => (x.1, x.2.2)
def itP (its : List It) : List (ByteArray × T.Tr) := its.map (·.2)
theorem itP_fst (its : List It) : (itP its).map (·.1) = itS its := by simp [itP, itS]
theorem itS_len (its : List It) : (itS its).length = its.length := by simp [itS]
theorem itK_len (its : List It) : (itK its).length = its.length := by simp [itK]
theorem itP_len (its : List It) : (itP its).length = its.length := by simp [itP]

set_option maxHeartbeats 4000000 in
set_option maxRecDepth 100000 in
theorem joinedR_any (kind : Int) (hkd : kind = 6 ∨ kind = 7) (its : List It) (hI : T.Items kind (itP its)) (hl : its.length ≤ 50) (h7 : kind = 7 → 0 < its.length) (hfit : ∀ x ∈ its, x.2.2.nodes ≤ 1000000 ∧ x.2.1.size ≤ 2000000) (vl vk : Value) (w : World) (hls : RdS w w.heap.size vl (itS its)) (hk : RdKd w vk (itK its)) :
    Calls Try.prog 48 #[.int .i64 kind, vl, vk] w fun e w' => ∃ v, e = .returned (trV (T.rowT kind (itP its)) v) ∧ TrV w.heap.size (T.rowT kind (itP its)) v w' ∧ Below w.heap.size w w' := by
  have HJN : Hid ((T.rowT kind (itP its)).nodes = sumN (itK its)) := hid (by rw [T.rowT_nodes]; simp [sumN, itP, itK, List.map_map, Function.comp_def])
  have HJD : Hid ((T.rowT kind (itP its)).deep = topD (itK its) + 1) := hid (by rw [T.rowT_deep]; simp [topD, itP, itK, List.map_map, Function.comp_def])
  have hn : ∀ k ∈ itK its, k.2.nodes ≤ 2000000 ∧ k.2.deep ≤ 2000000 := fun k hk => by
    obtain ⟨x, hx, rfl⟩ := List.mem_map.1 hk
    have h1 := (hfit x hx).1
    have h2 := deep_nodes x.2.2
    exact ⟨by simp only; omega, by simp only; omega⟩
  have HSAID := hid (fun (ts : List (Value × List L.Nd)) (ht : ts.map (·.2) = (itP its).map (fun p => p.2.flat)) (B : Nat) (v : Value) (c : Int) (w : World) (h : RowSaid kind ((itP its).map (·.1)) ts B v c w) => rowSaid_items hkd hI (by rw [itP_len]; exact hl) (fun h => by rw [itP_len]; exact h7 h) ht h)
  have HTS : Hid (((itK its).map fun k => (k.1, k.2.flat)).map (·.2) = (itP its).map (fun p => p.2.flat)) := hid (by simp [itK, itP, List.map_map, Function.comp_def])
  have HFS := hid (itP_fst its)
  have HSZ : Hid (∀ s ∈ itS its, s.size ≤ 2000000) := hid fun s hs => by
    obtain ⟨x, hx, rfl⟩ := List.mem_map.1 hs
    exact (hfit x hx).2
  have HSL := hid (itS_len its)
  have HKL := hid (itK_len its)
  have hke : (kind == 5) = false := by rcases hkd with rfl | rfl <;> rfl
  obtain ⟨t, ht⟩ : ∃ t, t = T.rowT kind (itP its) := ⟨_, rfl⟩
  rw [← ht] at HJN HJD
  have HTT := hid ht
  rw [← ht]
  obtain ⟨ks, hks⟩ : ∃ ks, ks = itK its := ⟨_, rfl⟩
  rw [← hks] at hk hn HJN HJD HTS HKL
  obtain ⟨ss, hss⟩ : ∃ ss, ss = itS its := ⟨_, rfl⟩
  rw [← hss] at hls HFS HSZ HSL
  have HK := hid hk
  have HN := hid hn
  have HLS := hid hls
  have hnl : ks.length ≤ 200 := by rw [HKL.out]; omega
  have hsl : ss.length ≤ 200 := by rw [HSL.out]; omega
  clear hI hfit hkd hl h7 ht hks hss
  obtain ⟨A2, cap2, rfl, -⟩ := hls
  obtain ⟨⟨A, cap, rfl, -⟩, -⟩ := hk
  obtain ⟨wm, hrun, hown, hgrow⟩ := joined_make ((w.alloc (.cells #[.slice none 0 0, .int .i64 0, .int .i64 0] 73)).alloc (.cells #[.slice none 0 0, .int .i64 1, .int .i64 0] 73)) ks.length hnl
  have hsz : ((w.alloc (.cells #[.slice none 0 0, .int .i64 0, .int .i64 0] 73)).alloc (.cells #[.slice none 0 0, .int .i64 1, .int .i64 0] 73)).heap.size = w.heap.size + 2 := by simp
  rw [hsz] at hrun hown
  have HJ : Hid (JSt w w.heap.size (w.heap.size + 2) ks 0 wm) := hid (by
    refine ⟨?_, ?_, ?_, ?_⟩
    · refine (hgrow.block _ (by rw [hsz]; omega) (by simp)).trans ?_
      rw [heap_alloc_old _ _ (by simp)]
      exact heap_alloc_new w _
    · refine (hgrow.block _ (by rw [hsz]; omega) (by simp)).trans ?_
      have := heap_alloc_new (w.alloc (.cells #[.slice none 0 0, .int .i64 0, .int .i64 0] 73)) (.cells #[.slice none 0 0, .int .i64 1, .int .i64 0] 73)
      rw [show (w.alloc (.cells #[.slice none 0 0, .int .i64 0, .int .i64 0] 73)).heap.size = w.heap.size + 1 by simp] at this
      rw [this]
      simp [sumN, topD, T.maxD]
    · have e : laidT ks 0 = List.replicate ks.length (.slice none 0 0) := by simp [laidT]
      rw [e]
      exact row_more hown (by omega)
    · exact ((below_new _).trans ((below_new _).mono (by simp))).grown hgrow (by simp; omega) (by intro k hk; cases hk))
  clear hn hown hgrow
  go_enter Try.func48, Try.ntmps48
  go_wp2
  go_loopw [17] (fun vi wr => ∃ i : Nat, vi = .int .i64 i ∧ i ≤ ks.length ∧ Hid (JSt w w.heap.size (w.heap.size + 2) ks i wr)) (fun vi _ => ks.length - (intOf vi).toNat)
  case atStart => exact ⟨0, rfl, by omega, HJ⟩
  case round =>
    obtain ⟨i, rfl, hi, hJ⟩ := hrel
    by_cases hlt : i < ks.length
    · obtain ⟨b0, o0, rfl, hb0, x0, x1, x2⟩ := HK.out.at hlt
      have hiz : (i : Int) < (ks.length : Int) := by omega
      have hJB := hJ.out.bel
      have c0 := (hJB.cell (p := ⟨b0, o0 + i * 3, none⟩) hb0).trans x0
      have c1 := (hJB.cell (p := ⟨b0, o0 + i * 3 + 1, none⟩) hb0).trans x1
      have c2 := (hJB.cell (p := ⟨b0, o0 + i * 3 + 2, none⟩) hb0).trans x2
      obtain ⟨Av, nv, cv, hv⟩ := HK.out.val (List.getElem_mem hlt)
      have hst := sumN_step hlt
      have htp := topD_step hlt
      have hnb := HN.out _ (List.getElem_mem hlt)
      have hsb := sumN_le (ks := ks.take i) (fun k hk => (HN.out k (List.mem_of_mem_take hk)).1)
      have hdb := topD_le (ks := ks.take i) (fun k hk => (HN.out k (List.mem_of_mem_take hk)).2)
      have hlt2 : (ks.take i).length ≤ 200 := by rw [List.length_take]; omega
      have g0 : ∀ j, wr.cell? ⟨w.heap.size, j, none⟩ = _ := fun j => Lib.cell_of_heap hJ.out.res j
      have g1 : wr.cell? ⟨w.heap.size + 1, 1, none⟩ = some (.int .i64 (sumN (ks.take i) : Int)) := Lib.cell_of_heap hJ.out.all 1
      have g2 : wr.cell? ⟨w.heap.size + 1, 2, none⟩ = some (.int .i64 (topD (ks.take i) : Int)) := Lib.cell_of_heap hJ.out.all 2
      have z1 : ∀ j, wr.frozen? ⟨w.heap.size + 1, j, none⟩ = false := fun j => Lib.frozen_of_heap hJ.out.all j
      have r1 := (World.ownsRow.cellAt hJ.out.row i (by omega)).trans (laidT_at hlt)
      have z2 := World.ownsRow.frozenAt hJ.out.row i
      have hR1 : w.heap.size + 1 < wr.heap.size := heap_lt hJ.out.all
      have hR2 : w.heap.size + 2 < wr.heap.size := hJ.out.lt
      have HSTEP := hid (fun kc x y hx hy => hJ.out.step hlt (by omega) (Nat.le_refl _) kc x y hx hy)
      rw [hv] at c0 HSTEP
      have HST := hid hst
      have HTP := hid htp
      clear hJB x0 x1 x2 hv hst htp hrun
      generalize (ks[i].2.nodes) = nk at *
      generalize (ks[i].2.deep) = dk at *
      generalize hSN : sumN (ks.take i) = SN at *
      generalize hTD : topD (ks.take i) = TD at *
      clear hSN hTD
      go_wp2
      go_roundw
      case rel => exact ⟨i + 1, by go_num, by omega, hid (HSTEP.out _ _ _ (by rw [HST.out]; omega) (by rw [HTP.out]; omega))⟩
      case measure => simp [intOf]; omega
    · obtain rfl : i = ks.length := by omega
      have hdb := topD_le (ks := ks) (fun k hk => (HN.out k hk).2)
      have hsb := sumN_le (ks := ks) (fun k hk => (HN.out k hk).1)
      have HDP := hid (hJ.out.deeper (by omega) (Nat.le_refl _) _ rfl)
      have g2 : wr.cell? ⟨w.heap.size + 1, 2, none⟩ = some (.int .i64 (topD (ks.take ks.length) : Int)) := Lib.cell_of_heap hJ.out.all 2
      have z1 : ∀ j, wr.frozen? ⟨w.heap.size + 1, j, none⟩ = false := fun j => Lib.frozen_of_heap hJ.out.all j
      rw [List.take_length] at g2
      have g0 : wr.cell? ⟨w.heap.size + 1, 0, none⟩ = some (.slice none 0 0) := Lib.cell_of_heap hJ.out.all 0
      have g1 : wr.cell? ⟨w.heap.size + 1, 1, none⟩ = some (.int .i64 (sumN (ks.take ks.length) : Int)) := Lib.cell_of_heap hJ.out.all 1
      rw [List.take_length] at g1
      have hFn : (Fits (t)) ↔ (sumN ks ≤ 10000 ∧ topD ks + 1 ≤ 100) := by unfold Fits; rw [HJN.out, HJD.out]
      obtain ⟨w5, hw5⟩ : ∃ w5, w5 = wr.setCell ⟨w.heap.size + 1, 2, none⟩ (.int .i64 ((topD ks : Int) + 1)) := ⟨_, rfl⟩
      have HW5 := hid hw5
      have HD5 : Hid (w5.heap[w.heap.size]? = some (.cells #[.slice none 0 0, .int .i64 0, .int .i64 0] 73 (0, 0)) ∧
        w5.heap[w.heap.size + 1]? = some (.cells #[.slice none 0 0, .int .i64 (sumN ks : Int), .int .i64 ((topD ks + 1 : Nat) : Int)] 73 (0, 0)) ∧
        w5.ownsRow w.heap.size 23 1 (.slice (some ⟨w.heap.size + 2, 0, none⟩) ks.length ks.length) ks.length (laidT ks ks.length) ∧ Below w.heap.size w w5) := hid (by rw [hw5]; exact hJ.out.deeper (by omega) (Nat.le_refl _) _ (by omega))
      clear hw5 HDP hJ hrun HJ hsz
      obtain ⟨LM, HLM, hLM⟩ : ∃ LM : Int, Hid (∀ w, Calls Try.prog 39 #[.agg #[.slice none 0 0, .int .i64 (sumN ks : Int), .int .i64 ((topD ks : Int) + 1)]] w fun e w' => e = .returned (.int .i64 LM) ∧ Below w.heap.size w w') ∧ (LM != 0) = !decide (Fits (t)) := by
        refine ⟨_, hid (fun w => limit_any _ _ _ w), ?_⟩
        by_cases hf : Fits (t)
        · have := hFn.1 hf
          rw [decide_eq_true hf, if_neg (by omega), if_neg (by omega)]
          rfl
        · have := mt hFn.2 hf
          rw [decide_eq_false hf]
          by_cases h1 : 10000 < (sumN ks : Int)
          · rw [if_pos h1]; rfl
          · rw [if_neg h1, if_pos (by omega)]; rfl
      by_cases hf : Fits (t)
      · rw [decide_eq_true hf] at hLM
        have HFN := hid (hFn.1 hf)
        clear hFn
        go_wp2_with fail
        refine (HLM.out _).mono ?_
        rintro e w6 ⟨rfl, h6⟩
        rw [← HW5.out] at h6
        have hr6 := (h6.block _ (heap_lt HD5.out.1)).trans HD5.out.1
        have ha6 := (h6.block _ (heap_lt HD5.out.2.1)).trans HD5.out.2.1
        have ho6 := row_below HD5.out.2.2.1 h6
        have hb6 := HD5.out.2.2.2.trans (h6.mono HD5.out.2.2.2.size)
        have hfa : ∀ k ∈ ks, Fits k.2 := fun k hk => by
          have h1 := sumN_mem hk
          have h2 := topD_mem hk
          have h3 := HFN.out
          exact ⟨by omega, by omega⟩
        have hrt : RdT w6 (.slice (some ⟨w.heap.size + 2, 0, none⟩) ks.length ks.length) (ks.map fun k => (k.1, k.2.flat)) := by
          refine ⟨⟨some ⟨w.heap.size + 2, 0, none⟩, ks.length, by simp, fun hn => ?_⟩, fun t ht => ?_⟩
          · rcases ho6.2 with ⟨hv, _⟩ | ⟨g, cap, cur, hv, _, hh, _⟩
            · cases hv
            · simp only [Value.slice.injEq, Option.some.injEq, Addr.mk.injEq] at hv
              obtain ⟨⟨rfl, -, -⟩, -, -⟩ := hv
              refine ⟨_, 0, rfl, heap_lt hh, fun i hi => ?_⟩
              simp only [List.length_map] at hi
              rw [Nat.zero_add, World.ownsRow.cellAt ho6 i (by omega), laidT_all]
              simp [hi]
          · obtain ⟨k, hk1, rfl⟩ := List.mem_map.1 ht
            exact (((HK.out.2 k hk1).1 (hfa k hk1)).below hb6).size
        have HRW := hid (row_said kind ss (ks.map fun k => (k.1, k.2.flat)) HSZ.out hsl (by rw [List.length_map]; exact hnl) (fun t ht => by obtain ⟨k, hk1, rfl⟩ := List.mem_map.1 ht; exact tr_ne _) (fun t ht => by
          obtain ⟨k, hk1, rfl⟩ := List.mem_map.1 ht
          have h1 := (hfa k hk1).1
          have h2 := tr_len k.2
          simp only
          omega) _ _ w6 (HLS.out.below hb6) hrt)
        have HR6 := hid hr6
        have HA6 := hid ha6
        have HB6 := hid hb6
        clear hfa hr6 ha6 ho6 hb6 h6 g0 g1 g2 z1 hrt
        go_wp2_with fail
        refine (HRW.out).mono ?_
        rintro e w7 ⟨v, c, rfl, hb7, hsaid⟩
        rw [← HFS.out] at hsaid
        obtain ⟨rfl, hO7⟩ := HSAID.out _ HTS.out _ _ _ _ hsaid
        obtain ⟨Av, nv, cv, rfl⟩ : ∃ A n c, v = .slice A n c := by obtain ⟨A, c, h, -⟩ := hO7.rd; exact ⟨A, _, c, h⟩
        rw [← HTT.out] at hO7
        have hR7 := (hb7.block _ (heap_lt HR6.out)).trans HR6.out
        have hA7 := (hb7.block _ (heap_lt HA6.out)).trans HA6.out
        have q1 : ∀ j, w7.cell? ⟨w.heap.size + 1, j, none⟩ = #[Value.slice none 0 0, .int .i64 (sumN ks : Int), .int .i64 ((topD ks + 1 : Nat) : Int)][j]? := fun j => Lib.cell_of_heap hA7 j
        have q2 : ∀ j, w7.frozen? ⟨w.heap.size + 1, j, none⟩ = false := fun j => Lib.frozen_of_heap hA7 j
        have q3 : ∀ j, w7.cell? ⟨w.heap.size, j, none⟩ = #[Value.slice none 0 0, .int .i64 0, .int .i64 0][j]? := fun j => Lib.cell_of_heap hR7 j
        have q4 : ∀ j, w7.frozen? ⟨w.heap.size, j, none⟩ = false := fun j => Lib.frozen_of_heap hR7 j
        have HO7 := hid hO7
        have HB7 := hid hb7
        have HR7 := hid hR7
        have HA7 := hid hA7
        clear hO7 hb7 hR7 hA7 hsaid
        go_wp2
        refine bodyPost_ret (v := .agg #[.slice Av nv cv, .int .i64 (sumN ks : Int), .int .i64 ((topD ks + 1 : Nat) : Int)]) ?_ rfl ?_
        · simp [results, Try.results48, q3, go_sem]
        · obtain ⟨e1, e2⟩ := JEnd (t := t) HR7.out HA7.out (HO7.out.more HB6.out.size) (HB6.out.trans (HB7.out.mono HB6.out.size)) hf (.int .i64 (sumN ks : Int)) (.int .i64 ((topD ks : Int) + 1))
          exact ⟨.slice Av nv cv, by unfold trV; rw [HJN.out, HJD.out], e1, e2⟩
      · rw [decide_eq_false hf] at hLM
        have HF0 := hid hf
        clear hFn
        go_wp2_with fail
        refine (HLM.out _).mono ?_
        rintro e w6 ⟨rfl, h6⟩
        rw [← HW5.out] at h6
        have hr6 := (h6.block _ (heap_lt HD5.out.1)).trans HD5.out.1
        have ha6 := (h6.block _ (heap_lt HD5.out.2.1)).trans HD5.out.2.1
        have k0 : ∀ j, w6.cell? ⟨w.heap.size, j, none⟩ = #[Value.slice none 0 0, .int .i64 0, .int .i64 0][j]? := fun j => Lib.cell_of_heap hr6 j
        have y0 : ∀ j, w6.frozen? ⟨w.heap.size, j, none⟩ = false := fun j => Lib.frozen_of_heap hr6 j
        have k1 : ∀ j, w6.cell? ⟨w.heap.size + 1, j, none⟩ = #[Value.slice none 0 0, .int .i64 (sumN ks : Int), .int .i64 ((topD ks + 1 : Nat) : Int)][j]? := fun j => Lib.cell_of_heap ha6 j
        have HB6 := hid (HD5.out.2.2.2.trans (h6.mono HD5.out.2.2.2.size))
        clear hr6 ha6 h6 g0 g1 g2 z1
        go_wp2
        refine bodyPost_ret (v := .agg #[.slice none 0 0, .int .i64 (sumN ks : Int), .int .i64 ((topD ks + 1 : Nat) : Int)]) ?_ rfl ?_
        · simp [results, Try.results48, k0, go_sem]
        · refine ⟨.slice none 0 0, by unfold trV; rw [HJN.out, HJD.out], ⟨fun h => absurd h HF0.out, fun _ => rfl⟩, ?_⟩
          exact HB6.out.grown (put3_grown w6 w.heap.size _ _ _) HB6.out.size (fun k hk => by injection hk with hk; omega)

end Go.Proofs.Ytgghmhgbdknkaaa
end

section
/-
  What the reader's great steps tell, and how operF reads at a token. No conditions but those that each lemma names.
-/
namespace Go.Proofs.Ytgghmhgbdknkaaa
open Go.RowKit

/-- What a step that reads a type tells. -/
def ReadPost (l : List T.Tk) (vt : Value) (P : Nat) (r : T.R T.Tr) (w : World) (e : Ending) (w' : World) : Prop :=
  KT P w w' ∧ ((∃ p er, r = .bad p er ∧ e = faultE p er) ∨ ∃ t s', r = .ok t s' ∧ ∃ v, e = .returned (trV t v) ∧ TrV (P + 1) t v w' ∧ Rr l vt P s' w')

theorem ReadPost.bad {l : List T.Tk} {vt : Value} {P : Nat} {p : Nat} {er : Int} {r : T.R T.Tr} {w w' : World} (hk : KT P w w') (hr : r = .bad p er) : ReadPost l vt P r w (faultE p er) w' := ⟨hk, Or.inl ⟨p, er, hr, rfl⟩⟩

theorem isSign_none {l : List T.Tk} {p : Nat} (h : l[p]? = none) (k : ByteArray) : T.isSign l p k = false := by
  unfold T.isSign
  rw [h]

theorem tokAt_some {l : List T.Tk} {p : Nat} {t : T.Tk} (h : l[p]? = some t) : tokAt l p = t := by
  unfold tokAt
  simp [List.getD, h]
theorem tokAt_none {l : List T.Tk} {p : Nat} (h : l[p]? = none) : tokAt l p = ⟨0, ⟨#[]⟩, 0, 0⟩ := by
  unfold tokAt
  simp [List.getD, h]

/-- A sign's way into what is one level on. -/
def inside (A : Option T.P) (s : T.S) (f : T.P → T.R T.Tr) : T.R T.Tr :=
  match A with
  | none => .bad s.pl 4
  | some A => f A

def parF (l : List T.Tk) (s : T.S) (A : T.P) : T.R T.Tr := (A (stN s)).bind fun x s1 => (T.take l s1 T.kClose).bind fun _ s2 => .ok x s2
def bracesF (l : List T.Tk) (kind : Int) (s : T.S) (A : T.P) : T.R T.Tr :=
  if kind = 6 ∧ T.isSign l (s.pl + 1) (T.kRight 6) = true then .ok (T.rowT 6 []) ⟨s.pl + 2, s.site, s.sites⟩ else T.rowF l A kind 50 [] (stN s)

theorem operF_eq (l : List T.Tk) (A : Option T.P) (s : T.S) : T.operF l A s =
    if T.isSign l s.pl T.kQ then .ok (T.leafT 0 s.site) (stQ s (tokAt l s.pl))
    else if T.isSign l s.pl T.kOpen then inside A s (parF l s)
    else if T.isSign l s.pl (T.kLeft 6) then inside A s (bracesF l 6 s)
    else if T.isSign l s.pl (T.kLeft 7) then inside A s (bracesF l 7 s)
    else if T.baseK (tokAt l s.pl) < 0 then .bad s.pl 2 else .ok (T.leafT (T.baseK (tokAt l s.pl)) 0) (stN s) := by
  unfold T.operF
  cases h : l[s.pl]? with
  | none =>
    rw [isSign_none h, isSign_none h, isSign_none h, isSign_none h, tokAt_none h]
    rfl
  | some t =>
    rw [tokAt_some h]
    simp only [stQ, stN, inside, parF, bracesF]
    split
    · rfl
    · split
      · cases A <;> rfl
      · split
        · cases A with
          | none => rfl
          | some A =>
            simp only [true_and]
        · split
          · cases A with
            | none => rfl
            | some A =>
              simp only
              rw [if_neg (by simp)]
          · rfl

/-- Rows of texts and of trees that the call itself has made stay under the reader's steps. -/
theorem OwnS.kt {P B : Nat} {v : Value} {l : List ByteArray} {w w' : World} (h : OwnS B v l w) (hk : KT P w w') (hB : P < B) : OwnS B v l w' := by
  refine ⟨h.1, h.2.imp id fun ⟨g, cap, cur, h1, h2, h3, h4⟩ => ⟨g, cap, cur, h1, h2, ?_, h4⟩⟩
  exact hk.2 g _ h3 (by omega) (by intro c fz he; injection he with _ h5; exact absurd h5 (by decide))

def kidC (k : Kd) : List Value := [k.1, .int .i64 (k.2.nodes : Int), .int .i64 (k.2.deep : Int)]
def cellsK (ks : List Kd) : List Value := ks.flatMap kidC
/-- A row of trees of the call's own. -/
def OwnK (P B : Nat) (v : Value) (ks : List Kd) (w : World) : Prop := w.ownsRow B 73 3 v ks.length (cellsK ks) ∧ ∀ k ∈ ks, TrV (P + 1) k.2 k.1 w

theorem OwnK.kt {P B : Nat} {v : Value} {ks : List Kd} {w w' : World} (h : OwnK P B v ks w) (hk : KT P w w') (hB : P < B) : OwnK P B v ks w' := by
  refine ⟨⟨h.1.1, h.1.2.imp id fun ⟨g, cap, cur, h1, h2, h3, h4⟩ => ⟨g, cap, cur, h1, h2, ?_, h4⟩⟩, fun k hk1 => (h.2 k hk1).kt hk⟩
  exact hk.2 g _ h3 (by omega) (by intro c fz he; injection he with _ h5; exact absurd h5 (by decide))

theorem cellsK_len (ks : List Kd) : (cellsK ks).length = ks.length * 3 := by
  induction ks with
  | nil => rfl
  | cons t r ih => simp only [cellsK, kidC, List.flatMap_cons, List.length_append, List.length_cons, List.length_nil] at ih ⊢; omega

theorem cellsK_at {ks : List Kd} {i : Nat} (h : i < ks.length) : (cellsK ks)[i * 3]? = some ks[i].1 ∧ (cellsK ks)[i * 3 + 1]? = some (.int .i64 (ks[i].2.nodes : Int)) ∧ (cellsK ks)[i * 3 + 2]? = some (.int .i64 (ks[i].2.deep : Int)) := by
  induction ks generalizing i with
  | nil => cases h
  | cons t r ih =>
    have e : cellsK (t :: r) = kidC t ++ cellsK r := by simp [cellsK]
    rw [e]
    cases i with
    | zero => exact ⟨rfl, rfl, rfl⟩
    | succ i =>
      have h1 := ih (i := i) (by simpa using h)
      have hl : (kidC t).length = 3 := rfl
      refine ⟨?_, ?_, ?_⟩
      · rw [List.getElem?_append_right (by rw [hl]; omega), hl, show (i + 1) * 3 - 3 = i * 3 by omega]; exact h1.1
      · rw [List.getElem?_append_right (by rw [hl]; omega), hl, show (i + 1) * 3 + 1 - 3 = i * 3 + 1 by omega]; exact h1.2.1
      · rw [List.getElem?_append_right (by rw [hl]; omega), hl, show (i + 1) * 3 + 2 - 3 = i * 3 + 2 by omega]; exact h1.2.2

theorem OwnK.rd {P B : Nat} {v : Value} {ks : List Kd} {w : World} (h : OwnK P B v ks w) : RdKd w v ks := by
  refine ⟨?_, fun k hk => ⟨fun hf => ((h.2 k hk).1 hf).rd, (h.2 k hk).2⟩⟩
  rcases h.1.2 with ⟨hv, h0⟩ | ⟨g, cap, cur, hv, _, hh, hc, hm, _⟩
  · exact ⟨none, 0, by rw [hv, h0], fun hn => absurd (List.eq_nil_of_length_eq_zero h0) hn⟩
  · subst hv
    refine ⟨_, cap, rfl, fun _ => ⟨g, 0, rfl, heap_lt hh, fun i hi => ?_⟩⟩
    have hl := cellsK_len ks
    obtain ⟨h1, h2, h3⟩ := cellsK_at hi
    rw [Nat.zero_add, World.ownsRow.cellAt h.1 (i * 3) (by omega), World.ownsRow.cellAt h.1 (i * 3 + 1) (by omega), World.ownsRow.cellAt h.1 (i * 3 + 2) (by omega)]
    exact ⟨h1, h2, h3⟩

theorem OwnK.nil (P B : Nat) (w : World) : OwnK P B (.slice none 0 0) [] w := ⟨⟨by simp [cellsK], Or.inl ⟨rfl, rfl⟩⟩, by simp⟩
theorem OwnS.nil (B : Nat) (w : World) : OwnS B (.slice none 0 0) [] w := ⟨by simp, Or.inl ⟨rfl, rfl⟩⟩

theorem OwnK.snoc {P B : Nat} {v : Value} {ks : List Kd} {w : World} (k : Kd) (h : w.ownsRow B 73 3 v (ks.length + 1) (cellsK ks ++ kidC k)) (hp : ∀ x ∈ ks, TrV (P + 1) x.2 x.1 w) (hk : TrV (P + 1) k.2 k.1 w) : OwnK P B v (ks ++ [k]) w := by
  refine ⟨?_, fun x hx => ?_⟩
  · have e : cellsK (ks ++ [k]) = cellsK ks ++ kidC k := by simp [cellsK]
    rw [e, List.length_append]
    exact h
  · rcases List.mem_append.1 hx with hx | hx
    · exact hp x hx
    · rw [List.mem_singleton.1 hx]; exact hk

/-- What a great step stands on: the reader, and its own result's variable, which is not laid yet. -/
structure OSt (l : List T.Tk) (vt : Value) (P : Nat) (s : T.S) (w0 w : World) : Prop where
  kt : KT P w0 w
  rr : Rr l vt P s w
  res : w.heap[w0.heap.size]? = some (.cells #[.slice none 0 0, .int .i64 0, .int .i64 0] 73 (0, 0))
  lt : P < w0.heap.size

theorem OSt.first {l : List T.Tk} {vt : Value} {P : Nat} {s : T.S} {w : World} (h : Rr l vt P s w) : OSt l vt P s w (w.alloc (.cells #[.slice none 0 0, .int .i64 0, .int .i64 0] 73)) :=
  ⟨KT.of_below (below_new _) (Nat.le_of_lt h.lt), h.below (below_new _), heap_alloc_new w _, h.lt⟩

theorem OSt.kept {l : List T.Tk} {vt : Value} {P : Nat} {s s' : T.S} {w0 w w' : World} (h : OSt l vt P s w0 w) (hk : KT P w w') (hr : Rr l vt P s' w') : OSt l vt P s' w0 w' :=
  ⟨h.kt.trans hk, hr, hk.2 _ _ h.res (by have := h.lt; omega) (by intro c fz he; injection he with _ h5; exact absurd h5 (by decide)), h.lt⟩

theorem OSt.below {l : List T.Tk} {vt : Value} {P : Nat} {s : T.S} {w0 w w' : World} (h : OSt l vt P s w0 w) (hb : Below w.heap.size w w') : OSt l vt P s w0 w' :=
  h.kept (KT.of_below hb (Nat.le_of_lt h.rr.lt)) (h.rr.below hb)

theorem OSt.size {l : List T.Tk} {vt : Value} {P : Nat} {s : T.S} {w0 w : World} (h : OSt l vt P s w0 w) : w0.heap.size < w.heap.size := heap_lt h.res
theorem OSt.cells {l : List T.Tk} {vt : Value} {P : Nat} {s : T.S} {w0 w : World} (h : OSt l vt P s w0 w) : (∀ i, w.cell? ⟨w0.heap.size, i, none⟩ = #[Value.slice none 0 0, .int .i64 0, .int .i64 0][i]?) ∧ ∀ i, w.frozen? ⟨w0.heap.size, i, none⟩ = false :=
  ⟨fun i => Lib.cell_of_heap h.res i, fun i => Lib.frozen_of_heap h.res i⟩

/-- A row of the step's own grows: the reader, the result's variable stay. -/
theorem OSt.grown {l : List T.Tk} {vt : Value} {P : Nat} {s : T.S} {w0 w w' : World} {T2 : TypeId} {z n : Nat} {v : Value} {c : List Value} (h : OSt l vt P s w0 w) (ho : w.ownsRow (w0.heap.size + 1) T2 z v n c) (hT : 41 ≠ T2) (hg : w.grownBy w' v.ownBlock) : OSt l vt P s w0 w' := by
  have hlt := h.lt
  have hs := h.size
  have hb : ∀ k, v.ownBlock = some k → w0.heap.size + 1 ≤ k ∧ k < w.heap.size := ho.lt
  have hgr : ∀ k o, w.heap[k]? = some o → k ≤ w0.heap.size → w'.heap[k]? = some o := fun k o hk hle => (hg.block k (heap_lt hk) (fun e => by have := (hb k e.symm).1; omega)).trans hk
  refine ⟨⟨h.kt.1.grown hg (by omega) (fun k hk => by have := (hb k hk).1; omega), fun k o hk h1 h2 => hgr k o (h.kt.2 k o hk h1 h2) (by have := heap_lt hk; omega)⟩, ?_, hgr _ _ h.res (Nat.le_refl _), hlt⟩
  have hr := h.rr
  have hP := hr.lt
  obtain ⟨h1, h2, h3, vs, hc, ho2, h4⟩ := hr
  exact ⟨h1, h2, h3.low ((Below.refl P w).grown hg (Nat.le_of_lt hP) (fun k hk => by have := (hb k hk).1; omega)), vs, hgr _ _ hc (by omega), row_aside ho2 ho hT hg, h4⟩

theorem TrV.grown {B B2 : Nat} {t : T.Tr} {u v : Value} {w w' : World} {T2 : TypeId} {z n : Nat} {c : List Value} (h : TrV B t u w) (ho : w.ownsRow B2 T2 z v n c) (hT : 28 ≠ T2) (hg : w.grownBy w' v.ownBlock) : TrV B t u w' :=
  ⟨fun hf => row_aside (show w.ownsRow B 28 3 u t.flat.length (cellsN t.flat) from h.1 hf) ho hT hg, h.2⟩
theorem TrV.below {B : Nat} {t : T.Tr} {u : Value} {w w' : World} (h : TrV B t u w) (hb : Below w.heap.size w w') : TrV B t u w' := ⟨fun hf => (h.1 hf).below hb, h.2⟩
theorem TrV.more {B B' : Nat} {t : T.Tr} {u : Value} {w : World} (h : TrV B t u w) (hB : B' ≤ B) : TrV B' t u w := ⟨fun hf => (h.1 hf).more hB, h.2⟩
theorem OwnK.below {P B : Nat} {v : Value} {ks : List Kd} {w w' : World} (h : OwnK P B v ks w) (hb : Below w.heap.size w w') : OwnK P B v ks w' := ⟨row_below h.1 hb, fun k hk => (h.2 k hk).below hb⟩
theorem OwnK.grown {P B B2 : Nat} {v v2 : Value} {ks : List Kd} {w w' : World} {T2 : TypeId} {z n : Nat} {c : List Value} (h : OwnK P B v ks w) (ho : w.ownsRow B2 T2 z v2 n c) (h1 : 73 ≠ T2) (h2 : 28 ≠ T2) (hg : w.grownBy w' v2.ownBlock) : OwnK P B v ks w' :=
  ⟨row_aside h.1 ho h1 hg, fun k hk => (h.2 k hk).grown ho h2 hg⟩

/-- A tree's value is laid into a result's own variable. -/
theorem OSt.put {l : List T.Tk} {vt : Value} {P : Nat} {s' : T.S} {t : T.Tr} {v : Value} {w0 w : World} {r : T.R T.Tr} (h : OSt l vt P s' w0 w) (hv : TrV (P + 1) t v w) (hr : r = .ok t s') :
    ReadPost l vt P r w0 (.returned (trV t v)) (put3 w w0.heap.size v (.int .i64 (t.nodes : Int)) (.int .i64 (t.deep : Int))) := by
  have hg := put3_grown w w0.heap.size v (.int .i64 (t.nodes : Int)) (.int .i64 (t.deep : Int))
  exact ⟨h.kt.put (Nat.le_refl _) (Nat.le_of_lt h.lt) hg, Or.inr ⟨t, s', hr, v, rfl, ⟨fun hf => row_put (hv.1 hf) h.res (by decide) hg, hv.2⟩, h.rr.put h.lt h.res (by decide) hg⟩⟩

/-- What stands for what is one level on: none at the last level. -/
def NextLv (l : List T.Tk) (vt : Value) (P : Nat) (lv : Int) (A : Option T.P) : Prop :=
  (100 ≤ lv ∧ A = none) ∨ (lv < 100 ∧ ∃ B, A = some B ∧ T.GoodP l B ∧ ∀ s w, Rr l vt P s w → Calls Try.prog 38 #[.pointer (some ⟨P, 0, none⟩), .int .i64 (lv + 1)] w (ReadPost l vt P (B s) w))

theorem isLab_eq {kind : Int} (hk : kind = 6 ∨ kind = 7) (l : List T.Tk) (p : Nat) : T.isLab l kind p = if isLabT kind (tokAt l p) then some (tokAt l p).text else none := by
  have e : ∀ t : T.Tk, (decide (t.kind = (if kind = 6 then 1 else 2)) && L.isLabel kind t.text) = isLabT kind t := fun t => by
    unfold isLabT L.isLabel
    rcases hk with rfl | rfl <;> simp
  unfold T.isLab
  cases h : l[p]? with
  | none =>
    rw [tokAt_none h]
    have : isLabT kind ⟨0, ⟨#[]⟩, 0, 0⟩ = false := by unfold isLabT; rcases hk with rfl | rfl <;> rfl
    rw [this]
    rfl
  | some t =>
    rw [tokAt_some h]
    simp only [e]

theorem rowF_no {l : List T.Tk} {B : T.P} {kind : Int} (hk : kind = 6 ∨ kind = 7) {n : Nat} {acc : List (ByteArray × T.Tr)} {s : T.S} (h : isLabT kind (tokAt l s.pl) = false) : T.rowF l B kind n acc s = .bad s.pl 2 := by
  have e := isLab_eq hk l s.pl
  rw [h] at e
  cases n <;> (unfold T.rowF; rw [e]; rfl)
theorem any_map_eq (acc : List (ByteArray × T.Tr)) (x : ByteArray) : (acc.any fun p => decide (p.1 = x)) = (acc.map (·.1)).any (fun y => decide (y = x)) := by
  rw [List.any_map]; rfl
theorem rowF_twice {l : List T.Tk} {B : T.P} {kind : Int} (hk : kind = 6 ∨ kind = 7) {n : Nat} {acc : List (ByteArray × T.Tr)} {s : T.S} (h : isLabT kind (tokAt l s.pl) = true) (h2 : (acc.map (·.1)).any (fun y => decide (y = (tokAt l s.pl).text)) = true) : T.rowF l B kind n acc s = .bad s.pl 7 := by
  have e := isLab_eq hk l s.pl
  rw [h, if_pos rfl] at e
  rw [← any_map_eq] at h2
  cases n <;> (unfold T.rowF; rw [e]; simp only; rw [if_pos h2])
theorem rowF_many {l : List T.Tk} {B : T.P} {kind : Int} (hk : kind = 6 ∨ kind = 7) {acc : List (ByteArray × T.Tr)} {s : T.S} (h : isLabT kind (tokAt l s.pl) = true) (h2 : (acc.map (·.1)).any (fun y => decide (y = (tokAt l s.pl).text)) = false) : T.rowF l B kind 0 acc s = .bad s.pl 3 := by
  have e := isLab_eq hk l s.pl
  rw [h, if_pos rfl] at e
  rw [← any_map_eq] at h2
  unfold T.rowF
  rw [e]
  simp only
  rw [if_neg (by rw [h2]; simp)]
theorem rowF_step {l : List T.Tk} {B : T.P} {kind : Int} (hk : kind = 6 ∨ kind = 7) {n : Nat} {acc : List (ByteArray × T.Tr)} {s : T.S} (h : isLabT kind (tokAt l s.pl) = true) (h2 : (acc.map (·.1)).any (fun y => decide (y = (tokAt l s.pl).text)) = false) :
    T.rowF l B kind (n + 1) acc s = (T.take l (stN s) T.kColon).bind fun _ s1 => (B s1).bind fun x s2 =>
      if T.isSign l s2.pl (T.kBetw kind) then T.rowF l B kind n (acc ++ [((tokAt l s.pl).text, x)]) (stN s2) else (T.take l s2 (T.kRight kind)).bind fun _ s3 => .ok (T.rowT kind (acc ++ [((tokAt l s.pl).text, x)])) s3 := by
  have e := isLab_eq hk l s.pl
  rw [h, if_pos rfl] at e
  rw [← any_map_eq] at h2
  conv => lhs; unfold T.rowF
  rw [e]
  simp only
  rw [if_neg (by rw [h2]; simp)]
  rfl

theorem take_yes {l : List T.Tk} {s : T.S} {k : ByteArray} (h : T.isSign l s.pl k = true) : T.take l s k = .ok () (stN s) := by
  unfold T.take
  rw [if_pos h]
  rfl
theorem take_no {l : List T.Tk} {s : T.S} {k : ByteArray} (h : T.isSign l s.pl k = false) : T.take l s k = .bad s.pl 2 := by
  unfold T.take
  rw [h]
  rfl

end Go.Proofs.Ytgghmhgbdknkaaa
end

section
/-
  The walk of row. Conditions: the reader's own variable reads as it should, and a token is there; what is one level on is read as it is told; texts of tokens of at most 2000000 bytes.
-/
namespace Go.Proofs.Ytgghmhgbdknkaaa
open Go.RowKit

/-- What is left to read of a row. -/
def leftF (l : List T.Tk) (B : T.P) (kind : Int) (its : List It) (s : T.S) (b : Bool) : T.R T.Tr :=
  if b then T.rowF l B kind (50 - its.length) (itP its) s else (T.take l s (T.kRight kind)).bind fun _ s3 => .ok (T.rowT kind (itP its)) s3

/-- What row stands on between two labels. -/
structure RowRel (l : List T.Tk) (vt : Value) (P : Nat) (kind : Int) (B : T.P) (res : T.R T.Tr) (w0 : World) (its : List It) (s : T.S) (b : Bool) (v1 v2 : Value) (w : World) : Prop where
  st : OSt l vt P s w0 w
  ls : OwnS (w0.heap.size + 1) v1 (itS its) w
  ks : OwnK P (w0.heap.size + 1) v2 (itK its) w
  ok : T.Items kind (itP its)
  len : its.length ≤ 50
  fits : ∀ x ∈ its, x.2.2.nodes ≤ 1000000 ∧ x.2.1.size ≤ 2000000
  some : b = false → kind = 7 → 0 < its.length
  eq : leftF l B kind its s b = res

def lenOf : Value → Nat
  | .slice _ n _ => n
  | _ => 0

theorem infoTree : (Try.prog.info? 73).map (fun i => (i.zero, i.size, i.bytes)) = some (some (.agg #[.slice none 0 0, .int .i64 0, .int .i64 0]), 3, 40) := by kernel_rfl

theorem items_snoc {kind : Int} {acc : List (ByteArray × T.Tr)} {x : ByteArray} {t : T.Tr} (h : T.Items kind acc) (h1 : L.isLabel kind x = true) (h2 : (acc.map (·.1)).any (fun y => decide (y = x)) = false) (h3 : (L.Fo.cons t.1 t.2 .nil).ok = true ∧ L.bare t.1 = true) (h4 : ∀ z ∈ t.flat, z.kind ≠ 8 ∧ z.kind ≠ 9) : T.Items kind (acc ++ [(x, t)]) where
  lab := fun p hp => by
    rcases List.mem_append.1 hp with hp | hp
    · exact h.lab p hp
    · rw [List.mem_singleton.1 hp]; exact h1
  nd := by
    rw [List.map_append]
    refine List.nodup_append.2 ⟨h.nd, by simp, ?_⟩
    intro a ha b hb hab
    simp only [List.map_cons, List.map_nil, List.mem_singleton] at hb
    subst hab
    subst hb
    rw [List.any_eq_false] at h2
    exact h2 _ ha (by simp)
  ok := fun p hp => by
    rcases List.mem_append.1 hp with hp | hp
    · exact h.ok p hp
    · rw [List.mem_singleton.1 hp]; exact h3
  plain := fun p hp => by
    rcases List.mem_append.1 hp with hp | hp
    · exact h.plain p hp
    · rw [List.mem_singleton.1 hp]; exact h4

theorem isLabT_label {kind : Int} (hk : kind = 6 ∨ kind = 7) {t : T.Tk} (h : isLabT kind t = true) : L.isLabel kind t.text = true := by
  unfold isLabT at h
  unfold L.isLabel
  rcases hk with rfl | rfl <;> simp at h <;> simp [h]

theorem bad_inj {α : Type} {p q : Nat} {e f : Int} (h : (T.R.bad p e : T.R α) = .bad q f) : p = q ∧ e = f := by
  injection h with h1 h2
  exact ⟨h1, h2⟩

theorem lit_cells (w : World) (cs : Array Value) (T : TypeId) (xs : List Value) (hx : cs = xs.toArray) : ∀ j u, xs[j]? = some u → (w.alloc (.cells cs T)).cell? ((⟨w.heap.size, 0, none⟩ : Addr).add j) = some u := by
  intro j u hu
  have e : ((⟨w.heap.size, 0, none⟩ : Addr).add j) = ⟨w.heap.size, j, none⟩ := by unfold Addr.add; split <;> simp_all
  rw [e, Lib.cell_of_heap (heap_alloc_new w (.cells cs T)) j, hx, ← hu]
  simp

/-- A label is put behind the others. -/
theorem put_label {l : List T.Tk} {vt : Value} {P : Nat} {kind : Int} {B : T.P} {res : T.R T.Tr} {w0 : World} {its : List It} {s s' : T.S} {b : Bool} {v1 v2 v3 : Value} {w w1 w2 : World} {o : Obj} {x : ByteArray} (h : RowRel l vt P kind B res w0 its s b v1 v2 w) (hk : KT P w w1) (hr : Rr l vt P s' w1)
    (hown : w2.ownsRow (w0.heap.size + 1) 9 1 v3 ((itS its).length + 1) ((itS its).map .string ++ [.string x])) (hg : (w1.alloc o).grownBy w2 v1.ownBlock) :
    OSt l vt P s' w0 w2 ∧ OwnS (w0.heap.size + 1) v3 (itS its ++ [x]) w2 ∧ OwnK P (w0.heap.size + 1) v2 (itK its) w2 := by
  have hlt : P < w0.heap.size + 1 := by have := h.st.lt; omega
  have h1 := (h.st.kept hk hr).below (below_new o)
  have h2 : OwnS (w0.heap.size + 1) v1 (itS its) (w1.alloc o) := (h.ls.kt hk hlt).below (below_new o)
  have h3 := (h.ks.kt hk hlt).below (below_new o)
  exact ⟨h1.grown h2 (by decide) hg, OwnS.snoc x hown, h3.grown h2 (by decide) (by decide) hg⟩

/-- A tree is put behind the others. -/
theorem put_kid {l : List T.Tk} {vt : Value} {P : Nat} {w0 : World} {its : List It} {s : T.S} {ss : List ByteArray} {v v1 v2 v3 : Value} {t : T.Tr} {w w2 : World} (h1 : OSt l vt P s w0 w) (h2 : OwnS (w0.heap.size + 1) v1 ss w) (h3 : OwnK P (w0.heap.size + 1) v2 (itK its) w) (hv : TrV (P + 1) t v w)
    (hown : w2.ownsRow (w0.heap.size + 1) 73 3 v3 ((itK its).length + 1) (cellsK (itK its) ++ kidC (v, t))) (hg : w.grownBy w2 v2.ownBlock) :
    OSt l vt P s w0 w2 ∧ OwnS (w0.heap.size + 1) v1 ss w2 ∧ OwnK P (w0.heap.size + 1) v3 (itK its ++ [(v, t)]) w2 := by
  refine ⟨h1.grown h3.1 (by decide) hg, row_aside h2 h3.1 (by decide) hg, OwnK.snoc (v, t) hown (fun x hx => (h3.2 x hx).grown h3.1 (by decide) hg) (hv.grown h3.1 (by decide) hg)⟩

theorem OwnK.val {P B : Nat} {v : Value} {ks : List Kd} {w : World} (h : OwnK P B v ks w) : ∃ A cap, v = .slice A ks.length cap := row_slice h.1

set_option maxHeartbeats 16000000 in
set_option maxRecDepth 100000 in
theorem row_walk {l : List T.Tk} {vt : Value} {P : Nat} (hts : ∀ p, (tokAt l p).text.size ≤ 2000000) (kind : Int) (hk : kind = 6 ∨ kind = 7) (lv : Int) (h0 : 1 ≤ lv) (B : T.P) (hlv : lv < 100) (hG : T.GoodP l B)
    (hA : ∀ s w, Rr l vt P s w → Calls Try.prog 38 #[.pointer (some ⟨P, 0, none⟩), .int .i64 (lv + 1)] w (ReadPost l vt P (B s) w)) (s : T.S) (w : World) (h : Rr l vt P s w) (hlt : s.pl < l.length) :
    Calls Try.prog 55 #[.pointer (some ⟨P, 0, none⟩), .int .i64 kind, .int .i64 lv, .string (T.kBetw kind), .string (T.kRight kind)] w (ReadPost l vt P (bracesF l kind s B) w) := by
  obtain ⟨is, hsi, hsz0, hsz1, hsz2⟩ := info_parts infoStr
  obtain ⟨it, hti, htz0, htz1, htz2⟩ := info_parts infoTree
  have hP := h.lt
  have hll : l.length ≤ 1000000 := by obtain ⟨-, -, ⟨_, _, _, h2, _⟩, -⟩ := h; exact h2
  have HO := hid (OSt.first h)
  have HEN := hid (enter_any HO.out.rr lv (by omega) (fun _ => hlt))
  have HTS := hid hts
  have HG := hid hG
  have HA := hid (fun s w => hA s w)
  have HIS := hid (fun s w (hr : Rr l vt P s w) sg => isSign_any hr sg)
  have HSK := hid (fun s w (hr : Rr l vt P s w) sg => skip_any hr sg)
  have HTK := hid (fun s w (hr : Rr l vt P s w) sg => take_any hr sg)
  have HRES : Hid (∃ res, bracesF l kind s B = res ∧ leftF l B kind [] (stN s) (if kind = 7 then true else !(T.isSign l (s.pl + 1) (T.kRight kind))) = res) := hid ⟨_, rfl, by
    unfold bracesF leftF
    rcases hk with rfl | rfl
    · cases hs : T.isSign l (s.pl + 1) (T.kRight 6) with
      | false => simp [itP]
      | true =>
        simp only [true_and, if_true, if_false, show ¬ ((6 : Int) = 7) by decide, Bool.not_true, Bool.false_eq_true]
        rw [take_yes (show T.isSign l (stN s).pl (T.kRight 6) = true from hs)]
        rfl
    · simp [itP]⟩
  obtain ⟨res, hr1, hr2⟩ := HRES.out
  rw [hr1]
  have HR2 := hid hr2
  clear hts hG hA h HRES hr1 hr2
  obtain ⟨sb, hsb⟩ : ∃ sb, T.kBetw kind = sb := ⟨_, rfl⟩
  obtain ⟨sr, hsr⟩ : ∃ sr, T.kRight kind = sr := ⟨_, rfl⟩
  rw [hsb, hsr]
  have HSB := hid hsb
  have HSR := hid hsr
  clear hsb hsr
  go_enter Try.func55, Try.ntmps55
  go_wp2_with fail
  refine (HEN.out).mono ?_
  rintro e w1 ⟨hk1, h1⟩
  rcases h1 with ⟨-, rfl, hr1⟩ | ⟨hge, -⟩
  case inr => omega
  have HO1 := hid (HO.out.kept hk1 hr1)
  clear hk1 hr1 HEN
  have hzw : w.heap.size < w1.heap.size := HO1.out.size
  -- the first look
  have HFIRST : Hid (∀ b wx, Hid (OSt l vt P (stN s) w wx) → b = (if kind = 7 then true else !(T.isSign l (s.pl + 1) sr)) → RowRel l vt P kind B res w [] (stN s) b (.slice none 0 0) (.slice none 0 0) wx) := hid fun b wx ho hb =>
    { st := ho.out, ls := OwnS.nil _ _, ks := OwnK.nil _ _ _
      ok := ⟨by simp [itP], by simp [itP], by simp [itP], by simp [itP]⟩
      len := by simp
      fits := by simp
      some := fun h1 h2 => by subst h1; rw [if_pos h2] at hb; cases hb
      eq := by rw [hb, ← HSR.out]; exact HR2.out }
  go_upto_region 4 with fail
  go_cut [14] from 18 to 25 (fun v14 wx => ∃ b, v14 = .bool b ∧ b = (if kind = 7 then true else !(T.isSign l (s.pl + 1) sr)) ∧ OSt l vt P (stN s) w wx)
  case first =>
    rcases hk with rfl | rfl
    · have HI := hid (HIS.out _ _ HO1.out.rr sr)
      go_wp2_with fail
      refine (HI.out).mono ?_
      rintro e w2 ⟨rfl, h2⟩
      go_wp2
      go_meet
      exact ⟨_, rfl, by rw [if_neg (by decide)]; rfl, HO1.out.below h2⟩
    · go_wp2
      go_meet
      exact ⟨true, rfl, rfl, HO1.out⟩
  case rest =>
    obtain ⟨b, rfl, hb, ho⟩ := hcut
    have HREL := hid (HFIRST.out b wc (hid ho) hb)
    clear hb ho HFIRST HR2
    go_wp2
    go_loopw [12, 13, 14] (fun v12 v13 v14 wr => ∃ its s1 b, v14 = .bool b ∧ Hid (RowRel l vt P kind B res w its s1 b v12 v13 wr)) (fun v12 _ _ _ => 51 - lenOf v12)
    case atStart => exact ⟨[], stN s, b, rfl, HREL⟩
    case round =>
      obtain ⟨its, s1, b, rfl, hR⟩ := hrel
      obtain ⟨A1, cp1, hv1⟩ : ∃ A cap, u12 = .slice A its.length cap := by obtain ⟨A, c, h⟩ := hR.out.ls.val; exact ⟨A, c, by rw [h, itS_len]⟩
      obtain ⟨A2, cp2, hv2⟩ : ∃ A cap, u13 = .slice A its.length cap := by obtain ⟨A, c, h⟩ := hR.out.ks.val; exact ⟨A, c, by rw [h, itK_len]⟩
      subst hv1
      subst hv2
      have hwr : w.heap.size < wr.heap.size := hR.out.st.size
      have hl50 : its.length ≤ 50 := hR.out.len
      cases b with
      | false =>
        have HT := hid (HTK.out _ _ hR.out.st.rr sr)
        go_wp2_with fail
        refine (HT.out).mono ?_
        rintro e w2 ⟨hk2, h2⟩
        rcases h2 with ⟨hs, rfl, hr2⟩ | ⟨hs, rfl⟩
        · have HO2 := hid (hR.out.st.kept hk2 hr2)
          have HS2 := hid (hR.out.ls.kt hk2 (by omega))
          have HK2 := hid (hR.out.ks.kt hk2 (by omega))
          have HJ := hid (joinedR_any kind hk its hR.out.ok hl50 (fun h => hR.out.some rfl h) hR.out.fits _ _ w2 HS2.out.rd HK2.out.rd)
          have HEQ : Hid (res = .ok (T.rowT kind (itP its)) (stN s1)) := hid (by
            rw [← hR.out.eq]
            unfold leftF
            rw [if_neg (by simp), HSR.out, take_yes hs]
            rfl)
          clear hk2 hr2 HT hs
          go_wp2_with fail
          refine (HJ.out).mono ?_
          rintro e w3 ⟨v, rfl, hv, h3⟩
          have HO3 := hid (HO2.out.below h3)
          have HV3 := hid (hv.more (B' := P + 1) (by have := HO2.out.size; omega))
          obtain ⟨Av, nv, cv, rfl⟩ := hv.slice
          obtain ⟨k0, y0⟩ := HO3.out.cells
          clear hv h3
          unfold trV
          go_wp2
          refine bodyPost_ret (v := trV (T.rowT kind (itP its)) (.slice Av nv cv)) ?_ rfl ?_
          · simp [trV, results, Try.results55, k0, go_sem]
          · exact HO3.out.put HV3.out HEQ.out
        · have HKT := hid (hR.out.st.kt.trans hk2)
          have HEQ : Hid (res = .bad s1.pl 2) := hid (by
            rw [← hR.out.eq]
            unfold leftF
            rw [if_neg (by simp), HSR.out, take_no hs]
            rfl)
          clear hk2
          unfold faultE
          go_wp2
          exact ⟨rfl, ReadPost.bad HKT.out HEQ.out⟩
      | true =>
        have HLB := hid (label_any hR.out.st.rr kind (itS its) (by rw [itS_len]; omega) (.slice A1 its.length cp1) hR.out.ls.rd (HTS.out s1.pl))
        have HLE : Hid (T.rowF l B kind (50 - its.length) (itP its) s1 = res) := hid (by rw [← hR.out.eq]; unfold leftF; rw [if_pos rfl])
        go_wp2_with fail
        refine (HLB.out).mono ?_
        intro e w2 hlp
        unfold LabelPost at hlp
        obtain ⟨hk2, hlp⟩ := hlp
        rcases hlp with ⟨h1, rfl⟩ | ⟨h1, h2, rfl⟩ | ⟨h1, h2, h3, rfl⟩ | ⟨h1, h2, h3, rfl, hr2⟩
        · have HKT := hid (hR.out.st.kt.trans hk2)
          have HEQ : Hid (res = .bad s1.pl 2) := hid (by rw [← HLE.out]; exact rowF_no hk h1)
          clear hk2
          unfold faultE
          go_wp2
          exact ⟨rfl, ReadPost.bad HKT.out HEQ.out⟩
        · have HKT := hid (hR.out.st.kt.trans hk2)
          have HEQ : Hid (res = .bad s1.pl 7) := hid (by rw [← HLE.out]; exact rowF_twice hk h1 (by rw [itP_fst]; exact h2))
          clear hk2
          unfold faultE
          go_wp2
          exact ⟨rfl, ReadPost.bad HKT.out HEQ.out⟩
        · have HKT := hid (hR.out.st.kt.trans hk2)
          have HEQ : Hid (res = .bad s1.pl 3) := hid (by
            rw [← HLE.out]
            rw [itS_len] at h3
            rw [h3]
            exact rowF_many hk h1 (by rw [itP_fst]; exact h2))
          clear hk2
          unfold faultE
          go_wp2
          exact ⟨rfl, ReadPost.bad HKT.out HEQ.out⟩
        · rw [itS_len] at h3
          have hl49 : its.length < 50 := by omega
          have HST : Hid (res = (T.take l (stN s1) T.kColon).bind fun _ s1' => (B s1').bind fun x s2 =>
              if T.isSign l s2.pl (T.kBetw kind) then T.rowF l B kind (49 - its.length) (itP its ++ [((tokAt l s1.pl).text, x)]) (stN s2) else (T.take l s2 (T.kRight kind)).bind fun _ s3 => .ok (T.rowT kind (itP its ++ [((tokAt l s1.pl).text, x)])) s3) := hid (by
            rw [← HLE.out, show 50 - its.length = (49 - its.length) + 1 by omega]
            exact rowF_step hk h1 (by rw [itP_fst]; exact h2))
          have HLAB := hid (isLabT_label hk h1)
          have HNEW := hid h2
          have HTX := hid (HTS.out s1.pl)
          have HPUT := hid (fun (v3 : Value) (w3 : World) (o : Obj) hown hg => put_label (w2 := w3) (o := o) (v3 := v3) (x := (tokAt l s1.pl).text) hR.out hk2 hr2 hown hg)
          have HOLD : Hid ((w2.alloc (.cells #[.string (tokAt l s1.pl).text] 9)).ownsRow (w.heap.size + 1) 9 1 (.slice A1 its.length cp1) its.length ((itS its).map .string)) := hid (by
            have := (hR.out.ls.kt hk2 (by omega)).below (below_new (.cells #[.string (tokAt l s1.pl).text] 9))
            unfold OwnS at this
            rw [itS_len] at this
            exact this)
          have hw2 : w.heap.size < w2.heap.size := (hR.out.st.kept hk2 hr2).size
          clear h1 h2 h3 hk2 hr2 HLB HLE
          generalize (tokAt l s1.pl).text = X at *
          go_wp2_with (at_builtin; refine wpList_append_own _ rfl _ _ 50 rfl (w.heap.size + 1) 9 is (.string ⟨#[]⟩) 1 16 Try.underlying50 hsi hsz0 hsz1 hsz2 rfl (by decide) _ _ _ rfl HOLD.out ⟨w2.heap.size, 0, none⟩ 1 1 [.string X] rfl rfl ?c1 ?c2 ?c3 ?c4 ?c5 ?_)
          case c1 => exact lit_cells w2 _ _ [.string X] rfl
          case c2 => simp [Value.oneCell']
          case c3 => unfold maxLen; omega
          case c4 => omega
          case c5 => simp; omega
          intro v3 w3 hown hgrow _
          obtain ⟨HO3, HS3, HK3⟩ := HPUT.out v3 w3 _ (by rw [itS_len]; exact hown) hgrow
          have HO3 := hid HO3
          have HS3 := hid HS3
          have HK3 := hid HK3
          clear hown hgrow HPUT HOLD
          have HT3 := hid (HTK.out _ _ HO3.out.rr T.kColon)
          have hw3 : w.heap.size < w3.heap.size := HO3.out.size
          go_wp2_with fail
          refine (HT3.out).mono ?_
          rintro e w4 ⟨hk4, h4⟩
          rcases h4 with ⟨hs4, rfl, hr4⟩ | ⟨hs4, rfl⟩
          case inr =>
            have HKT := hid (HO3.out.kt.trans hk4)
            have HEQ : Hid (res = .bad (stN s1).pl 2) := hid (by rw [HST.out, take_no hs4]; rfl)
            clear hk4 hs4
            unfold faultE
            go_wp2
            exact ⟨rfl, ReadPost.bad HKT.out HEQ.out⟩
          have HO4 := hid (HO3.out.kept hk4 hr4)
          have HS4 := hid (HS3.out.kt hk4 (by omega))
          have HK4 := hid (HK3.out.kt hk4 (by omega))
          have HST4 : Hid (res = (B (stN (stN s1))).bind fun x s2 =>
              if T.isSign l s2.pl (T.kBetw kind) then T.rowF l B kind (49 - its.length) (itP its ++ [(X, x)]) (stN s2) else (T.take l s2 (T.kRight kind)).bind fun _ s3 => .ok (T.rowT kind (itP its ++ [(X, x)])) s3) := hid (by rw [HST.out, take_yes hs4]; rfl)
          have HAR := hid (HA.out _ _ hr4)
          clear hk4 hr4 hs4 HST HT3 HO3 HS3 HK3
          go_wp2_with fail
          refine (HAR.out).mono ?_
          rintro e w5 ⟨hk5, h5⟩
          rcases h5 with ⟨p, er, hb5, rfl⟩ | ⟨t, s5, hb5, v, rfl, hv5, hr5⟩
          · have HKT := hid (HO4.out.kt.trans hk5)
            have HEQ : Hid (res = .bad p er) := hid (by rw [HST4.out, hb5]; rfl)
            clear hk5 hb5
            unfold faultE
            go_wp2
            exact ⟨rfl, ReadPost.bad HKT.out HEQ.out⟩
          · have hgot := HG.out (stN (stN s1)) (by obtain ⟨-, h, -⟩ := HO4.out.rr; exact h.1) t s5 hb5
            have HGOT := hid hgot
            have hnt : t.nodes ≤ 1000000 := by have h1 := hgot.nodes; have h2 := hgot.le; omega
            have hdt : t.deep ≤ 1000000 := Nat.le_trans (deep_nodes t) hnt
            have HST5 : Hid (res = if T.isSign l s5.pl (T.kBetw kind) then T.rowF l B kind (49 - its.length) (itP its ++ [(X, t)]) (stN s5) else (T.take l s5 (T.kRight kind)).bind fun _ s3 => .ok (T.rowT kind (itP its ++ [(X, t)])) s3) := hid (by rw [HST4.out, hb5]; rfl)
            have HO5 := hid (HO4.out.kept hk5 hr5)
            have HS5 := hid (HS4.out.kt hk5 (by omega))
            have HK5 := hid (HK4.out.kt hk5 (by omega))
            have hw5 : w.heap.size < w5.heap.size := HO5.out.size
            obtain ⟨Av, nv, cv, rfl⟩ := hv5.slice
            have HB5 := hid (below_new (w := w5) (.cells #[.slice Av nv cv, .int .i64 (t.nodes : Int), .int .i64 (t.deep : Int)] 73))
            have HV5 := hid (hv5.below HB5.out)
            have HO5b := hid (HO5.out.below HB5.out)
            have HS5b := hid (HS5.out.below HB5.out)
            have HK5b := hid (HK5.out.below HB5.out)
            have HPUT := hid (fun v6 w6 hown hg => put_kid (v3 := v6) (w2 := w6) HO5b.out HS5b.out HK5b.out HV5.out hown hg)
            have HOLD : Hid ((w5.alloc (.cells #[.slice Av nv cv, .int .i64 (t.nodes : Int), .int .i64 (t.deep : Int)] 73)).ownsRow (w.heap.size + 1) 73 3 (.slice A2 its.length cp2) its.length (cellsK (itK its))) := hid (by
              have := HK5b.out.1
              rw [itK_len] at this
              exact this)
            clear hk5 hr5 hv5 hb5 hgot HO4 HS4 HK4 HST4 HAR
            unfold trV
            generalize hNT : (t.nodes : Int) = NT at *
            generalize hDT : (t.deep : Int) = DT at *
            go_wp2_with (at_builtin; refine wpList_append_own _ rfl _ _ 82 rfl (w.heap.size + 1) 73 it (.agg #[.slice none 0 0, .int .i64 0, .int .i64 0]) 3 40 Try.underlying82 hti htz0 htz1 htz2 rfl (by decide) _ _ _ rfl HOLD.out ⟨w5.heap.size, 0, none⟩ 1 1 [.slice Av nv cv, .int .i64 NT, .int .i64 DT] rfl rfl ?c1 ?c2 ?c3 ?c4 ?c5 ?_)
            case c1 => exact lit_cells w5 _ _ [.slice Av nv cv, .int .i64 NT, .int .i64 DT] rfl
            case c2 => simp [Value.oneCell']
            case c3 => unfold maxLen; omega
            case c4 => omega
            case c5 => simp; omega
            intro v6 w6 hown hgrow _
            obtain ⟨HO6, HS6, HK6⟩ := HPUT.out v6 w6 (by rw [itK_len]; unfold kidC; rw [hNT, hDT]; exact hown) hgrow
            have HO6 := hid HO6
            have HS6 := hid HS6
            have HK6 := hid HK6
            have HSKP := hid (HSK.out _ _ HO6.out.rr sb)
            have hw6 : w.heap.size < w6.heap.size := HO6.out.size
            clear hown hgrow HPUT HOLD HO5 HS5 HK5 HO5b HS5b HK5b HV5 HB5
            go_wp2_with fail
            refine (HSKP.out).mono ?_
            rintro e w7 ⟨rfl, hk7, hr7⟩
            have HREL : Hid (RowRel l vt P kind B res w (its ++ [(.slice Av nv cv, (X, t))]) (if T.isSign l s5.pl sb = true then stN s5 else s5) (T.isSign l s5.pl sb) v3 v6 w7) := hid
              { st := HO6.out.kept hk7 hr7
                ls := by
                  have := HS6.out.kt hk7 (by omega)
                  simpa [itS] using this
                ks := by
                  have := HK6.out.kt hk7 (by omega)
                  simpa [itK] using this
                ok := by
                  have := items_snoc hR.out.ok HLAB.out (by rw [itP_fst]; exact HNEW.out) ⟨HGOT.out.ok, HGOT.out.bare⟩ HGOT.out.plain
                  simpa [itP] using this
                len := by simp; omega
                fits := fun x hx => by
                  rcases List.mem_append.1 hx with hx | hx
                  · exact hR.out.fits x hx
                  · rw [List.mem_singleton.1 hx]; exact ⟨hnt, HTX.out⟩
                some := fun _ _ => by simp
                eq := by
                  rw [HST5.out, HSB.out]
                  unfold leftF
                  have e1 : itP (its ++ [((.slice Av nv cv : Value), (X, t))]) = itP its ++ [(X, t)] := by simp [itP]
                  have e2 : 50 - (its ++ [((.slice Av nv cv : Value), (X, t))]).length = 49 - its.length := by rw [List.length_append]; simp only [List.length_cons, List.length_nil]; omega
                  rw [e1, e2]
                  cases T.isSign l s5.pl sb <;> rfl }
            clear hk7 hr7 HO6 HS6 HK6 HST5
            go_wp2
            go_roundw
            case rel => exact ⟨_, _, _, rfl, HREL⟩
            case measure =>
              obtain ⟨A, c, h⟩ := HREL.out.ls.val
              rw [h]
              simp only [lenOf, itS_len, List.length_append, List.length_cons, List.length_nil]
              omega

set_option maxHeartbeats 4000000 in
set_option maxRecDepth 100000 in
theorem row_deep {l : List T.Tk} {vt : Value} {P : Nat} (kind : Int) (lv : Int) (hlv : 100 ≤ lv) (s : T.S) (w : World) (h : Rr l vt P s w) (sb sr : ByteArray) :
    Calls Try.prog 55 #[.pointer (some ⟨P, 0, none⟩), .int .i64 kind, .int .i64 lv, .string sb, .string sr] w (ReadPost l vt P (.bad s.pl 4) w) := by
  have HO := hid (OSt.first h)
  have HEN := hid (enter_any HO.out.rr lv (by omega) (fun h => by omega))
  clear h
  go_enter Try.func55, Try.ntmps55
  go_wp2_with fail
  refine (HEN.out).mono ?_
  rintro e w1 ⟨hk1, h1⟩
  rcases h1 with ⟨hl, -, -⟩ | ⟨-, rfl⟩
  · omega
  · have HKT := hid (HO.out.kt.trans hk1)
    clear hk1
    unfold faultE
    go_wp2
    exact ⟨rfl, ReadPost.bad HKT.out rfl⟩

theorem row_calls {l : List T.Tk} {vt : Value} {P : Nat} (hts : ∀ p, (tokAt l p).text.size ≤ 2000000) (kind : Int) (hk : kind = 6 ∨ kind = 7) (lv : Int) (h0 : 1 ≤ lv) (A : Option T.P) (hA : NextLv l vt P lv A) (s : T.S) (w : World) (h : Rr l vt P s w) (hlt : s.pl < l.length) :
    Calls Try.prog 55 #[.pointer (some ⟨P, 0, none⟩), .int .i64 kind, .int .i64 lv, .string (T.kBetw kind), .string (T.kRight kind)] w (ReadPost l vt P (inside A s (bracesF l kind s)) w) := by
  rcases hA with ⟨h1, rfl⟩ | ⟨h1, B, rfl, hG, hB⟩
  · exact row_deep kind lv h1 s w h _ _
  · exact row_walk hts kind hk lv h0 B h1 hG hB s w h hlt

end Go.Proofs.Ytgghmhgbdknkaaa
end

section
/-
  The walk of operand. Conditions: the reader's own variable reads as it should; what is one level on is read as it is told; texts of tokens of at most 2000000 bytes.
-/
namespace Go.Proofs.Ytgghmhgbdknkaaa
open Go.RowKit

theorem bind_bad {α β : Type} {r : T.R α} {f : α → T.S → T.R β} {p : Nat} {er : Int} (h : r = .bad p er) : r.bind f = .bad p er := by rw [h]; rfl

set_option maxHeartbeats 16000000 in
set_option maxRecDepth 100000 in
theorem operand_any {l : List T.Tk} {vt : Value} {P : Nat} (hts : ∀ p, (tokAt l p).text.size ≤ 2000000) (lv : Int) (h0 : 1 ≤ lv) (A : Option T.P) (hA : NextLv l vt P lv A) (s : T.S) (w : World) (h : Rr l vt P s w) :
    Calls Try.prog 46 #[.pointer (some ⟨P, 0, none⟩), .int .i64 lv] w (ReadPost l vt P (T.operF l A s) w) := by
  have hP := h.lt
  have hll : l.length ≤ 1000000 := by obtain ⟨-, -, ⟨_, _, _, h2, _⟩, -⟩ := h; exact h2
  have HO := hid (OSt.first h)
  have HIS := hid (fun s w (hr : Rr l vt P s w) sg => isSign_any hr sg)
  have HTK := hid (fun s w (hr : Rr l vt P s w) sg => take_any hr sg)
  have HRW := hid (fun kind hk s w h hlt => row_calls (l := l) (vt := vt) (P := P) hts kind hk lv h0 A hA s w h hlt)
  have HAA := hid hA
  rw [operF_eq]
  obtain ⟨res, hres⟩ : ∃ res, res = (if T.isSign l s.pl T.kQ then .ok (T.leafT 0 s.site) (stQ s (tokAt l s.pl))
    else if T.isSign l s.pl T.kOpen then inside A s (parF l s)
    else if T.isSign l s.pl (T.kLeft 6) then inside A s (bracesF l 6 s)
    else if T.isSign l s.pl (T.kLeft 7) then inside A s (bracesF l 7 s)
    else if T.baseK (tokAt l s.pl) < 0 then .bad s.pl 2 else .ok (T.leafT (T.baseK (tokAt l s.pl)) 0) (stN s) : T.R T.Tr) := ⟨_, rfl⟩
  rw [← hres]
  have HRES := hid hres
  have HI1 := hid (HIS.out _ _ HO.out.rr T.kQ)
  clear h hA hts hres
  go_enter Try.func46, Try.ntmps46
  go_wp2_with fail
  refine (HI1.out).mono ?_
  rintro e w1 ⟨rfl, h1⟩
  have HO1 := hid (HO.out.below h1)
  have hw1 : w.heap.size < w1.heap.size := HO1.out.size
  clear h1 HO HI1
  cases hb1 : T.isSign l s.pl T.kQ with
  | true =>
    have HU := hid (unknown_any HO1.out.rr (sign_lt hb1))
    have HE : Hid (res = .ok (T.leafT 0 s.site) (stQ s (tokAt l s.pl))) := hid (by rw [HRES.out, if_pos hb1])
    clear hb1 HRES
    go_wp2_with fail
    refine (HU.out).mono ?_
    rintro e w2 ⟨hk2, v, rfl, hv, hr2⟩
    have HO2 := hid (HO1.out.kept hk2 hr2)
    have HV := hid hv
    obtain ⟨Av, nv, cv, rfl⟩ := hv.slice
    obtain ⟨k0, y0⟩ := HO2.out.cells
    clear hk2 hv hr2 HO1 HU
    unfold trV
    go_wp2
    refine bodyPost_ret (v := trV (T.leafT 0 s.site) (.slice Av nv cv)) ?_ rfl ?_
    · simp [trV, results, Try.results46, k0, go_sem]
    · exact HO2.out.put HV.out HE.out
  | false =>
    have HRES2 : Hid (res = (if T.isSign l s.pl T.kOpen then inside A s (parF l s)
      else if T.isSign l s.pl (T.kLeft 6) then inside A s (bracesF l 6 s)
      else if T.isSign l s.pl (T.kLeft 7) then inside A s (bracesF l 7 s)
      else if T.baseK (tokAt l s.pl) < 0 then .bad s.pl 2 else .ok (T.leafT (T.baseK (tokAt l s.pl)) 0) (stN s) : T.R T.Tr)) := hid (by rw [HRES.out, if_neg (by rw [hb1]; simp)])
    have HI2 := hid (HIS.out _ _ HO1.out.rr T.kOpen)
    clear HRES hb1
    go_wp2_with fail
    refine (HI2.out).mono ?_
    rintro e w2 ⟨rfl, h2⟩
    have HO2 := hid (HO1.out.below h2)
    have hw2 : w.heap.size < w2.heap.size := HO2.out.size
    clear h2 HO1 HI2
    cases hb2 : T.isSign l s.pl T.kOpen with
    | true =>
      have HE : Hid (res = inside A s (parF l s)) := hid (by rw [HRES2.out, if_pos hb2])
      have HEN := hid (enter_any HO2.out.rr lv (by omega) (fun _ => sign_lt hb2))
      clear HRES2 hb2
      go_wp2_with fail
      refine (HEN.out).mono ?_
      rintro e w3 ⟨hk3, h3⟩
      rcases HAA.out with ⟨hl, hA⟩ | ⟨hl, B, hA, hG, hB⟩
      · rcases h3 with ⟨hl2, -, -⟩ | ⟨-, rfl⟩
        · omega
        · have HKT := hid (HO2.out.kt.trans hk3)
          have HE2 : Hid (res = .bad s.pl 4) := hid (by rw [HE.out, hA]; rfl)
          clear hk3
          unfold faultE
          go_wp2
          exact ⟨rfl, ReadPost.bad HKT.out HE2.out⟩
      · rcases h3 with ⟨-, rfl, hr3⟩ | ⟨hl2, -⟩
        case inr => omega
        have HE2 : Hid (res = parF l s B) := hid (by rw [HE.out, hA]; rfl)
        have HO3 := hid (HO2.out.kept hk3 hr3)
        have HAR := hid (hB _ _ hr3)
        clear hk3 hr3 HEN HE HO2 hB hG hA
        go_wp2_with fail
        refine (HAR.out).mono ?_
        rintro e w4 ⟨hk4, h4⟩
        rcases h4 with ⟨p, er, hb4, rfl⟩ | ⟨t, s4, hb4, v, rfl, hv4, hr4⟩
        · have HKT := hid (HO3.out.kt.trans hk4)
          have HEQ : Hid (res = .bad p er) := hid (by rw [HE2.out]; exact bind_bad hb4)
          clear hk4 hb4
          unfold faultE
          go_wp2
          exact ⟨rfl, ReadPost.bad HKT.out HEQ.out⟩
        · have HE4 : Hid (res = (T.take l s4 T.kClose).bind fun _ s2 => .ok t s2) := hid (by rw [HE2.out]; unfold parF; rw [hb4]; rfl)
          have HO4 := hid (HO3.out.kept hk4 hr4)
          obtain ⟨Av, nv, cv, rfl⟩ := hv4.slice
          have HB4 := hid (below_new (w := w4) (.cells #[.slice Av nv cv, .int .i64 (t.nodes : Int), .int .i64 (t.deep : Int)] 73))
          have HM4 := hid (heap_alloc_new w4 (.cells #[.slice Av nv cv, .int .i64 (t.nodes : Int), .int .i64 (t.deep : Int)] 73))
          have HO5 := hid (HO4.out.below HB4.out)
          have HV5 := hid (hv4.below HB4.out)
          have HT5 := hid (HTK.out _ _ HO5.out.rr T.kClose)
          have hw4 : w.heap.size < w4.heap.size := HO4.out.size
          have hPw : P < w4.heap.size := HO4.out.rr.lt
          clear hk4 hr4 hv4 hb4 HO3 HO4 HE2 HAR
          unfold trV
          go_wp2_with fail
          refine (HT5.out).mono ?_
          rintro e w6 ⟨hk6, h6⟩
          rcases h6 with ⟨hs6, rfl, hr6⟩ | ⟨hs6, rfl⟩
          · have HO6 := hid (HO5.out.kept hk6 hr6)
            have HV6 := hid (HV5.out.kt hk6)
            have hM6 := hk6.2 _ _ HM4.out (by omega) (by intro c fz he; injection he with _ h5; exact absurd h5 (by decide))
            have HE6 : Hid (res = .ok t (stN s4)) := hid (by rw [HE4.out, take_yes hs6]; rfl)
            have m0 : ∀ j, w6.cell? ⟨w4.heap.size, j, none⟩ = #[Value.slice Av nv cv, .int .i64 (t.nodes : Int), .int .i64 (t.deep : Int)][j]? := fun j => Lib.cell_of_heap hM6 j
            obtain ⟨k0, y0⟩ := HO6.out.cells
            clear hk6 hr6 hs6 hM6
            go_wp2
            refine bodyPost_ret (v := trV t (.slice Av nv cv)) ?_ rfl ?_
            · simp [trV, results, Try.results46, k0, go_sem]
            · exact HO6.out.put HV6.out HE6.out
          · have HKT := hid (HO5.out.kt.trans hk6)
            have HEQ : Hid (res = .bad s4.pl 2) := hid (by rw [HE4.out, take_no hs6]; rfl)
            clear hk6 hs6
            unfold faultE
            go_wp2
            exact ⟨rfl, ReadPost.bad HKT.out HEQ.out⟩
    | false =>
      have HRES3 : Hid (res = (if T.isSign l s.pl (T.kLeft 6) then inside A s (bracesF l 6 s)
        else if T.isSign l s.pl (T.kLeft 7) then inside A s (bracesF l 7 s)
        else if T.baseK (tokAt l s.pl) < 0 then .bad s.pl 2 else .ok (T.leafT (T.baseK (tokAt l s.pl)) 0) (stN s) : T.R T.Tr)) := hid (by rw [HRES2.out, if_neg (by rw [hb2]; simp)])
      have HI3 := hid (HIS.out _ _ HO2.out.rr (T.kLeft 6))
      clear HRES2 hb2
      go_wp2_with fail
      refine (HI3.out).mono ?_
      rintro e w3 ⟨rfl, h3⟩
      have HO3 := hid (HO2.out.below h3)
      have hw3 : w.heap.size < w3.heap.size := HO3.out.size
      clear h3 HO2 HI3
      cases hb3 : T.isSign l s.pl (T.kLeft 6) with
      | true =>
        have HE : Hid (res = inside A s (bracesF l 6 s)) := hid (by rw [HRES3.out, if_pos hb3])
        have HR := hid (HRW.out 6 (Or.inl rfl) s w3 HO3.out.rr (sign_lt hb3))
        clear HRES3 hb3
        go_wp2_with fail
        refine (HR.out).mono ?_
        rintro e w4 ⟨hk4, h4⟩
        rcases h4 with ⟨p, er, hb4, rfl⟩ | ⟨t, s4, hb4, v, rfl, hv4, hr4⟩
        · have HKT := hid (HO3.out.kt.trans hk4)
          have HEQ : Hid (res = .bad p er) := hid (by rw [HE.out]; exact hb4)
          clear hk4 hb4
          unfold faultE
          go_wp2
          exact ⟨rfl, ReadPost.bad HKT.out HEQ.out⟩
        · have HEQ : Hid (res = .ok t s4) := hid (by rw [HE.out]; exact hb4)
          have HO4 := hid (HO3.out.kept hk4 hr4)
          have HV := hid hv4
          obtain ⟨Av, nv, cv, rfl⟩ := hv4.slice
          obtain ⟨k0, y0⟩ := HO4.out.cells
          clear hk4 hr4 hv4 hb4
          unfold trV
          go_wp2
          refine bodyPost_ret (v := trV t (.slice Av nv cv)) ?_ rfl ?_
          · simp [trV, results, Try.results46, k0, go_sem]
          · exact HO4.out.put HV.out HEQ.out
      | false =>
        have HRES4 : Hid (res = (if T.isSign l s.pl (T.kLeft 7) then inside A s (bracesF l 7 s)
          else if T.baseK (tokAt l s.pl) < 0 then .bad s.pl 2 else .ok (T.leafT (T.baseK (tokAt l s.pl)) 0) (stN s) : T.R T.Tr)) := hid (by rw [HRES3.out, if_neg (by rw [hb3]; simp)])
        have HI4 := hid (HIS.out _ _ HO3.out.rr (T.kLeft 7))
        clear HRES3 hb3
        go_wp2_with fail
        refine (HI4.out).mono ?_
        rintro e w4 ⟨rfl, h4⟩
        have HO4 := hid (HO3.out.below h4)
        have hw4 : w.heap.size < w4.heap.size := HO4.out.size
        clear h4 HO3 HI4
        cases hb4 : T.isSign l s.pl (T.kLeft 7) with
        | true =>
          have HE : Hid (res = inside A s (bracesF l 7 s)) := hid (by rw [HRES4.out, if_pos hb4])
          have HR := hid (HRW.out 7 (Or.inr rfl) s w4 HO4.out.rr (sign_lt hb4))
          clear HRES4 hb4
          go_wp2_with fail
          refine (HR.out).mono ?_
          rintro e w5 ⟨hk5, h5⟩
          rcases h5 with ⟨p, er, hb5, rfl⟩ | ⟨t, s5, hb5, v, rfl, hv5, hr5⟩
          · have HKT := hid (HO4.out.kt.trans hk5)
            have HEQ : Hid (res = .bad p er) := hid (by rw [HE.out]; exact hb5)
            clear hk5 hb5
            unfold faultE
            go_wp2
            exact ⟨rfl, ReadPost.bad HKT.out HEQ.out⟩
          · have HEQ : Hid (res = .ok t s5) := hid (by rw [HE.out]; exact hb5)
            have HO5 := hid (HO4.out.kept hk5 hr5)
            have HV := hid hv5
            obtain ⟨Av, nv, cv, rfl⟩ := hv5.slice
            obtain ⟨k0, y0⟩ := HO5.out.cells
            clear hk5 hr5 hv5 hb5
            unfold trV
            go_wp2
            refine bodyPost_ret (v := trV t (.slice Av nv cv)) ?_ rfl ?_
            · simp [trV, results, Try.results46, k0, go_sem]
            · exact HO5.out.put HV.out HEQ.out
        | false =>
          have HE : Hid (res = (if T.baseK (tokAt l s.pl) < 0 then .bad s.pl 2 else .ok (T.leafT (T.baseK (tokAt l s.pl)) 0) (stN s) : T.R T.Tr)) := hid (by rw [HRES4.out, if_neg (by rw [hb4]; simp)])
          have HBA := hid (basic_any HO4.out.rr)
          clear HRES4 hb4
          go_wp2_with fail
          refine (HBA.out).mono ?_
          rintro e w5 ⟨hk5, h5⟩
          rcases h5 with ⟨hb5, rfl⟩ | ⟨hb5, v, rfl, hv5, hr5⟩
          · have HKT := hid (HO4.out.kt.trans hk5)
            have HEQ : Hid (res = .bad s.pl 2) := hid (by rw [HE.out, if_pos hb5])
            clear hk5 hb5
            unfold faultE
            go_wp2
            exact ⟨rfl, ReadPost.bad HKT.out HEQ.out⟩
          · have HEQ : Hid (res = .ok (T.leafT (T.baseK (tokAt l s.pl)) 0) (stN s)) := hid (by rw [HE.out, if_neg (by omega)])
            have HO5 := hid (HO4.out.kept hk5 hr5)
            have HV := hid hv5
            obtain ⟨Av, nv, cv, rfl⟩ := hv5.slice
            obtain ⟨k0, y0⟩ := HO5.out.cells
            clear hk5 hr5 hv5 hb5
            unfold trV
            go_wp2
            refine bodyPost_ret (v := trV (T.leafT (T.baseK (tokAt l s.pl)) 0) (.slice Av nv cv)) ?_ rfl ?_
            · simp [trV, results, Try.results46, k0, go_sem]
            · exact HO5.out.put HV.out HEQ.out

end Go.Proofs.Ytgghmhgbdknkaaa
end

section
/-
  The walk of arrow, at every level. Conditions: the reader's own variable reads as it should; texts of tokens of at most 2000000 bytes.
-/
namespace Go.Proofs.Ytgghmhgbdknkaaa
open Go.RowKit

theorem wholeF_not {l : List T.Tk} {A : Option T.P} {s s1 : T.S} {a : T.Tr} (h : T.operF l A s = .ok a s1) (h2 : T.isSign l s1.pl T.kArrow = false) : T.wholeF l A s = .ok a s1 := by
  unfold T.wholeF
  rw [h]
  show (if T.isSign l s1.pl T.kArrow then _ else _) = _
  rw [if_neg (by rw [h2]; simp)]
theorem wholeF_last {l : List T.Tk} {s s1 : T.S} {a : T.Tr} (h : T.operF l none s = .ok a s1) (h2 : T.isSign l s1.pl T.kArrow = true) : T.wholeF l none s = .bad s1.pl 4 := by
  unfold T.wholeF
  rw [h]
  show (if T.isSign l s1.pl T.kArrow then _ else _) = _
  rw [if_pos h2]
theorem wholeF_arr {l : List T.Tk} {B : T.P} {s s1 : T.S} {a : T.Tr} (h : T.operF l (some B) s = .ok a s1) (h2 : T.isSign l s1.pl T.kArrow = true) : T.wholeF l (some B) s = (B (stN s1)).bind fun b s2 => .ok (T.arrT a b) s2 := by
  unfold T.wholeF
  rw [h]
  show (if T.isSign l s1.pl T.kArrow then _ else _) = _
  rw [if_pos h2]
  rfl
theorem wholeF_bad {l : List T.Tk} {A : Option T.P} {s : T.S} {p : Nat} {er : Int} (h : T.operF l A s = .bad p er) : T.wholeF l A s = .bad p er := by
  unfold T.wholeF
  exact bind_bad h

theorem rd_two {w : World} {B : Nat} {va vb : Value} {a b : T.Tr} (ha : TrV B a va w) (hb : TrV B b vb w) :
    RdKd (w.alloc (.cells #[va, .int .i64 (a.nodes : Int), .int .i64 (a.deep : Int), vb, .int .i64 (b.nodes : Int), .int .i64 (b.deep : Int)] 73)) (.slice (some ⟨w.heap.size, 0, none⟩) 2 2) [(va, a), (vb, b)] := by
  have hb1 := below_new (w := w) (.cells #[va, .int .i64 (a.nodes : Int), .int .i64 (a.deep : Int), vb, .int .i64 (b.nodes : Int), .int .i64 (b.deep : Int)] 73)
  have hc := Lib.cell_of_heap (heap_alloc_new w (.cells #[va, .int .i64 (a.nodes : Int), .int .i64 (a.deep : Int), vb, .int .i64 (b.nodes : Int), .int .i64 (b.deep : Int)] 73))
  refine ⟨⟨_, 2, rfl, fun _ => ⟨w.heap.size, 0, rfl, by simp, fun i hi => ?_⟩⟩, fun k hk => ?_⟩
  · match i, hi with
    | 0, _ => exact ⟨hc 0, hc 1, hc 2⟩
    | 1, _ => exact ⟨hc 3, hc 4, hc 5⟩
  · have h : TrV B k.2 k.1 (w.alloc (.cells #[va, .int .i64 (a.nodes : Int), .int .i64 (a.deep : Int), vb, .int .i64 (b.nodes : Int), .int .i64 (b.deep : Int)] 73)) := by
      simp only [List.mem_cons, List.not_mem_nil, or_false] at hk
      rcases hk with rfl | rfl
      · exact ha.below hb1
      · exact hb.below hb1
    exact ⟨fun hf => (h.1 hf).rd, h.2⟩

/-- An arm of a region's walk at which the call panics: what is left of the walk is nothing. -/
theorem dummy_arm {G D : Prop} (h : G) (_ : D) : G := h

set_option maxHeartbeats 16000000 in
set_option maxRecDepth 100000 in
theorem arrow_walk {l : List T.Tk} {vt : Value} {P : Nat} (hts : ∀ p, (tokAt l p).text.size ≤ 2000000) (lv : Int) (h0 : 1 ≤ lv) (A : Option T.P) (hA : NextLv l vt P lv A) (s : T.S) (w : World) (h : Rr l vt P s w) :
    Calls Try.prog 38 #[.pointer (some ⟨P, 0, none⟩), .int .i64 lv] w (ReadPost l vt P (T.wholeF l A s) w) := by
  have hP := h.lt
  have hll : l.length ≤ 1000000 := by obtain ⟨-, -, ⟨_, _, _, h2, _⟩, -⟩ := h; exact h2
  have hs0 : 0 ≤ s.site := by obtain ⟨-, h2, -⟩ := h; exact h2.1
  have HO := hid (OSt.first h)
  have HIS := hid (fun s w (hr : Rr l vt P s w) sg => isSign_any hr sg)
  have HOP := hid (operand_any hts lv h0 A hA s _ HO.out.rr)
  have HAA := hid hA
  have HGO : Hid (T.GoodP l (T.operF l A)) := hid (T.operF_got (fun B hB => by
    rcases hA with ⟨_, h2⟩ | ⟨_, C, h2, h3, _⟩
    · rw [h2] at hB; cases hB
    · rw [h2] at hB; injection hB with hB; rw [← hB]; exact h3))
  clear h hA hts
  go_enter Try.func38, Try.ntmps38
  go_wp2_with fail
  refine (HOP.out).mono ?_
  rintro e w1 ⟨hk1, h1⟩
  rcases h1 with ⟨p, er, hb1, rfl⟩ | ⟨a, s1, hb1, va, rfl, hv1, hr1⟩
  · have HKT := hid (HO.out.kt.trans hk1)
    have HEQ := hid (wholeF_bad hb1)
    clear hk1 hb1
    unfold faultE
    go_wp2
    exact ⟨rfl, ReadPost.bad HKT.out HEQ.out⟩
  have hga := HGO.out s hs0 a s1 hb1
  have hna : a.nodes ≤ 1000000 := by have h1 := hga.nodes; have h2 := hga.le; omega
  have hda : a.deep ≤ 1000000 := Nat.le_trans (deep_nodes a) hna
  have hs1 : 0 ≤ s1.site := hga.went.site hs0
  have HO1 := hid (HO.out.kept hk1 hr1)
  obtain ⟨Aa, na, ca, rfl⟩ := hv1.slice
  have HB1 := hid (below_new (w := w1) (.cells #[.slice Aa na ca, .int .i64 (a.nodes : Int), .int .i64 (a.deep : Int)] 73))
  have HM1 := hid (heap_alloc_new w1 (.cells #[.slice Aa na ca, .int .i64 (a.nodes : Int), .int .i64 (a.deep : Int)] 73))
  have HO2 := hid (HO1.out.below HB1.out)
  have HV2 := hid (hv1.below HB1.out)
  have HI2 := hid (HIS.out _ _ HO2.out.rr T.kArrow)
  have HOPE := hid hb1
  have hw1 : w.heap.size < w1.heap.size := HO1.out.size
  have hPw : P < w1.heap.size := HO1.out.rr.lt
  clear hk1 hb1 hv1 hr1 hga HO1 HO HOP HGO
  unfold trV
  go_wp2_with fail
  refine (HI2.out).mono ?_
  rintro e w2 ⟨rfl, h2⟩
  have HO3 := hid (HO2.out.below h2)
  have HV3 := hid (HV2.out.below h2)
  have hM2 := (h2.block _ (heap_lt HM1.out)).trans HM1.out
  have m0 : ∀ j, w2.cell? ⟨w1.heap.size, j, none⟩ = #[Value.slice Aa na ca, .int .i64 (a.nodes : Int), .int .i64 (a.deep : Int)][j]? := fun j => Lib.cell_of_heap hM2 j
  have HM2 := hid hM2
  have hw2 : w.heap.size < w2.heap.size := HO3.out.size
  clear h2 hM2 HO2 HV2 HM1 HB1 HI2
  cases hs : T.isSign l s1.pl T.kArrow with
  | false =>
    have HEQ := hid (wholeF_not HOPE.out hs)
    obtain ⟨k0, y0⟩ := HO3.out.cells
    clear hs
    go_wp2
    refine bodyPost_ret (v := trV a (.slice Aa na ca)) ?_ rfl ?_
    · simp [trV, results, Try.results38, k0, go_sem]
    · exact HO3.out.put HV3.out HEQ.out
  | true =>
    have HLT := hid (sign_lt hs)
    have HDR := hid ((Below.refl w2.heap.size w2).drew)
    have HOD := hid (HO3.out.below HDR.out)
    have HEN := hid (enter_any HOD.out.rr lv (by omega) (fun _ => HLT.out))
    rcases HAA.out with ⟨hl, rfl⟩ | ⟨hl, B, rfl, hG, hB⟩
    · have HEQ := hid (wholeF_last HOPE.out hs)
      have HEN2 : Hid (Calls Try.prog 49 #[.pointer (some ⟨P, 0, none⟩), .int .i64 lv] w2.drew fun e w' => e = faultE s1.pl 4 ∧ KT P w2.drew w') := hid (HEN.out.mono (by
        rintro e w' ⟨hk, h⟩
        rcases h with ⟨h1, -⟩ | ⟨-, h1⟩
        · omega
        · exact ⟨h1, hk⟩))
      clear hs HEN HAA
      go_wp2
      go_region_law (first
        | (go_simp; go_at_call 49; refine (HEN2.out).mono ?_; rintro e w3 ⟨rfl, hk3⟩
           have HKT := hid (HOD.out.kt.trans hk3)
           refine dummy_arm (D := wpAny Try.prog Region.Mode.any #[] (fun _ _ _ => True) 0 #[] { tmps := #[], defers := [] } w3) (show bodyPost _ _ _ (Exit.panic _) _ _ from ⟨rfl, ReadPost.bad HKT.out HEQ.out⟩) ?_))
      all_goals trivial
    · have HEQ := hid (wholeF_arr HOPE.out hs)
      have HEN2 : Hid (Calls Try.prog 49 #[.pointer (some ⟨P, 0, none⟩), .int .i64 lv] w2.drew fun e w' => e = .returned (.int .i64 (lv + 1)) ∧ KT P w2.drew w' ∧ Rr l vt P (stN s1) w') := hid (HEN.out.mono (by
        rintro e w' ⟨hk, h⟩
        rcases h with ⟨-, h1, h2⟩ | ⟨h1, -⟩
        · exact ⟨h1, hk, h2⟩
        · omega))
      have HG := hid hG
      have HB := hid hB
      have HM2D : Hid (w2.drew.heap[w1.heap.size]? = _) := hid ((HDR.out.block _ (heap_lt HM2.out)).trans HM2.out)
      have HV2D := hid (HV3.out.below HDR.out)
      clear hs hG hB HEN HAA
      obtain ⟨r, hr⟩ : ∃ r, B (stN s1) = r := ⟨_, rfl⟩
      cases r with
      | bad p er =>
        have HEQ2 : Hid (T.wholeF l (some B) s = .bad p er) := hid (by rw [HEQ.out]; exact bind_bad hr)
        have HARR : Hid (∀ w3, Rr l vt P (stN s1) w3 → Calls Try.prog 38 #[.pointer (some ⟨P, 0, none⟩), .int .i64 (lv + 1)] w3 fun e w' => e = faultE p er ∧ KT P w3 w') := hid fun w3 h3 => (HB.out _ _ h3).mono (by
          rintro e w' ⟨hk, h⟩
          rw [hr] at h
          rcases h with ⟨p', er', h1, h2⟩ | ⟨t, s', h1, -⟩
          · obtain ⟨rfl, rfl⟩ := bad_inj h1
            exact ⟨h2, hk⟩
          · cases h1)
        clear hr HB
        go_wp2
        go_region_law (first
          | (go_simp; go_at_call 49; refine (HEN2.out).mono ?_; rintro e w3 ⟨rfl, hk3, hr3⟩
             have HK3 := hid hk3
             have HAR := hid (HARR.out _ hr3)
             have hM3 := hk3.2 _ _ HM2D.out (by omega) (by intro c fz he; injection he with _ h5; exact absurd h5 (by decide))
             have n0 : ∀ j, w3.cell? ⟨w1.heap.size, j, none⟩ = #[Value.slice Aa na ca, .int .i64 (a.nodes : Int), .int .i64 (a.deep : Int)][j]? := fun j => Lib.cell_of_heap hM3 j
             clear hk3 hr3 hM3)
          | (go_simp; go_at_call 38; refine (HAR.out).mono ?_; rintro e w4 ⟨rfl, hk4⟩
             have HKT := hid (HOD.out.kt.trans (HK3.out.trans hk4))
             clear hk4
             refine dummy_arm (D := wpAny Try.prog Region.Mode.any #[] (fun _ _ _ => True) 0 #[] { tmps := #[], defers := [] } w4) (show bodyPost _ _ _ (Exit.panic _) _ _ from ⟨rfl, ReadPost.bad HKT.out HEQ2.out⟩) ?_))
        all_goals trivial
      | ok b s2 =>
        have HEQ2 : Hid (T.wholeF l (some B) s = .ok (T.arrT a b) s2) := hid (by rw [HEQ.out, hr]; rfl)
        have hgb := HG.out (stN s1) hs1 b s2 hr
        have hnb : b.nodes ≤ 1000000 := by have h1 := hgb.nodes; have h2 := hgb.le; omega
        have hdb : b.deep ≤ 1000000 := Nat.le_trans (deep_nodes b) hnb
        have HARR : Hid (∀ w3, Rr l vt P (stN s1) w3 → Calls Try.prog 38 #[.pointer (some ⟨P, 0, none⟩), .int .i64 (lv + 1)] w3 fun e w' => ∃ v, e = .returned (trV b v) ∧ TrV (P + 1) b v w' ∧ Rr l vt P s2 w' ∧ KT P w3 w') := hid fun w3 h3 => (HB.out _ _ h3).mono (by
          rintro e w' ⟨hk, h⟩
          rw [hr] at h
          rcases h with ⟨p', er', h1, h2⟩ | ⟨t, s', h1, v, h2, h3, h4⟩
          · cases h1
          · injection h1 with h5 h6
            subst h5
            subst h6
            exact ⟨v, h2, h3, h4, hk⟩)
        clear hr HB hgb
        go_wp2
        go_region_law (first
          | (go_simp; go_at_call 49; refine (HEN2.out).mono ?_; rintro e w3 ⟨rfl, hk3, hr3⟩
             have HK3 := hid hk3
             have HO4 := hid (HOD.out.kept hk3 hr3)
             have HAR := hid (HARR.out _ hr3)
             have hM3 := hk3.2 _ _ HM2D.out (by omega) (by intro c fz he; injection he with _ h5; exact absurd h5 (by decide))
             have HM3 := hid hM3
             have n0 : ∀ j, w3.cell? ⟨w1.heap.size, j, none⟩ = #[Value.slice Aa na ca, .int .i64 (a.nodes : Int), .int .i64 (a.deep : Int)][j]? := fun j => Lib.cell_of_heap hM3 j
             clear hk3 hr3 hM3)
          | (go_simp; go_at_call 38; refine (HAR.out).mono ?_; rintro e w4 ⟨vb, rfl, hv4, hr4, hk4⟩
             obtain ⟨Ab, nb, cb, rfl⟩ := hv4.slice
             have HO5 := hid (HO4.out.kept hk4 hr4)
             have HV5 := hid hv4
             have HVA := hid ((HV2D.out.kt HK3.out).kt hk4)
             have HJ := hid (joinedA_any (.slice Aa na ca, a) (.slice Ab nb cb, b) _ _ (rd_two HVA.out HV5.out) (fun k hk => by
               simp only [List.mem_cons, List.not_mem_nil, or_false] at hk
               rcases hk with rfl | rfl
               · exact ⟨by simp only; omega, by simp only; omega⟩
               · exact ⟨by simp only; omega, by simp only; omega⟩))
             have hM4 := hk4.2 _ _ HM3.out (by omega) (by intro c fz he; injection he with _ h5; exact absurd h5 (by decide))
             have o0 : ∀ j, w4.cell? ⟨w1.heap.size, j, none⟩ = #[Value.slice Aa na ca, .int .i64 (a.nodes : Int), .int .i64 (a.deep : Int)][j]? := fun j => Lib.cell_of_heap hM4 j
             clear hv4 hr4 hk4 hM4
             unfold trV)
          | (go_simp; go_at_call 48; refine (HJ.out).mono ?_; rintro e w5 ⟨v, rfl, hv5, hb5⟩
             have HB5 := hid ((below_new (w := w4) _).trans (hb5.mono (by simp)))
             have HO6 := hid (HO5.out.below HB5.out)
             have HV6 := hid (hv5.more (B' := P + 1) (by have := HO5.out.rr.lt; simp; omega))
             obtain ⟨Av, nv, cv, rfl⟩ := hv5.slice
             obtain ⟨k0, y0⟩ := HO6.out.cells
             clear hv5 hb5
             unfold trV))
        all_goals go_wp2
        all_goals (
          refine bodyPost_ret (v := trV (T.arrT a b) (.slice Av nv cv)) ?_ rfl ?_
          · simp [trV, results, Try.results38, k0, go_sem]
          · exact HO6.out.put HV6.out HEQ2.out)

/-- What is one level on, at each level. -/
def optF (l : List T.Tk) : Nat → Option T.P
  | 0 => none
  | d + 1 => some (T.typeF l d)
theorem typeF_opt (l : List T.Tk) (d : Nat) : T.typeF l d = T.wholeF l (optF l d) := by cases d <;> rfl

theorem typeWalk_any {l : List T.Tk} {vt : Value} {P : Nat} (hts : ∀ p, (tokAt l p).text.size ≤ 2000000) : ∀ (d : Nat) (lv : Int), 1 ≤ lv → 100 - lv.toNat = d → ∀ s w, Rr l vt P s w →
    Calls Try.prog 38 #[.pointer (some ⟨P, 0, none⟩), .int .i64 lv] w (ReadPost l vt P (T.typeF l d s) w) := by
  intro d
  induction d with
  | zero =>
    intro lv h1 h2 s w h
    rw [typeF_opt]
    exact arrow_walk hts lv h1 _ (Or.inl ⟨by omega, rfl⟩) s w h
  | succ d ih =>
    intro lv h1 h2 s w h
    rw [typeF_opt]
    refine arrow_walk hts lv h1 _ (Or.inr ⟨by omega, _, rfl, T.typeF_got l d, fun s w h => ih (lv + 1) (by omega) (by omega) s w h⟩) s w h

end Go.Proofs.Ytgghmhgbdknkaaa
end

section
/-
  The deferred closure of whole: in a frame that panics with a fault it lays the fault, and no type; in one that returns it does nothing. Conditions: the two variables that it catches read as they should.
-/
namespace Go.Proofs.Ytgghmhgbdknkaaa
open Go.RowKit

set_option maxHeartbeats 2000000 in
theorem whole1_idle (T F : Nat) (w : World) :
    CallsD Try.prog 37 #[.pointer (some ⟨T, 0, none⟩), .pointer (some ⟨F, 0, none⟩)] .returning w fun e u' w' => e = .returned (.tuple #[]) ∧ u' = .returning ∧ w' = w := by
  refine callsD_of_wpS Try.func37 rfl fun c₀ cs hu => ?_
  apply wpS_seq
  apply wpS_region
  simp [wpOpsS, go_sem, recoverD, hu, Try.ntmps37, Exit.thenS]
  refine wpS_of_wp ?_
  simp [Array.replicate]
  go_wp2
  cases c₀
  simp_all [bodyPostS, results, Try.results37]

theorem frozen_below {B : Nat} {w w' : World} {p : Addr} (h : Below B w w') (hp : p.block < B) : w'.frozen? p = w.frozen? p := by
  unfold World.frozen?
  rw [h.block _ hp]

/-- What the closure leaves where it has caught a fault. -/
def Caught (T F : Nat) (p : Nat) (er : Int) (w w' : World) : Prop :=
  w'.cell? ⟨T, 0, none⟩ = some (.slice none 0 0) ∧ w'.cell? ⟨F, 0, none⟩ = some (.int .i64 (p : Int)) ∧ w'.cell? ⟨F, 1, none⟩ = some (.int .i64 er) ∧ Below T w w' ∧ ∀ k o, w.heap[k]? = some o → k ≠ T → k ≠ F → w'.heap[k]? = some o

theorem caught_put {T F : Nat} {p : Nat} {er : Int} {w w2 : World} {v v0 v1 : Value} {t1 t2 : TypeId} (hT : w.heap[T]? = some (.cells #[v] t1 (0, 0))) (hF : w.heap[F]? = some (.cells #[v0, v1] t2 (0, 0))) (hTF : T < F)
    (h : Below w.heap.size (((w.setCell ⟨T, 0, none⟩ (.slice none 0 0)).setCell ⟨F, 0, none⟩ (.int .i64 (p : Int))).setCell ⟨F, 1, none⟩ (.int .i64 er)) w2) : Caught T F p er w w2 := by
  have hTl := heap_lt hT
  have hFl := heap_lt hF
  have hB1 : Below T w (w.setCell ⟨T, 0, none⟩ (.slice none 0 0)) := (Below.refl T w).setCell (p := ⟨T, 0, none⟩) (Nat.le_refl _) _
  have e1 : (w.setCell ⟨T, 0, none⟩ (.slice none 0 0)).heap[T]? = _ := heap_setCell_same w T 0 _ _ _ hT
  have e2 := (heap_setCell_other w ⟨T, 0, none⟩ F (.slice none 0 0) (by simp; omega)).trans hF
  have k1 : ∀ k o, w.heap[k]? = some o → k ≠ T → k ≠ F → (w.setCell ⟨T, 0, none⟩ (.slice none 0 0)).heap[k]? = some o := fun k o hk h1 _ => (heap_setCell_other w ⟨T, 0, none⟩ k _ h1).trans hk
  have s1 : (w.setCell ⟨T, 0, none⟩ (.slice none 0 0)).heap.size = w.heap.size := by simp [World.setCell]
  generalize w.setCell ⟨T, 0, none⟩ (.slice none 0 0) = u1 at *
  have hB2 : Below T w (u1.setCell ⟨F, 0, none⟩ (.int .i64 (p : Int))) := hB1.setCell (p := ⟨F, 0, none⟩) (by simp; omega) _
  have f1 := (heap_setCell_other u1 ⟨F, 0, none⟩ T (.int .i64 (p : Int)) (by simp; omega)).trans e1
  have f2 : (u1.setCell ⟨F, 0, none⟩ (.int .i64 (p : Int))).heap[F]? = _ := heap_setCell_same u1 F 0 _ _ _ e2
  have k2 : ∀ k o, w.heap[k]? = some o → k ≠ T → k ≠ F → (u1.setCell ⟨F, 0, none⟩ (.int .i64 (p : Int))).heap[k]? = some o := fun k o hk h1 h2 => (heap_setCell_other u1 ⟨F, 0, none⟩ k _ h2).trans (k1 k o hk h1 h2)
  have s2 : (u1.setCell ⟨F, 0, none⟩ (.int .i64 (p : Int))).heap.size = w.heap.size := by rw [← s1]; simp [World.setCell]
  generalize u1.setCell ⟨F, 0, none⟩ (.int .i64 (p : Int)) = u2 at *
  have hB3 : Below T w (u2.setCell ⟨F, 1, none⟩ (.int .i64 er)) := hB2.setCell (p := ⟨F, 1, none⟩) (by simp; omega) _
  have g1 := (heap_setCell_other u2 ⟨F, 1, none⟩ T (.int .i64 er) (by simp; omega)).trans f1
  have g2 : (u2.setCell ⟨F, 1, none⟩ (.int .i64 er)).heap[F]? = _ := heap_setCell_same u2 F 1 _ _ _ f2
  have k3 : ∀ k o, w.heap[k]? = some o → k ≠ T → k ≠ F → (u2.setCell ⟨F, 1, none⟩ (.int .i64 er)).heap[k]? = some o := fun k o hk h1 h2 => (heap_setCell_other u2 ⟨F, 1, none⟩ k _ h2).trans (k2 k o hk h1 h2)
  generalize u2.setCell ⟨F, 1, none⟩ (.int .i64 er) = u3 at *
  refine ⟨?_, ?_, ?_, hB3.trans (h.mono (by omega)), fun k o hk h1 h2 => (h.block k (heap_lt hk)).trans (k3 k o hk h1 h2)⟩
  · rw [h.cell (p := ⟨T, 0, none⟩) hTl, Lib.cell_of_heap g1]; simp
  · rw [h.cell (p := ⟨F, 0, none⟩) hFl, Lib.cell_of_heap g2]; simp
  · rw [h.cell (p := ⟨F, 1, none⟩) hFl, Lib.cell_of_heap g2]; simp

set_option maxHeartbeats 2000000 in
set_option maxRecDepth 100000 in
theorem whole1_caught (T F : Nat) (p : Nat) (er : Int) (older : List PanicEntry) (w : World) (v v0 v1 : Value) (t1 t2 : TypeId) (hT : w.heap[T]? = some (.cells #[v] t1 (0, 0))) (hF : w.heap[F]? = some (.cells #[v0, v1] t2 (0, 0))) (hTF : T < F) :
    CallsD Try.prog 37 #[.pointer (some ⟨T, 0, none⟩), .pointer (some ⟨F, 0, none⟩)] (.panicking ({ v := .iface 59 (.agg #[.int .i64 (p : Int), .int .i64 er]), recovered := false } :: older)) w fun e u' w' =>
      e = .returned (.tuple #[]) ∧ u' = .panicking ({ v := .iface 59 (.agg #[.int .i64 (p : Int), .int .i64 er]), recovered := true } :: older) ∧ Caught T F p er w w' := by
  have HC := hid (fun w2 h => caught_put (w2 := w2) (p := p) (er := er) hT hF hTF h)
  have hB0 : Below w.heap.size w (w.alloc (.cells #[.int .i64 (p : Int), .int .i64 er] 59)) := below_new _
  have gT := (hB0.block _ (heap_lt hT)).trans hT
  have gF := (hB0.block _ (heap_lt hF)).trans hF
  have c1 : (w.alloc (.cells #[.int .i64 (p : Int), .int .i64 er] 59)).cell? ⟨T, 0, none⟩ = some v := Lib.cell_of_heap gT 0
  have c2 : (w.alloc (.cells #[.int .i64 (p : Int), .int .i64 er] 59)).cell? ⟨F, 0, none⟩ = some v0 := Lib.cell_of_heap gF 0
  have c3 : (w.alloc (.cells #[.int .i64 (p : Int), .int .i64 er] 59)).cell? ⟨F, 1, none⟩ = some v1 := Lib.cell_of_heap gF 1
  have z1 : ∀ i, (w.alloc (.cells #[.int .i64 (p : Int), .int .i64 er] 59)).frozen? ⟨T, i, none⟩ = false := fun i => Lib.frozen_of_heap gT i
  have z2 : ∀ i, (w.alloc (.cells #[.int .i64 (p : Int), .int .i64 er] 59)).frozen? ⟨F, i, none⟩ = false := fun i => Lib.frozen_of_heap gF i
  have hTw := heap_lt hT
  have hFw := heap_lt hF
  have b1 : w.cell? ⟨T, 0, none⟩ = some v := Lib.cell_of_heap hT 0
  have b2 : w.cell? ⟨F, 0, none⟩ = some v0 := Lib.cell_of_heap hF 0
  have b3 : w.cell? ⟨F, 1, none⟩ = some v1 := Lib.cell_of_heap hF 1
  have y1 : ∀ i, w.frozen? ⟨T, i, none⟩ = false := fun i => Lib.frozen_of_heap hT i
  have y2 : ∀ i, w.frozen? ⟨F, i, none⟩ = false := fun i => Lib.frozen_of_heap hF i
  clear hT hF gT gF hB0
  refine callsD_of_wpS Try.func37 rfl fun c₀ cs hu => ?_
  apply wpS_seq
  apply wpS_region
  simp [wpOpsS, go_sem, recoverD, hu, Try.ntmps37, Exit.thenS]
  refine wpS_of_wp ?_
  simp [Array.replicate]
  have hta : ∀ (p er : Int) (w : World), (Instr.typeAssert (Value.iface 59 (.agg #[.int .i64 p, .int .i64 er])) 20 59 true).run Try.prog w = .ok (.tuple #[.agg #[.int .i64 p, .int .i64 er], .bool true]) w := fun _ _ _ => by kernel_rfl
  go_wp2
  go_region
  all_goals go_wp2
  all_goals (
    have HX := hid (HC.out _ (((below_new (w := (((w.setCell ⟨T, 0, none⟩ (.slice none 0 0)).setCell ⟨F, 0, none⟩ (.int .i64 (p : Int))).setCell ⟨F, 1, none⟩ (.int .i64 er))) (.cells #[.int .i64 (p : Int), .int .i64 er] 59)).mono (by simp [World.setCell])).drew))
    clear HC c1 c2 c3 z1 z2 b1 b2 b3 y1 y2 hta
    cases c₀
    simp [bodyPostS, results, Try.results37]
    exact HX.out)

end Go.Proofs.Ytgghmhgbdknkaaa
end

section
/-
  The walk of whole: what is read as far as may be, or what is wrong and where, by the panic that the deferred closure catches. Conditions: the reader's own variable reads as it should; texts of tokens of at most 2000000 bytes.
-/
namespace Go.Proofs.Ytgghmhgbdknkaaa
open Go.RowKit

/-- What whole reads. -/
def wF (l : List T.Tk) (d : Nat) (s : T.S) : T.R T.Tr :=
  match T.typeF l d s with
  | .bad p e => .bad p e
  | .ok t s' => if 10000 < t.nodes then .bad s.pl 3 else if 100 < t.deep then .bad s.pl 4 else .ok t s'

/-- What whole tells. -/
def WholePost (l : List T.Tk) (vt : Value) (P : Nat) (r : T.R T.Tr) (w : World) (e : Ending) (w' : World) : Prop :=
  KT P w w' ∧ ((∃ (p : Nat) (er : Int), r = .bad p er ∧ e = .returned (.tuple #[.slice none 0 0, .agg #[.int .i64 (p : Int), .int .i64 er]])) ∨
    ∃ t s', r = .ok t s' ∧ Fits t ∧ ∃ v, e = .returned (.tuple #[v, .agg #[.int .i64 0, .int .i64 0]]) ∧ Own (P + 1) v t.flat w' ∧ Rr l vt P s' w')

/-- The two results are laid. -/
def putTF (w : World) (T F : Nat) (v : Value) : World := ((w.setCell ⟨T, 0, none⟩ v).setCell ⟨F, 0, none⟩ (.int .i64 0)).setCell ⟨F, 1, none⟩ (.int .i64 0)

theorem putTF_stays {l : List T.Tk} {vt : Value} {P M F : Nat} {s : T.S} {w0 w : World} {v u : Value} {ns : List L.Nd} {x a b : Value} (hT : w.heap[M]? = some (.cells #[x] 23 (0, 0))) (hF : w.heap[F]? = some (.cells #[a, b] 59 (0, 0))) (hTF : M ≠ F)
    (hr : Rr l vt P s w) (ho : Own (P + 1) u ns w) (hk : KT P w0 w) (h1 : w0.heap.size ≤ M) (h2 : w0.heap.size ≤ F) (h3 : P < w0.heap.size) :
    (putTF w M F v).cell? ⟨M, 0, none⟩ = some v ∧ (putTF w M F v).cell? ⟨F, 0, none⟩ = some (.int .i64 0) ∧ (putTF w M F v).cell? ⟨F, 1, none⟩ = some (.int .i64 0) ∧
    Rr l vt P s (putTF w M F v) ∧ Own (P + 1) u ns (putTF w M F v) ∧ KT P w0 (putTF w M F v) := by
  unfold putTF
  have r1 := hr.put (by omega) hT (by decide) (grownBy_cell w M 0 v)
  have o1 : Own (P + 1) u ns _ := row_put ho hT (by decide) (grownBy_cell w M 0 v)
  have k1 := hk.put h1 (Nat.le_of_lt h3) (grownBy_cell w M 0 v)
  have e1 : (w.setCell ⟨M, 0, none⟩ v).heap[M]? = _ := heap_setCell_same w M 0 _ _ _ hT
  have e2 : (w.setCell ⟨M, 0, none⟩ v).heap[F]? = _ := (heap_setCell_other w ⟨M, 0, none⟩ F v (by simp; omega)).trans hF
  generalize w.setCell ⟨M, 0, none⟩ v = w1 at *
  have r2 := r1.put (by omega) e2 (by decide) (grownBy_cell w1 F 0 (.int .i64 0))
  have o2 : Own (P + 1) u ns _ := row_put o1 e2 (by decide) (grownBy_cell w1 F 0 (.int .i64 0))
  have k2 := k1.put h2 (Nat.le_of_lt h3) (grownBy_cell w1 F 0 (.int .i64 0))
  have f1 : (w1.setCell ⟨F, 0, none⟩ (.int .i64 0)).heap[M]? = _ := (heap_setCell_other w1 ⟨F, 0, none⟩ M _ (by simp; omega)).trans e1
  have f2 : (w1.setCell ⟨F, 0, none⟩ (.int .i64 0)).heap[F]? = _ := heap_setCell_same w1 F 0 _ _ _ e2
  generalize w1.setCell ⟨F, 0, none⟩ (.int .i64 0) = w2 at *
  have r3 := r2.put (by omega) f2 (by decide) (grownBy_cell w2 F 1 (.int .i64 0))
  have o3 : Own (P + 1) u ns _ := row_put o2 f2 (by decide) (grownBy_cell w2 F 1 (.int .i64 0))
  have k3 := k2.put h2 (Nat.le_of_lt h3) (grownBy_cell w2 F 1 (.int .i64 0))
  have g1 : (w2.setCell ⟨F, 1, none⟩ (.int .i64 0)).heap[M]? = _ := (heap_setCell_other w2 ⟨F, 1, none⟩ M _ (by simp; omega)).trans f1
  have g2 : (w2.setCell ⟨F, 1, none⟩ (.int .i64 0)).heap[F]? = _ := heap_setCell_same w2 F 1 _ _ _ f2
  refine ⟨?_, ?_, ?_, r3, o3, k3⟩
  · rw [Lib.cell_of_heap g1]; simp
  · rw [Lib.cell_of_heap g2]; simp
  · rw [Lib.cell_of_heap g2]; simp

theorem KT.caught {P T F p : Nat} {er : Int} {w0 w w' : World} (h : KT P w0 w) (hc : Caught T F p er w w') (hT : w0.heap.size ≤ T ∧ P ≤ T) (hF : w0.heap.size ≤ F) : KT P w0 w' := by
  obtain ⟨-, -, -, hb, hk⟩ := hc
  exact ⟨h.1.trans (hb.mono hT.2), fun k o hko h1 h2 => hk k o (h.2 k o hko h1 h2) (by have := heap_lt hko; omega) (by have := heap_lt hko; omega)⟩

set_option maxHeartbeats 8000000 in
set_option maxRecDepth 100000 in
theorem whole_any {l : List T.Tk} {vt : Value} {P : Nat} (hts : ∀ p, (tokAt l p).text.size ≤ 2000000) (d : Nat) (lv : Int) (h0 : 1 ≤ lv) (hd : 100 - lv.toNat = d) (s : T.S) (w : World) (h : Rr l vt P s w) :
    Calls Try.prog 27 #[.pointer (some ⟨P, 0, none⟩), .int .i64 lv] w (WholePost l vt P (wF l d s) w) := by
  have hP := h.lt
  have hll : l.length ≤ 1000000 := by obtain ⟨-, -, ⟨_, _, _, h2, _⟩, -⟩ := h; exact h2
  have hs0 : 0 ≤ s.site := by obtain ⟨-, h2, -⟩ := h; exact h2.1
  have hpl : s.pl ≤ 1000000 := by obtain ⟨h1, -⟩ := h; omega
  have hB1 := below_new (w := w) (.cells #[.slice none 0 0] 23)
  have hB2 := below_new (w := w.alloc (.cells #[.slice none 0 0] 23)) (.cells #[.int .i64 0, .int .i64 0] 59)
  have hB := hB1.trans (hB2.mono (by simp))
  have hT : ((w.alloc (.cells #[.slice none 0 0] 23)).alloc (.cells #[.int .i64 0, .int .i64 0] 59)).heap[w.heap.size]? = some (.cells #[.slice none 0 0] 23 (0, 0)) := (hB2.block _ (by simp)).trans (heap_alloc_new w _)
  have hF : ((w.alloc (.cells #[.slice none 0 0] 23)).alloc (.cells #[.int .i64 0, .int .i64 0] 59)).heap[w.heap.size + 1]? = some (.cells #[.int .i64 0, .int .i64 0] 59 (0, 0)) := by
    have := heap_alloc_new (w.alloc (.cells #[.slice none 0 0] 23)) (.cells #[.int .i64 0, .int .i64 0] 59)
    rw [show (w.alloc (.cells #[.slice none 0 0] 23)).heap.size = w.heap.size + 1 by simp] at this
    exact this
  have hR0 := h.below hB
  have HB := hid hB
  have HT := hid hT
  have HF := hid hF
  have HR0 := hid hR0
  have HAR := hid (typeWalk_any hts d lv h0 hd s _ hR0)
  obtain ⟨vs, c0, c1, c2, c3, -, hf⟩ := h.cells
  have HGT := hid (T.typeF_got l d)
  have hmf : ∀ (fn : Fn) (first cap : Array Value) (w : World), (Instr.makeFunc fn first cap).run Try.prog w = .ok (.func fn first cap) w := fun _ _ _ _ => rfl
  clear h hts hB1 hB2 hB hT hF hR0
  go_enter_defers Try.func27, Try.ntmps27
  go_wp2_with fail
  refine (HAR.out).mono ?_
  rintro e w1 ⟨hk1, h1⟩
  have hT1 := hk1.2 _ _ HT.out (by omega) (by intro c fz he; injection he with _ h5; exact absurd h5 (by decide))
  have hF1 := hk1.2 _ _ HF.out (by omega) (by intro c fz he; injection he with _ h5; exact absurd h5 (by decide))
  rcases h1 with ⟨p, er, hb1, rfl⟩ | ⟨t, s1, hb1, v, rfl, hv1, hr1⟩
  · have HEQ : Hid (wF l d s = .bad p er) := hid (by unfold wF; rw [hb1])
    have HW := hid (fun older => whole1_caught w.heap.size (w.heap.size + 1) p er older w1 _ _ _ _ _ hT1 hF1 (by omega))
    have HKT := hid ((KT.of_below HB.out (Nat.le_of_lt hP)).trans hk1)
    clear hb1 hk1
    unfold faultE
    go_wp2
    refine leaves_cons (f := 37) (args := #[.pointer (some ⟨w.heap.size, 0, none⟩), .pointer (some ⟨w.heap.size + 1, 0, none⟩)]) (by simp) (by simp [go_sem]) ?_
    refine (HW.out []).mono ?_
    rintro e u' w2 ⟨rfl, rfl, hc⟩
    have HC := hid hc
    obtain ⟨q0, q1, q2, -⟩ := hc
    simp [Leaves, settle, results, Try.results27, go_sem, q0, q1, q2]
    exact ⟨HKT.out.caught HC.out (by omega) (by omega), Or.inl ⟨p, er, HEQ.out, rfl⟩⟩
  · have hgt := HGT.out s hs0 t s1 hb1
    have hnt : t.nodes ≤ 1000000 := by have h1 := hgt.nodes; have h2 := hgt.le; omega
    have hdt : t.deep ≤ 1000000 := Nat.le_trans (deep_nodes t) hnt
    obtain ⟨Av, nv, cv, rfl⟩ := hv1.slice
    obtain ⟨LM, HLM, hLM⟩ : ∃ LM : Int, Hid (∀ w, Calls Try.prog 39 #[.agg #[.slice Av nv cv, .int .i64 (t.nodes : Int), .int .i64 (t.deep : Int)]] w fun e w' => e = .returned (.int .i64 LM) ∧ Below w.heap.size w w') ∧
        ((Fits t ∧ LM = 0 ∧ wF l d s = .ok t s1) ∨ (¬ Fits t ∧ (LM != 0) = true ∧ wF l d s = .bad s.pl LM)) := by
      refine ⟨_, hid (fun w => limit_any _ _ _ w), ?_⟩
      unfold wF
      rw [hb1]
      simp only
      by_cases h1 : 10000 < t.nodes
      · rw [if_pos (by omega), if_pos h1]
        exact Or.inr ⟨fun h => by have := h.1; omega, rfl, rfl⟩
      · rw [if_neg (by omega), if_neg h1]
        by_cases h2 : 100 < t.deep
        · rw [if_pos (by omega), if_pos h2]
          exact Or.inr ⟨fun h => by have := h.2; omega, rfl, rfl⟩
        · rw [if_neg (by omega), if_neg h2]
          exact Or.inl ⟨⟨by omega, by omega⟩, rfl, rfl⟩
    have HB1 := hid (below_new (w := w1) (.cells #[.slice Av nv cv, .int .i64 (t.nodes : Int), .int .i64 (t.deep : Int)] 73))
    have HM1 := hid (heap_alloc_new w1 (.cells #[.slice Av nv cv, .int .i64 (t.nodes : Int), .int .i64 (t.deep : Int)] 73))
    have HR1 := hid hr1
    have HV1 := hid hv1
    have HT1 := hid hT1
    have HF1 := hid hF1
    have HKT1 := hid ((KT.of_below HB.out (Nat.le_of_lt hP)).trans hk1)
    have hw1 : w.heap.size + 1 < w1.heap.size := heap_lt hF1
    clear hb1 hk1 hr1 hv1 hT1 hF1 hgt HAR
    unfold trV
    go_wp2_with fail
    refine (HLM.out _).mono ?_
    rintro e w2 ⟨rfl, h2⟩
    have HB2 := hid (HB1.out.trans (h2.mono HB1.out.size))
    have hT2 := (HB2.out.block _ (heap_lt HT1.out)).trans HT1.out
    have hF2 := (HB2.out.block _ (heap_lt HF1.out)).trans HF1.out
    have hM2 := (h2.block _ (heap_lt HM1.out)).trans HM1.out
    have m0 : ∀ j, w2.cell? ⟨w1.heap.size, j, none⟩ = #[Value.slice Av nv cv, .int .i64 (t.nodes : Int), .int .i64 (t.deep : Int)][j]? := fun j => Lib.cell_of_heap hM2 j
    have HKT2 := hid (HKT1.out.trans (KT.of_below HB2.out (Nat.le_of_lt HR1.out.lt)))
    rcases hLM with ⟨hf, rfl, hw⟩ | ⟨hf, hlm, hw⟩
    · have HEQ := hid hw
      have HFT := hid hf
      have HR2 := hid (HR1.out.below HB2.out)
      have HO2 := hid ((HV1.out.1 hf).below HB2.out)
      have HT2 := hid hT2
      have HF2 := hid hF2
      have t0 : ∀ j, w2.cell? ⟨w.heap.size, j, none⟩ = #[Value.slice none 0 0][j]? := fun j => Lib.cell_of_heap hT2 j
      have f0 : ∀ j, w2.cell? ⟨w.heap.size + 1, j, none⟩ = #[Value.int .i64 0, .int .i64 0][j]? := fun j => Lib.cell_of_heap hF2 j
      have t1 : ∀ j, w2.frozen? ⟨w.heap.size, j, none⟩ = false := fun j => Lib.frozen_of_heap hT2 j
      have f1 : ∀ j, w2.frozen? ⟨w.heap.size + 1, j, none⟩ = false := fun j => Lib.frozen_of_heap hF2 j
      clear hw hT2 hF2 hM2 h2
      go_wp2
      refine leaves_cons (f := 37) (args := #[.pointer (some ⟨w.heap.size, 0, none⟩), .pointer (some ⟨w.heap.size + 1, 0, none⟩)]) (by simp) (by simp [go_sem]) ?_
      refine (whole1_idle w.heap.size (w.heap.size + 1) _).mono ?_
      rintro e u' w3 ⟨rfl, rfl, rfl⟩
      have HP := hid (putTF_stays (v := .slice Av nv cv) HT2.out HF2.out (by omega) HR2.out HO2.out HKT2.out (Nat.le_refl _) (by omega) hP)
      obtain ⟨q0, q1, q2, -⟩ := HP.out
      unfold putTF at q0 q1 q2
      clear t0 f0 t1 f1 m0 c0 c1 c2 c3 hf
      simp [Leaves, settle, results, Try.results27, go_sem, q0, q1, q2]
      exact ⟨HP.out.2.2.2.2.2, Or.inr ⟨t, s1, HEQ.out, HFT.out, .slice Av nv cv, rfl, HP.out.2.2.2.2.1, HP.out.2.2.2.1⟩⟩
    · have HEQ := hid hw
      have HW := hid (fun older => whole1_caught w.heap.size (w.heap.size + 1) s.pl LM older w2 _ _ _ _ _ hT2 hF2 (by omega))
      clear hw hT2 hF2 hM2 h2
      go_wp2
      refine leaves_cons (f := 37) (args := #[.pointer (some ⟨w.heap.size, 0, none⟩), .pointer (some ⟨w.heap.size + 1, 0, none⟩)]) (by simp) (by simp [go_sem]) ?_
      refine (HW.out []).mono ?_
      rintro e u' w3 ⟨rfl, rfl, hc⟩
      have HC := hid hc
      obtain ⟨q0, q1, q2, -⟩ := hc
      simp [Leaves, settle, results, Try.results27, go_sem, q0, q1, q2]
      exact ⟨HKT2.out.caught HC.out (by omega) (by omega), Or.inl ⟨s.pl, LM, HEQ.out, rfl⟩⟩

end Go.Proofs.Ytgghmhgbdknkaaa
end

section
/-
  Plain lists: where typeF tells that something is wrong, and what: a place up to the end, an error that is none of 0. No conditions but those that each lemma names.
-/
namespace Go.Proofs.Ytgghmhgbdknkaaa.T
open Go

def Err (l : List Tk) (p : Nat) (e : Int) : Prop := 0 < e ∧ e < 100 ∧ p ≤ l.length
def BadP (l : List Tk) (A : P) : Prop := ∀ s, 0 ≤ s.site → s.pl ≤ l.length → ∀ p e, A s = .bad p e → Err l p e

theorem bind_bad2 {α β : Type} {r : R α} {f : α → S → R β} {p : Nat} {e : Int} (h : r.bind f = .bad p e) : r = .bad p e ∨ ∃ a s1, r = .ok a s1 ∧ f a s1 = .bad p e := by
  cases r with
  | ok a s1 => exact Or.inr ⟨a, s1, rfl, h⟩
  | bad q g =>
    injection h with h1 h2
    subst h1
    subst h2
    exact Or.inl rfl

theorem bad_err {α : Type} {l : List Tk} {q p : Nat} {f e : Int} (h : (R.bad q f : R α) = .bad p e) (h1 : 0 < f) (h2 : f < 100) (h3 : q ≤ l.length) : Err l p e := by
  injection h with h4 h5
  subst h4
  subst h5
  exact ⟨h1, h2, h3⟩

theorem take_err {l : List Tk} {s : S} {k : ByteArray} {p : Nat} {e : Int} (hs : s.pl ≤ l.length) (h : take l s k = .bad p e) : Err l p e := by
  unfold take at h
  split at h
  · cases h
  · exact bad_err h (by decide) (by decide) hs

theorem rowF_bad {l : List Tk} {A : P} (hA : BadP l A) (hG : GoodP l A) {kind : Int} : ∀ (n : Nat) (acc : List (ByteArray × Tr)), BadP l (rowF l A kind n acc) := by
  intro n
  induction n with
  | zero =>
    intro acc s h0 hs p e h
    unfold rowF at h
    cases hl : isLab l kind s.pl with
    | none => rw [hl] at h; exact bad_err h (by decide) (by decide) hs
    | some t =>
      rw [hl] at h
      simp only at h
      split at h
      · exact bad_err h (by decide) (by decide) hs
      · exact bad_err h (by decide) (by decide) hs
  | succ n ih =>
    intro acc s h0 hs p e h
    unfold rowF at h
    cases hl : isLab l kind s.pl with
    | none => rw [hl] at h; exact bad_err h (by decide) (by decide) hs
    | some t =>
      have hlt := (isLab_ok hl).2
      rw [hl] at h
      simp only at h
      split at h
      · exact bad_err h (by decide) (by decide) hs
      · rcases bind_bad2 h with h1 | ⟨_, s1, h1, h2⟩
        · exact take_err (by simp only; omega) h1
        · obtain ⟨rfl, h3⟩ := take_ok h1
          rcases bind_bad2 h2 with h4 | ⟨x, s2, h4, h5⟩
          · exact hA _ (by exact h0) (by exact Nat.succ_le_of_lt h3) p e h4
          · have hg := hG _ (by exact h0) x s2 h4
            have h02 : 0 ≤ s2.site := hg.went.site h0
            split at h5
            · rename_i hsg
              exact ih _ _ (by exact h02) (by exact Nat.succ_le_of_lt (isSign_lt hsg)) p e h5
            · rcases bind_bad2 h5 with h6 | ⟨_, s3, h6, h7⟩
              · exact take_err hg.le h6
              · cases h7

theorem operF_bad {l : List Tk} {A : Option P} (hA : ∀ B, A = some B → BadP l B ∧ GoodP l B) : BadP l (operF l A) := by
  intro s h0 hs p e h
  unfold operF at h
  cases hl : l[s.pl]? with
  | none => rw [hl] at h; exact bad_err h (by decide) (by decide) hs
  | some t =>
    have hlt : s.pl < l.length := by
      rcases Nat.lt_or_ge s.pl l.length with h1 | h1
      · exact h1
      · rw [List.getElem?_eq_none h1] at hl; cases hl
    rw [hl] at h
    simp only at h
    split at h
    · cases h
    · split at h
      · cases A with
        | none => exact bad_err h (by decide) (by decide) hs
        | some B =>
          obtain ⟨h1, h2⟩ := hA B rfl
          simp only at h
          rcases bind_bad2 h with h3 | ⟨x, s1, h3, h4⟩
          · exact h1 _ (by exact h0) (by exact Nat.succ_le_of_lt hlt) p e h3
          · have hg := h2 _ (by exact h0) x s1 h3
            rcases bind_bad2 h4 with h5 | ⟨_, s2, h5, h6⟩
            · exact take_err hg.le h5
            · cases h6
      · split at h
        · cases A with
          | none => exact bad_err h (by decide) (by decide) hs
          | some B =>
            obtain ⟨h1, h2⟩ := hA B rfl
            simp only at h
            split at h
            · cases h
            · exact rowF_bad h1 h2 50 [] _ (by exact h0) (by exact Nat.succ_le_of_lt hlt) p e h
        · split at h
          · cases A with
            | none => exact bad_err h (by decide) (by decide) hs
            | some B =>
              obtain ⟨h1, h2⟩ := hA B rfl
              simp only at h
              exact rowF_bad h1 h2 50 [] _ (by exact h0) (by exact Nat.succ_le_of_lt hlt) p e h
          · split at h
            · exact bad_err h (by decide) (by decide) hs
            · cases h

theorem wholeF_bad2 {l : List Tk} {A : Option P} (hA : ∀ B, A = some B → BadP l B ∧ GoodP l B) : BadP l (wholeF l A) := by
  intro s h0 hs p e h
  unfold wholeF at h
  rcases bind_bad2 h with h1 | ⟨a, s1, h1, h2⟩
  · exact operF_bad hA s h0 hs p e h1
  · have hg := operF_got (fun B hB => (hA B hB).2) s h0 a s1 h1
    have h01 : 0 ≤ s1.site := hg.went.site h0
    split at h2
    · rename_i hsg
      cases A with
      | none => exact bad_err h2 (by decide) (by decide) hg.le
      | some B =>
        obtain ⟨h3, h4⟩ := hA B rfl
        simp only at h2
        rcases bind_bad2 h2 with h5 | ⟨b, s2, h5, h6⟩
        · exact h3 _ (by exact h01) (by exact Nat.succ_le_of_lt (isSign_lt hsg)) p e h5
        · cases h6
    · cases h2

theorem typeF_bad (l : List Tk) : ∀ d : Nat, BadP l (typeF l d)
  | 0 => wholeF_bad2 (fun B hB => by cases hB)
  | d + 1 => wholeF_bad2 (fun B hB => by injection hB with hB; subst hB; exact ⟨typeF_bad l d, typeF_got l d⟩)

end Go.Proofs.Ytgghmhgbdknkaaa.T
end

section
/-
  The walks of tread.Read and tread.Of: what readF says. Conditions: at most 1000000 tokens, of texts of at most 2000000 bytes each; a site of at most 1000000000000000000.
-/
namespace Go.Proofs.Ytgghmhgbdknkaaa
open Go.RowKit

/-- What Read tells. -/
def OutV (B : Nat) (o : T.Out) (w : World) (e : Ending) : Prop :=
  match o with
  | .bad p er => e = .returned (.tuple #[.slice none 0 0, .int .i64 0, .slice none 0 0, .int .i64 (p : Int), .int .i64 er])
  | .ok t n ss => ∃ v vs, e = .returned (.tuple #[v, .int .i64 (n : Int), vs, .int .i64 0, .int .i64 0]) ∧ Own B v t.flat w ∧ OwnSi B vs ss w

theorem readF_w (l : List T.Tk) (p site lv : Int) (h : ¬ (p < 0 ∨ site < 1 ∨ lv < 1)) : T.readF l p site lv = match wF l (100 - lv.toNat) ⟨min p.toNat l.length, site, []⟩ with
    | .bad q e => .bad q e
    | .ok t s => .ok t s.pl s.sites := by
  unfold T.readF wF
  rw [if_neg h]
  simp only
  cases T.typeF l (100 - lv.toNat) ⟨min p.toNat l.length, site, []⟩ with
  | bad q e => rfl
  | ok t s =>
    simp only
    by_cases h1 : 10000 < t.nodes
    · rw [if_pos h1, if_pos h1]
    · rw [if_neg h1, if_neg h1]
      by_cases h2 : 100 < t.deep
      · rw [if_pos h2, if_pos h2]
      · rw [if_neg h2, if_neg h2]

theorem wF_err {l : List T.Tk} {d : Nat} {s : T.S} (h0 : 0 ≤ s.site) (hs : s.pl ≤ l.length) {p : Nat} {e : Int} (h : wF l d s = .bad p e) : T.Err l p e := by
  unfold wF at h
  cases hr : T.typeF l d s with
  | bad q f => rw [hr] at h; simp only at h; rw [h] at hr; exact T.typeF_bad l d s h0 hs p e hr
  | ok t s' =>
    rw [hr] at h
    simp only at h
    split at h
    · exact T.bad_err h (by decide) (by decide) hs
    · split at h
      · exact T.bad_err h (by decide) (by decide) hs
      · cases h

set_option maxHeartbeats 8000000 in
set_option maxRecDepth 100000 in
theorem read_any (l : List T.Tk) (hts : ∀ p, (tokAt l p).text.size ≤ 2000000) (vl : Value) (p site lv : Int) (hsite : site ≤ 1000000000000000000) (w : World) (hx : RdK w w.heap.size vl l) :
    Calls Try.prog 16 #[vl, .int .i64 p, .int .i64 site, .int .i64 lv] w fun e w' => Below w.heap.size w w' ∧ OutV w.heap.size (T.readF l p site lv) w' e := by
  obtain ⟨A, cap, rfl, hll, -⟩ := id hx
  by_cases h1 : p < 0
  · have HE : Hid (T.readF l p site lv = .bad 0 1) := hid (by unfold T.readF; rw [if_pos (Or.inl h1)])
    rw [HE.out]
    clear hx
    go_enter Try.func16, Try.ntmps16
    go_wp2
    exact bodyPost_ret (v := .tuple #[.slice none 0 0, .int .i64 0, .slice none 0 0, .int .i64 0, .int .i64 1]) (by simp [results, Try.results16, go_sem]) rfl ⟨Below.refl _ _, rfl⟩
  by_cases h2 : site < 1
  · have HE : Hid (T.readF l p site lv = .bad 0 1) := hid (by unfold T.readF; rw [if_pos (Or.inr (Or.inl h2))])
    rw [HE.out]
    clear hx
    go_enter Try.func16, Try.ntmps16
    go_wp2
    exact bodyPost_ret (v := .tuple #[.slice none 0 0, .int .i64 0, .slice none 0 0, .int .i64 0, .int .i64 1]) (by simp [results, Try.results16, go_sem]) rfl ⟨Below.refl _ _, rfl⟩
  by_cases h3 : lv < 1
  · have HE : Hid (T.readF l p site lv = .bad 0 1) := hid (by unfold T.readF; rw [if_pos (Or.inr (Or.inr h3))])
    rw [HE.out]
    clear hx
    go_enter Try.func16, Try.ntmps16
    go_wp2
    exact bodyPost_ret (v := .tuple #[.slice none 0 0, .int .i64 0, .slice none 0 0, .int .i64 0, .int .i64 1]) (by simp [results, Try.results16, go_sem]) rfl ⟨Below.refl _ _, rfl⟩
  have HE := hid (readF_w l p site lv (by omega))
  rw [HE.out]
  have hq : ((min p.toNat l.length : Nat) : Int) = min p (l.length : Int) := by omega
  have hql : min p.toNat l.length ≤ l.length := Nat.min_le_right _ _
  generalize min p.toNat l.length = q at *
  have HX := hid hx
  have HRR : Hid (∀ w1, Below w.heap.size w w1 → w1.heap[w.heap.size]? = some (.cells #[.slice A l.length cap, .int .i64 (min p (l.length : Int)), .int .i64 site, .slice none 0 0] 57 (0, 0)) → Rr l (.slice A l.length cap) w.heap.size ⟨q, site, []⟩ w1) := hid fun w1 hb hc =>
    ⟨hql, ⟨by simp only; omega, by simp only; omega⟩, HX.out.low hb, .slice none 0 0, by rw [hq]; exact hc, ⟨by simp [cellsSi], Or.inl ⟨rfl, rfl⟩⟩, by simp⟩
  have HWH := hid (fun w1 (h : Rr l (.slice A l.length cap) w.heap.size ⟨q, site, []⟩ w1) => whole_any hts _ lv (by omega) rfl _ w1 h)
  have HERR := hid (fun (p0 : Nat) (e0 : Int) (h : wF l (100 - lv.toNat) ⟨q, site, []⟩ = .bad p0 e0) => wF_err (s := ⟨q, site, []⟩) (by simp only; omega) hql h)
  clear hx HE hts hq
  generalize wF l (100 - lv.toNat) ⟨q, site, []⟩ = res at *
  go_enter Try.func16, Try.ntmps16
  go_wp2_with fail
  refine (HWH.out _ (HRR.out _ (below_new _) (heap_alloc_new w _))).mono ?_
  rintro e w1 ⟨hk1, h1⟩
  have HB1 : Hid (Below w.heap.size w w1) := hid ((below_new (w := w) _).trans hk1.1)
  rcases h1 with ⟨p1, er, hb1, rfl⟩ | ⟨t, s1, hb1, hf, v, rfl, hv1, hr1⟩
  · obtain ⟨he0, -, -⟩ := HERR.out p1 er hb1
    have hne : (er != 0) = true := by simp; omega
    subst hb1
    clear hk1 he0
    go_wp2
    go_quiet (fail)
    go_wp2
    exact bodyPost_ret (v := .tuple #[.slice none 0 0, .int .i64 0, .slice none 0 0, .int .i64 (p1 : Int), .int .i64 er]) (by simp [results, Try.results16, go_sem]) rfl ⟨below_drewN (HB1.out.trans ((below_new _).mono HB1.out.size)) _, rfl⟩
  · subst hb1
    obtain ⟨vs, c0, c1, c2, c3, ho, hfz⟩ := hr1.cells
    have HO := hid ho
    have HV := hid hv1
    have hPl := hr1.lt
    have hPb := below_new (w := w1) (.cells #[.int .i64 0, .int .i64 0] 59)
    have d1 := (hPb.cell (p := ⟨w.heap.size, 1, none⟩) hPl).trans c1
    have d3 := (hPb.cell (p := ⟨w.heap.size, 3, none⟩) hPl).trans c3
    clear hPb
    clear hk1 hr1 ho hv1
    go_wp2
    go_quiet (fail)
    go_wp2
    have hB2 : Below w1.heap.size w1 ((w1.alloc (.cells #[.int .i64 0, .int .i64 0] 59)).drewN nq) := below_drewN (below_new _) nq
    exact bodyPost_ret (v := .tuple #[v, .int .i64 (s1.pl : Int), vs, .int .i64 0, .int .i64 0]) (by simp [results, Try.results16, go_sem]) rfl ⟨HB1.out.trans (hB2.mono HB1.out.size), v, vs, rfl, (HV.out.more (by omega)).below hB2, row_below (row_more HO.out (by omega)) hB2⟩

/-- What Of tells. -/
inductive OfOut where
  | ok : T.Tr → List T.Si → OfOut
  | bad : Int → OfOut

def ofF (l : List T.Tk) : OfOut :=
  match T.readF l 0 1 1 with
  | .bad _ e => .bad e
  | .ok t n ss => if n + 1 = l.length ∧ (tokAt l n).kind = 0 then .ok t ss else .bad 2

def OfV (B : Nat) (o : OfOut) (w : World) (e : Ending) : Prop :=
  match o with
  | .bad er => e = .returned (.tuple #[.slice none 0 0, .slice none 0 0, .int .i64 er])
  | .ok t ss => ∃ v vs, e = .returned (.tuple #[v, vs, .int .i64 0]) ∧ Own B v t.flat w ∧ OwnSi B vs ss w

theorem readF_err {l : List T.Tk} {p site lv : Int} {q : Nat} {e : Int} (h : T.readF l p site lv = .bad q e) : T.Err l q e := by
  by_cases h1 : p < 0 ∨ site < 1 ∨ lv < 1
  · unfold T.readF at h
    rw [if_pos h1] at h
    injection h with h2 h3
    subst h2
    subst h3
    exact ⟨by decide, by decide, Nat.zero_le _⟩
  · rw [readF_w l p site lv h1] at h
    cases hr : wF l (100 - lv.toNat) ⟨min p.toNat l.length, site, []⟩ with
    | ok t s => rw [hr] at h; cases h
    | bad p1 e1 =>
      rw [hr] at h
      injection h with h2 h3
      subst h2
      subst h3
      exact wF_err (by simp only; omega) (Nat.min_le_right _ _) hr

theorem readF_ok {l : List T.Tk} {p site lv : Int} {t : T.Tr} {n : Nat} {ss : List T.Si} (h : T.readF l p site lv = .ok t n ss) :
    ¬ (p < 0 ∨ site < 1 ∨ lv < 1) ∧ Fits t ∧ ∃ s1, T.typeF l (100 - lv.toNat) ⟨min p.toNat l.length, site, []⟩ = .ok t s1 ∧ n = s1.pl ∧ ss = s1.sites ∧ T.Got l ⟨min p.toNat l.length, site, []⟩ s1 t := by
  by_cases h1 : p < 0 ∨ site < 1 ∨ lv < 1
  · unfold T.readF at h
    rw [if_pos h1] at h
    cases h
  · unfold T.readF at h
    rw [if_neg h1] at h
    simp only at h
    cases hr : T.typeF l (100 - lv.toNat) ⟨min p.toNat l.length, site, []⟩ with
    | bad q e => rw [hr] at h; cases h
    | ok t1 s1 =>
      rw [hr] at h
      simp only at h
      split at h
      · cases h
      · split at h
        · cases h
        · injection h with h2 h3 h4
          subst h2
          exact ⟨h1, ⟨by omega, by omega⟩, s1, rfl, h3.symm, h4.symm, T.typeF_got l _ _ (by simp only; omega) _ _ hr⟩

set_option maxHeartbeats 8000000 in
set_option maxRecDepth 100000 in
theorem of_any (l : List T.Tk) (hts : ∀ p, (tokAt l p).text.size ≤ 2000000) (vl : Value) (w : World) (hx : RdK w w.heap.size vl l) :
    Calls Try.prog 13 #[vl] w fun e w' => Below w.heap.size w w' ∧ OfV w.heap.size (ofF l) w' e := by
  have HRD := hid (read_any l hts vl 0 1 1 (by decide) w hx)
  have HX := hid hx
  obtain ⟨A, cap, rfl, hll, -⟩ := id hx
  have HOK := hid (fun t n ss h => readF_ok (l := l) (p := 0) (site := 1) (lv := 1) (t := t) (n := n) (ss := ss) h)
  have HER := hid (fun q e h => readF_err (l := l) (p := 0) (site := 1) (lv := 1) (q := q) (e := e) h)
  have HOF : Hid (ofF l = match T.readF l 0 1 1 with
    | .bad _ e => .bad e
    | .ok t n ss => if n + 1 = l.length ∧ (tokAt l n).kind = 0 then .ok t ss else .bad 2) := hid rfl
  clear hx hts
  generalize T.readF l 0 1 1 = res at *
  go_enter Try.func13, Try.ntmps13
  go_wp2_with fail
  refine (HRD.out).mono ?_
  rintro e w1 ⟨hb1, h1⟩
  cases res with
  | bad q er =>
    obtain ⟨he0, -, -⟩ := HER.out q er rfl
    have hne : (er != 0) = true := by simp; omega
    unfold OutV at h1
    subst h1
    have HB1 := hid hb1
    have HE : Hid (ofF l = .bad er) := hid HOF.out
    clear hb1 he0
    go_wp2
    exact bodyPost_ret (v := .tuple #[.slice none 0 0, .slice none 0 0, .int .i64 er]) (by simp [results, Try.results13, go_sem]) rfl ⟨HB1.out, by rw [HE.out]; rfl⟩
  | ok t n ss =>
    obtain ⟨-, -, s1, -, hn, -, hg⟩ := HOK.out t n ss rfl
    have hnl : n ≤ l.length := by rw [hn]; exact hg.le
    unfold OutV at h1
    obtain ⟨v, vs, rfl, hv, hvs⟩ := h1
    have HB1 := hid hb1
    have HV := hid hv
    have HVS := hid hvs
    have HE : Hid (ofF l = if n + 1 = l.length ∧ (tokAt l n).kind = 0 then .ok t ss else .bad 2) := hid HOF.out
    clear hb1 hv hvs hn hg HOF
    by_cases h2 : n + 1 = l.length
    · have hne : ((n : Int) != (l.length : Int) - 1) = false := by simp; omega
      have hlt : n < l.length := by omega
      have hltz : (n : Int) < (l.length : Int) := by omega
      obtain ⟨b, o, rfl, hb, hcx⟩ : ∃ b o, A = some ⟨b, o, none⟩ ∧ b < w.heap.size ∧ ∀ (i : Nat) (h : i < l.length), w.cell? ⟨b, o + i * 4, none⟩ = some (.int .i64 l[i].kind) := by
        obtain ⟨A', c', hv, -, hc⟩ := HX.out
        simp only [Value.slice.injEq, true_and] at hv
        obtain ⟨rfl, -⟩ := hv
        obtain ⟨b, o, h3, h4, h5⟩ := hc (by rintro rfl; simp at hlt)
        exact ⟨b, o, h3, h4, fun i h => (h5 i h).1⟩
      have c0 := (HB1.out.cell (p := ⟨b, o + n * 4, none⟩) hb).trans (hcx n hlt)
      have HTK : Hid (tokAt l n = l[n]) := hid (by simp [tokAt, List.getD, hlt])
      have HE2 : Hid (ofF l = if (tokAt l n).kind = 0 then .ok t ss else .bad 2) := hid (by rw [HE.out]; simp [h2])
      rw [HTK.out] at HE2
      clear hcx HTK h2 HE
      generalize l[n].kind = k at *
      by_cases hk : k = 0
      · subst hk
        have HE3 : Hid (ofF l = .ok t ss) := hid (by rw [HE2.out, if_pos rfl])
        go_wp2
        exact bodyPost_ret (v := .tuple #[v, vs, .int .i64 0]) (by simp [results, Try.results13, go_sem]) rfl ⟨HB1.out, by rw [HE3.out]; exact ⟨v, vs, rfl, HV.out, HVS.out⟩⟩
      · have hk0 : (k != 0) = true := by simpa using hk
        have HE3 : Hid (ofF l = .bad 2) := hid (by rw [HE2.out, if_neg hk])
        clear hk
        go_wp2
        exact bodyPost_ret (v := .tuple #[.slice none 0 0, .slice none 0 0, .int .i64 2]) (by simp [results, Try.results13, go_sem]) rfl ⟨HB1.out, by rw [HE3.out]; rfl⟩
    · have hne : ((n : Int) != (l.length : Int) - 1) = true := by simp; omega
      have HE3 : Hid (ofF l = .bad 2) := hid (by rw [HE.out, if_neg (fun h => h2 h.1)])
      clear h2
      go_wp2
      exact bodyPost_ret (v := .tuple #[.slice none 0 0, .slice none 0 0, .int .i64 2]) (by simp [results, Try.results13, go_sem]) rfl ⟨HB1.out, by rw [HE3.out]; rfl⟩

end Go.Proofs.Ytgghmhgbdknkaaa
end
