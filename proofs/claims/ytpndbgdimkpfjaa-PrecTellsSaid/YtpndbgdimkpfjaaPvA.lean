/-
  The walks of prec.Agree and prec.Below. Conditions: slices that read as plain trees, with labels of at most 2000000 bytes.
-/
import Derived.Test.YtpndbgdimkpfjaaPvV
namespace Go.Proofs.Ytpndbgdimkpfjaa
open Go.RowKit Go.Sort

/-- A list of nodes that is a row of plain trees. -/
structure Ty (l : List L.Nd) (F : L.Fo) : Prop where
  flat : l = F.flat
  ok : F.ok = true
  plain : F.plain = true
  ne : F ≠ .nil
  few : Few l
  nm : ∀ x ∈ l, x.name.size ≤ 2000000

theorem Ty.at {la lb : List L.Nd} {F G : L.Fo} (a : Ty la F) (b : Ty lb G) : At la lb F G 0 0 :=
  ⟨by omega, by omega, a.flat, b.flat, a.ok, b.ok, a.plain, b.plain, Or.inr a.ne⟩

theorem enter_be (args : Array Value) (W : World) : (callFunc 42 args).run Try.prog W = .ok (.enter 42 args) W := by kernel_rfl

theorem agree1_any (i j : Int) (w : World) : Calls Try.prog 39 #[.int .i64 i, .int .i64 j] w fun e w' => e = .returned (.bool true) ∧ w = w' := by
  go_enter Try.func39, Try.ntmps39
  go_wp2
  go_ret
  exact ⟨rfl, rfl⟩

set_option maxHeartbeats 2000000 in
set_option maxRecDepth 100000 in
theorem agree_any {la lb : List L.Nd} {F G : L.Fo} (ta : Ty la F) (tb : Ty lb G) (va vb : Value) (w : World) (ha : Rd w w.heap.size va la) (hb : Rd w w.heap.size vb lb) :
    Calls Try.prog 15 #[va, vb] w fun e w' => e = .returned (.bool (L.agF F G)) ∧ Below w.heap.size w w' := by
  have HV := hid (visit_any la lb ta.few tb.few ta.nm va vb 39 #[] enter_ag (fun _ _ => true) F G (ta.at tb) w ha hb (fun W => Below w.heap.size w W)
    (fun _ _ _ _ W => W.heap[w.heap.size]? = some (.cells #[va, vb, .func (.func 39) #[] #[]] 53 (0, 0)) ∧ Rd W W.heap.size va la ∧ Rd W W.heap.size vb lb ∧ Below w.heap.size w W)
    (fun _ _ _ _ _ h => h.2.2.2) (fun _ _ _ _ _ h => ⟨h.1, h.2.1, h.2.2.1⟩)
    (fun _ _ _ _ W W' h hW => ⟨(hW.block _ (heap_lt h.1)).trans h.1, (h.2.1.below hW).mono hW.size, (h.2.2.1.below hW).mono hW.size, h.2.2.2.trans (hW.mono h.2.2.2.size)⟩)
    ⟨heap_alloc_new w _, (ha.alloc _).mono (by simp), (hb.alloc _).mono (by simp), below_new _⟩
    (fun _ _ _ _ _ _ _ _ h _ _ _ => h)
    (fun _ _ _ _ _ _ _ _ W h _ _ _ => (agree1_any _ _ W).mono fun e W' hh => by
      obtain ⟨rfl, rfl⟩ := hh
      exact ⟨rfl, h.2.2.2, fun _ => h⟩))
  obtain ⟨A, cap, rfl, -⟩ := ha
  obtain ⟨A2, cap2, rfl, -⟩ := hb
  go_enter Try.func15, Try.ntmps15
  go_wp2_with fail
  refine (HV.out).mono ?_
  rintro e w1 ⟨rfl, h1, -⟩
  go_wp2
  go_ret
  exact ⟨ret_bool (by rw [L.wk_ag]), h1⟩

set_option maxHeartbeats 2000000 in
set_option maxRecDepth 100000 in
theorem below1_any {lb : List L.Nd} (vb : Value) (Q : Nat) (i : Int) (j : Nat) (hj : j < lb.length) (w : World) (hq : w.heap[Q]? = some (.cells #[vb] 23 (0, 0))) (hb : Rd w w.heap.size vb lb) :
    Calls Try.prog 42 #[.int .i64 i, .int .i64 (j : Int), .pointer (some ⟨Q, 0, none⟩)] w fun e w' => e = .returned (.bool (decide (lb[j].kind = 0))) ∧ Below w.heap.size w w' := by
  obtain ⟨A2, cap2, rfl, hm1, hm2, -, hcy⟩ := hb
  unfold maxLen at hm2
  obtain ⟨b2, o2, rfl, hb2, hcy⟩ := hcy (by rintro rfl; simp at hj)
  obtain ⟨y0, y1, y2⟩ := hcy j hj
  have cQ : w.cell? ⟨Q, 0, none⟩ = some (.slice (some ⟨b2, o2, none⟩) lb.length cap2) := Lib.cell_of_heap hq 0
  clear hcy hq
  generalize lb[j] = Y at *
  obtain ⟨yk, ys, yn⟩ := Y
  have HU := hid (isUnknown_any yk yn ys)
  go_enter Try.func42, Try.ntmps42
  go_wp2_with fail
  refine (HU.out _).mono ?_
  rintro e w1 ⟨rfl, h1⟩
  go_wp2
  go_ret
  exact ⟨rfl, h1⟩

set_option maxHeartbeats 2000000 in
set_option maxRecDepth 100000 in
theorem below_any {la lb : List L.Nd} {F G : L.Fo} (ta : Ty la F) (tb : Ty lb G) (va vb : Value) (w : World) (ha : Rd w w.heap.size va la) (hb : Rd w w.heap.size vb lb) :
    Calls Try.prog 17 #[va, vb] w fun e w' => e = .returned (.bool (L.beF F G)) ∧ Below w.heap.size w w' := by
  obtain ⟨w1, hw1⟩ : ∃ w1, w1 = w.alloc (.cells #[vb] 23) := ⟨_, rfl⟩
  have hB1 : Below w.heap.size w w1 := by rw [hw1]; exact below_new _
  have hQ1 : w1.heap[w.heap.size]? = some (.cells #[vb] 23 (0, 0)) := by rw [hw1]; exact heap_alloc_new w _
  have ha1 := (ha.below hB1).mono hB1.size
  have hb1 := (hb.below hB1).mono hB1.size
  have hs1 : w1.heap.size = w.heap.size + 1 := by rw [hw1]; simp
  have HV := hid (visit_any la lb ta.few tb.few ta.nm va vb 42 #[.pointer (some ⟨w.heap.size, 0, none⟩)] enter_be (fun _ k => decide (k = 0)) F G (ta.at tb) w1 ha1 hb1 (fun W => Below w.heap.size w W)
    (fun _ _ _ _ W => W.heap[w1.heap.size]? = some (.cells #[va, vb, .func (.func 42) #[] #[.pointer (some ⟨w.heap.size, 0, none⟩)]] 53 (0, 0)) ∧ Rd W W.heap.size va la ∧ Rd W W.heap.size vb lb ∧ Below w.heap.size w W ∧ W.heap[w.heap.size]? = some (.cells #[vb] 23 (0, 0)))
    (fun _ _ _ _ _ h => h.2.2.2.1) (fun _ _ _ _ _ h => ⟨h.1, h.2.1, h.2.2.1⟩)
    (fun _ _ _ _ W W' h hW => ⟨(hW.block _ (heap_lt h.1)).trans h.1, (h.2.1.below hW).mono hW.size, (h.2.2.1.below hW).mono hW.size, h.2.2.2.1.trans (hW.mono h.2.2.2.1.size), (hW.block _ (heap_lt h.2.2.2.2)).trans h.2.2.2.2⟩)
    ⟨heap_alloc_new w1 _, (ha1.alloc _).mono (by simp), (hb1.alloc _).mono (by simp), hB1.trans ((below_new _).mono hB1.size), (heap_alloc_old w1 _ (by omega)).trans hQ1⟩
    (fun _ _ _ _ _ _ _ _ h _ _ _ => h)
    (fun x ks r y ls s i j W h hA _ _ => by
      obtain ⟨hj, hy, -⟩ := L.drop_flat hA.2.2.2.1
      refine (below1_any vb w.heap.size i j hj W h.2.2.2.2 h.2.2.1).mono fun e W' hh => ?_
      obtain ⟨rfl, hW⟩ := hh
      rw [hy]
      have hz := h.2.2.2.1.trans (hW.mono h.2.2.2.1.size)
      exact ⟨rfl, hz, fun _ => ⟨(hW.block _ (heap_lt h.1)).trans h.1, (h.2.1.below hW).mono hW.size, (h.2.2.1.below hW).mono hW.size, hz, (hW.block _ (heap_lt h.2.2.2.2)).trans h.2.2.2.2⟩⟩))
  obtain ⟨A, cap, rfl, -⟩ := ha
  obtain ⟨A2, cap2, rfl, -⟩ := hb
  have HQ1 := hid hQ1
  have c1 : w1.cell? ⟨w.heap.size, 0, none⟩ = some (.slice A2 lb.length cap2) := Lib.cell_of_heap hQ1 0
  clear ha1 hb1 hQ1
  rw [hw1] at c1 HV
  clear hw1
  go_enter Try.func17, Try.ntmps17
  go_wp2_with fail
  refine (HV.out).mono ?_
  rintro e w2 ⟨rfl, h1, -⟩
  go_wp2
  go_ret
  exact ⟨ret_bool (by rw [L.wk_be]), h1⟩

end Go.Proofs.Ytpndbgdimkpfjaa
