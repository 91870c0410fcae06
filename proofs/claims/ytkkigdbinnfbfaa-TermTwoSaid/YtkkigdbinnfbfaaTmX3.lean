/-
  The walks of term's merge and extended. Conditions: at most 200 types, none of them empty.
-/
import Derived.Test.YtkkigdbinnfbfaaTmX2
import Derived.Test.YtkkigdbinnfbfaaTmF
import Derived.Laws.MakeOwn
namespace Go.Proofs.Ytkkigdbinnfbfaa.L
open Go
end Go.Proofs.Ytkkigdbinnfbfaa.L
namespace Go.Proofs.Ytkkigdbinnfbfaa
open Go.RowKit Go.Sort

/-- Two rows of types, merged by their labels. -/
def mergeT : List VT → List VT → List VT
  | [], b => b
  | x :: a, [] => x :: a
  | x :: a, y :: b => if L.befN (L.hd0 y.2) (L.hd0 x.2) = true then y :: mergeT (x :: a) b else x :: mergeT a (y :: b)
termination_by a b => a.length + b.length
theorem mergeT_nil (a : List VT) : mergeT a [] = a := by cases a <;> simp [mergeT]
theorem mergeT_left {x y : VT} {a b : List VT} (h : L.befN (L.hd0 y.2) (L.hd0 x.2) = false) : mergeT (x :: a) (y :: b) = x :: mergeT a (y :: b) := by rw [mergeT, if_neg (by rw [h]; simp)]
theorem mergeT_right {x y : VT} {a b : List VT} (h : L.befN (L.hd0 y.2) (L.hd0 x.2) = true) : mergeT (x :: a) (y :: b) = y :: mergeT (x :: a) b := by rw [mergeT, if_pos h]
theorem enter_ext1 (args : Array Value) (W : World) : (callFunc 48 args).run Try.prog W = .ok (.enter 48 args) W := by kernel_rfl

/-- What is behind the first of a row. -/
theorem RdR.tail {w : World} {B : Nat} {b o n cap : Nat} {t : VT} {ts : List VT} (h : RdR w B (.slice (some ⟨b, o, none⟩) n cap) (t :: ts)) (_ : cap ≠ 1) : RdR w B (.slice (some ⟨b, o + 1, none⟩) (n - 1) (cap - 1)) ts := by
  obtain ⟨⟨A, c, e, h1, h2, -, hx⟩, hr⟩ := h
  obtain ⟨b', o', e4, hb, hcell⟩ := hx (by simp)
  simp only [Value.slice.injEq] at e
  obtain ⟨e1, e2, e3⟩ := e
  subst e3
  rw [e4] at e1
  simp only [Option.some.injEq, Addr.mk.injEq, and_true] at e1
  obtain ⟨rfl, rfl⟩ := e1
  have e5 : n - 1 = ts.length := by rw [e2]; simp
  rw [e5]
  simp only [List.length_cons] at h1
  refine ⟨⟨_, cap - 1, rfl, by omega, by omega, by simp, fun _ => ⟨b, o + 1, rfl, hb, fun i hi => ?_⟩⟩, fun t ht => hr t (by simp [ht])⟩
  have := hcell (i + 1) (by simp; omega)
  rw [show o + 1 + i = o + (i + 1) by omega]
  simpa using this
theorem RdR.last {w : World} {B : Nat} {A : Option Addr} {n cap : Nat} {t : VT} {ts : List VT} (h : RdR w B (.slice A n cap) (t :: ts)) (hc : cap = 1) : ts = [] := by
  obtain ⟨⟨A', c, e, h1, -⟩, -⟩ := h
  simp only [Value.slice.injEq] at e
  obtain ⟨-, -, rfl⟩ := e
  simp only [List.length_cons] at h1
  exact List.eq_nil_of_length_eq_zero (by omega)
theorem RdR.none_ {w : World} {B : Nat} (A : Addr) : RdR w B (.slice (some A) 0 0) [] := ⟨⟨_, 0, rfl, by simp, Nat.zero_le _, by simp, by simp⟩, by simp⟩
theorem RdR.first {w : World} {B : Nat} {v : Value} {t : VT} {ts : List VT} (h : RdR w B v (t :: ts)) : ∃ b o cap, v = .slice (some ⟨b, o, none⟩) (ts.length + 1) cap ∧ 1 ≤ cap ∧ cap ≤ maxLen ∧ b < B ∧ w.cell? ⟨b, o, none⟩ = some t.1 ∧ Rd w B t.1 t.2 := by
  obtain ⟨⟨A, c, rfl, h1, h2, -, hx⟩, hr⟩ := h
  obtain ⟨b, o, rfl, hb, hcell⟩ := hx (by simp)
  simp only [List.length_cons] at h1
  exact ⟨b, o, c, rfl, by omega, h2, hb, hcell 0 (by simp), hr t (by simp)⟩

theorem OwnV.val {B : Nat} {v : Value} {ts : List VT} {w : World} (h : OwnV B v ts w) : ∃ A cap, v = .slice A ts.length cap := by
  rcases h.2 with ⟨hv, h0⟩ | ⟨g, cap, cur, hv, _⟩
  · exact ⟨none, 0, by rw [hv, h0]⟩
  · exact ⟨_, _, hv⟩
/-- Where the merging stands. -/
structure MS (w : World) (a b : List VT) (v0 v1 v7 : Value) (ra rb acc : List VT) (wr : World) : Prop where
  r0 : RdR w w.heap.size v0 ra
  r1 : RdR w w.heap.size v1 rb
  own : OwnV w.heap.size v7 acc wr
  rd : ∀ t ∈ acc, Rd w w.heap.size t.1 t.2
  be : Below w.heap.size w wr
  eq : acc ++ mergeT ra rb = mergeT a b
  na : ∀ t ∈ ra, t.2 ≠ []
  nb : ∀ t ∈ rb, t.2 ≠ []
  len : acc.length + ra.length + rb.length = a.length + b.length

theorem MS.below {w : World} {a b : List VT} {v0 v1 v7 : Value} {ra rb acc : List VT} {wr w3 : World} (h : MS w a b v0 v1 v7 ra rb acc wr) (hb : Below wr.heap.size wr w3) : MS w a b v0 v1 v7 ra rb acc w3 :=
  ⟨h.r0, h.r1, h.own.below hb, h.rd, h.be.trans (hb.mono h.be.size), h.eq, h.na, h.nb, h.len⟩
theorem MS.far {w : World} {a b : List VT} {v0 v1 v7 : Value} {ra rb acc : List VT} {wr : World} (h : MS w a b v0 v1 v7 ra rb acc wr) {g : Nat} (hg : g < w.heap.size) : some g ≠ v7.ownBlock := fun e => by
  have := (World.ownsRow.lt h.own g e.symm).1
  omega

theorem MS.right {w : World} {a b : List VT} {v0 v1 v7 v1' v7' : Value} {x y : VT} {ra rb acc : List VT} {w3 w4 w5 : World} (h : MS w a b v0 v1 v7 (x :: ra) (y :: rb) acc w3) (hbf : L.befN (L.hd0 y.2) (L.hd0 x.2) = true) (hr : RdR w w.heap.size v1' rb)
    (hb : Below w.heap.size w w4) (hg : w4.grownBy w5 v7.ownBlock) (ho : w5.ownsRow w.heap.size 23 1 v7' (acc.length + 1) (acc.map (·.1) ++ [y.1])) : MS w a b v0 v1' v7' (x :: ra) rb (acc ++ [y]) w5 where
  r0 := h.r0
  r1 := hr
  own := by unfold OwnV; rw [List.map_append, List.length_append]; exact ho
  rd := fun t ht => by
    rcases List.mem_append.1 ht with ht | ht
    · exact h.rd t ht
    · rw [List.mem_singleton.1 ht]; exact h.r1.2 y (by simp)
  be := hb.grown hg hb.size (fun k hk => (World.ownsRow.lt h.own k hk).1)
  eq := by rw [← h.eq, mergeT_right hbf]; simp
  na := h.na
  nb := fun t ht => h.nb t (by simp [ht])
  len := by have := h.len; simp at this ⊢; omega
theorem MS.left {w : World} {a b : List VT} {v0 v1 v7 v0' v7' : Value} {x y : VT} {ra rb acc : List VT} {w3 w4 w5 : World} (h : MS w a b v0 v1 v7 (x :: ra) (y :: rb) acc w3) (hbf : L.befN (L.hd0 y.2) (L.hd0 x.2) = false) (hr : RdR w w.heap.size v0' ra)
    (hb : Below w.heap.size w w4) (hg : w4.grownBy w5 v7.ownBlock) (ho : w5.ownsRow w.heap.size 23 1 v7' (acc.length + 1) (acc.map (·.1) ++ [x.1])) : MS w a b v0' v1 v7' ra (y :: rb) (acc ++ [x]) w5 where
  r0 := hr
  r1 := h.r1
  own := by unfold OwnV; rw [List.map_append, List.length_append]; exact ho
  rd := fun t ht => by
    rcases List.mem_append.1 ht with ht | ht
    · exact h.rd t ht
    · rw [List.mem_singleton.1 ht]; exact h.r0.2 x (by simp)
  be := hb.grown hg hb.size (fun k hk => (World.ownsRow.lt h.own k hk).1)
  eq := by rw [← h.eq, mergeT_left hbf]; simp
  na := fun t ht => h.na t (by simp [ht])
  nb := h.nb
  len := by have := h.len; simp at this ⊢; omega
theorem mergeT_one {ra rb : List VT} (h : ra = [] ∨ rb = []) : ra ++ rb = mergeT ra rb := by
  rcases h with rfl | rfl
  · simp [mergeT]
  · rw [mergeT_nil]; simp

def MergePost (ts : List VT) (w : World) (e : Ending) (w' : World) : Prop := ∃ v', e = .returned v' ∧ RdR w' w'.heap.size v' ts ∧ Below w.heap.size w w'

set_option maxHeartbeats 8000000 in
set_option maxRecDepth 100000 in
theorem merge_any (a b : List VT) (ha : ∀ t ∈ a, t.2 ≠ []) (hb : ∀ t ∈ b, t.2 ≠ []) (hla : a.length ≤ 200) (hlb : b.length ≤ 200) (va vb : Value) (w : World) (hxa : RdR w w.heap.size va a) (hxb : RdR w w.heap.size vb b) :
    Calls Try.prog 47 #[va, vb, .func (.func 48) #[] #[]] w (MergePost (mergeT a b) w) := by
  obtain ⟨it, hit, hzt0, hzt1, hzt2⟩ := info_parts infoTyp
  have HA := hid hxa
  have HB := hid hxb
  have HNA := hid ha
  have HNB := hid hb
  have hent := enter_ext1
  obtain ⟨Aa, ca, rfl, ha1, ha2⟩ := hxa.val
  obtain ⟨Ab, cb, rfl, hb1, hb2⟩ := hxb.val
  unfold maxLen at ha2 hb2
  clear hxa hxb ha hb
  obtain ⟨w1, hr, hown, hg⟩ := run_make_own (P := Try.prog) w w.heap.size 27 23 it (.slice none 0 0) 1 Try.underlying27 hit hzt0 hzt1 .i64 .i64 (a.length + b.length) (by rw [hzt2]; omega) (by unfold maxLen; omega) (Nat.le_refl _)
  push_cast at hr
  have HS := hid (show MS w a b (.slice Aa a.length ca) (.slice Ab b.length cb) (.slice (some ⟨w.heap.size, 0, none⟩) 0 (a.length + b.length)) a b [] w1 from
    ⟨HA.out, HB.out, hown, by simp, ⟨hg.os, hg.tape, hg.output, hg.size, fun k hk => hg.block k hk (by simp)⟩, rfl, HNA.out, HNB.out, by simp⟩)
  clear hown hg
  go_enter Try.func47, Try.ntmps47
  go_wp2_with fail
  clear hr
  go_loopw [0, 1, 7] (fun v0 v1 v7 wr => ∃ ra rb acc : List VT, Hid (MS w a b v0 v1 v7 ra rb acc wr)) (fun v0 v1 _ _ => lenRow v0 + lenRow v1)
  case atStart => exact ⟨_, _, _, HS⟩
  case round =>
    clear HS
    obtain ⟨ra, rb, acc, hM⟩ := hrel
    cases ra with
    | nil =>
      obtain ⟨A0, c0, rfl, -⟩ := hM.out.r0.val
      obtain ⟨A1, c1, rfl, -⟩ := hM.out.r1.val
      obtain ⟨A7, c7, rfl⟩ := hM.out.own.val
      have HC := hid (fun (W : World) (G : Nat) (hb : Below wr.heap.size wr W) (hG : W.heap[G]? = some (.cells #[Value.slice A7 acc.length c7, .slice A0 0 c0, .slice A1 rb.length c1] 27 (0, 0))) => show Calls Try.prog 75 #[.slice (some ⟨G, 0, none⟩) 3 3] W (RowPost (mergeT a b) W) from by
        have hbw := hM.out.be.size
        have hbW := hb.size
        have hbe : Below w.heap.size w W := hM.out.be.trans (hb.mono hbw)
        have h := concatR_any [(Value.slice A7 acc.length c7, acc), (.slice A0 0 c0, []), (.slice A1 rb.length c1, rb)] (.slice (some ⟨G, 0, none⟩) 3 3) W ⟨⟨G, 0, 3, rfl, by simp, by unfold maxLen; omega, heap_lt hG, fun i hi => by
          match i, hi with
          | 0, _ => exact Lib.cell_of_heap hG 0
          | 1, _ => exact Lib.cell_of_heap hG 1
          | 2, _ => exact Lib.cell_of_heap hG 2⟩, fun t ht => by
            simp only [List.mem_cons, List.not_mem_nil, or_false] at ht
            rcases ht with rfl | rfl | rfl
            · exact (hM.out.own.below hb).rdr (fun t ht => (hM.out.rd t ht).low hbe) (by omega)
            · exact hM.out.r0.to hbe
            · exact hM.out.r1.to hbe⟩ (by simp) (by have := hM.out.len; simp [catR] at this ⊢; omega)
        have e : catR [(Value.slice A7 acc.length c7, acc), (.slice A0 0 c0, []), (.slice A1 rb.length c1, rb)] = mergeT a b := by
          rw [← hM.out.eq, ← mergeT_one (Or.inl rfl)]
          simp [catR]
        rw [e] at h
        exact h)
      have HC1 := hid (HC.out (wr.alloc (.cells #[Value.slice A7 acc.length c7, .slice A0 0 c0, .slice A1 rb.length c1] 27)) wr.heap.size (below_new _) (heap_alloc_new _ _))
      have HBE := hid (hM.out.be.trans ((below_new (w := wr) (.cells #[Value.slice A7 acc.length c7, .slice A0 0 c0, .slice A1 rb.length c1] 27)).mono hM.out.be.size))
      have HRD := hid (fun t (ht : t ∈ mergeT a b) => show Rd w w.heap.size t.1 t.2 from by
        rw [← hM.out.eq, ← mergeT_one (Or.inl rfl)] at ht
        simp only [List.mem_append] at ht
        rcases ht with ht | ht | ht
        · exact hM.out.rd t ht
        · exact hM.out.r0.2 t ht
        · exact hM.out.r1.2 t ht)
      clear HC hM
      go_wp2_with fail
      refine (HC1.out).mono ?_
      rintro e w2 ⟨v2, rfl, hO2, hb2⟩
      have EX : Hid (MergePost (mergeT a b) w (.returned v2) w2) := hid (by
        have hb3 := HBE.out.trans (hb2.mono HBE.out.size)
        exact ⟨v2, rfl, hO2.rdr (C := w.heap.size) (fun t ht => (HRD.out t ht).low hb3) hb3.size, hb3⟩)
      clear hO2 hb2 HC1
      go_wp2_with fail
      go_ret
      exact EX.out
    | cons x ra =>
      cases rb with
      | nil =>
        obtain ⟨A0, c0, rfl, -⟩ := hM.out.r0.val
        obtain ⟨A1, c1, rfl, -⟩ := hM.out.r1.val
        obtain ⟨A7, c7, rfl⟩ := hM.out.own.val
        have HC := hid (fun (W : World) (G : Nat) (hb : Below wr.heap.size wr W) (hG : W.heap[G]? = some (.cells #[Value.slice A7 acc.length c7, .slice A0 (x :: ra).length c0, .slice A1 0 c1] 27 (0, 0))) => show Calls Try.prog 75 #[.slice (some ⟨G, 0, none⟩) 3 3] W (RowPost (mergeT a b) W) from by
          have hbw := hM.out.be.size
          have hbW := hb.size
          have hbe : Below w.heap.size w W := hM.out.be.trans (hb.mono hbw)
          have h := concatR_any [(Value.slice A7 acc.length c7, acc), (.slice A0 (x :: ra).length c0, (x :: ra)), (.slice A1 0 c1, [])] (.slice (some ⟨G, 0, none⟩) 3 3) W ⟨⟨G, 0, 3, rfl, by simp, by unfold maxLen; omega, heap_lt hG, fun i hi => by
            match i, hi with
            | 0, _ => exact Lib.cell_of_heap hG 0
            | 1, _ => exact Lib.cell_of_heap hG 1
            | 2, _ => exact Lib.cell_of_heap hG 2⟩, fun t ht => by
              simp only [List.mem_cons, List.not_mem_nil, or_false] at ht
              rcases ht with rfl | rfl | rfl
              · exact (hM.out.own.below hb).rdr (fun t ht => (hM.out.rd t ht).low hbe) (by omega)
              · exact hM.out.r0.to hbe
              · exact hM.out.r1.to hbe⟩ (by simp) (by have := hM.out.len; simp [catR] at this ⊢; omega)
          have e : catR [(Value.slice A7 acc.length c7, acc), (.slice A0 (x :: ra).length c0, (x :: ra)), (.slice A1 0 c1, [])] = mergeT a b := by
            rw [← hM.out.eq, ← mergeT_one (Or.inr rfl)]
            simp [catR]
          rw [e] at h
          exact h)
        have HC1 := hid (HC.out (wr.alloc (.cells #[Value.slice A7 acc.length c7, .slice A0 (x :: ra).length c0, .slice A1 0 c1] 27)) wr.heap.size (below_new _) (heap_alloc_new _ _))
        have HBE := hid (hM.out.be.trans ((below_new (w := wr) (.cells #[Value.slice A7 acc.length c7, .slice A0 (x :: ra).length c0, .slice A1 0 c1] 27)).mono hM.out.be.size))
        have HRD := hid (fun t (ht : t ∈ mergeT a b) => show Rd w w.heap.size t.1 t.2 from by
          rw [← hM.out.eq, ← mergeT_one (Or.inr rfl)] at ht
          simp only [List.mem_append] at ht
          rcases ht with ht | ht | ht
          · exact hM.out.rd t ht
          · exact hM.out.r0.2 t ht
          · exact hM.out.r1.2 t ht)
        clear HC hM
        go_wp2_with fail
        refine (HC1.out).mono ?_
        rintro e w2 ⟨v2, rfl, hO2, hb2⟩
        have EX : Hid (MergePost (mergeT a b) w (.returned v2) w2) := hid (by
          have hb3 := HBE.out.trans (hb2.mono HBE.out.size)
          exact ⟨v2, rfl, hO2.rdr (C := w.heap.size) (fun t ht => (HRD.out t ht).low hb3) hb3.size, hb3⟩)
        clear hO2 hb2 HC1
        go_wp2_with fail
        go_ret
        exact EX.out
      | cons y rb =>
        obtain ⟨bx, ox, cx, rfl, hx1, hx2, hxb, cX, hxr⟩ := hM.out.r0.first
        obtain ⟨by_, oy, cy, rfl, hy1, hy2, hyb, cY, hyr⟩ := hM.out.r1.first
        unfold maxLen at hx2 hy2
        have hlen := hM.out.len
        simp only [List.length_cons] at hlen
        have hbw := hM.out.be.size
        have cXr := (hM.out.be.cell (p := ⟨bx, ox, none⟩) hxb).trans cX
        have cYr := (hM.out.be.cell (p := ⟨by_, oy, none⟩) hyb).trans cY
        have hxn := hM.out.na x (by simp)
        have hyn := hM.out.nb y (by simp)
        obtain ⟨vx, lx⟩ := x
        obtain ⟨vy, ly⟩ := y
        simp only at cXr cYr hxr hyr hxn hyn
        obtain ⟨Ax, kx, rfl, -⟩ := hxr.len
        obtain ⟨Ay, ky, rfl, -⟩ := hyr.len
        obtain ⟨nx, lx, rfl⟩ := List.exists_cons_of_ne_nil hxn
        obtain ⟨ny, ly, rfl⟩ := List.exists_cons_of_ne_nil hyn
        have HX := hid ((hxr.low hM.out.be).mono hbw)
        have HY := hid ((hyr.low hM.out.be).mono hbw)
        obtain ⟨qx, hqx⟩ : ∃ q, q = (nx :: lx).length := ⟨_, rfl⟩
        obtain ⟨qy, hqy⟩ : ∃ q, q = (ny :: ly).length := ⟨_, rfl⟩
        rw [← hqx] at cXr
        rw [← hqy] at cYr
        have HC := hid (fun d os => Calls.regrown_of (ext1_any ny nx ly lx (.slice Ay (ny :: ly).length ky) (.slice Ax (nx :: lx).length kx) (grow (redrawn wr d) os) ((HY.out.below (below_regrown wr d os)).mono (below_regrown wr d os).size) ((HX.out.below (below_regrown wr d os)).mono (below_regrown wr d os).size)))
        rw [← hqx, ← hqy] at HC
        have kX := cell_regrown cXr
        have kY := cell_regrown cYr
        have HQ := hid (And.intro hqx hqy)
        clear hxn hyn hxr hyr cX cY hqx hqy
        have p1 : 0 < ((ra.length + 1 : Nat) : Int) := by omega
        have p2 : 0 < ((rb.length + 1 : Nat) : Int) := by omega
        go_wp2_with fail
        clear cXr cYr
        cases hbf : L.befN ny nx with
        | true =>
          rw [hbf] at HC
          have HBF := hid hbf
          clear hbf
          refine wp_region_quiet_below (by kernel_rfl) (by kernel_rfl) ?_
          repeat (go_big_quiet_step (exact HC.out _ _))
          refine wpQuiet_nil ?_
          intro _ hw'
          obtain ⟨⟨nq, osq⟩, hw''⟩ := hw'
          subst hw''
          have M3 := hid (hM.out.below (below_regrown wr nq osq))
          have jc := kY nq osq
          have hown3 : (grow (redrawn wr nq) osq).ownsRow w.heap.size 23 1 u7 acc.length (acc.map (·.1)) := M3.out.own
          have hs3 := M3.out.be.size
          have hfar := M3.out.far hyb
          clear kX kY HC HX HY
          dsimp only at *
          generalize grow (redrawn wr nq) osq = w3 at *
          have R1 := hid M3.out.r1
          by_cases hcy : cy = 1
          · have hnil : rb = [] := R1.out.last hcy
            subst hcy
            subst hnil
            go_wp2_with fail
            go_region_held3 (fun w' => w'.cell? ⟨by_, oy, none⟩ = some (.slice Ay qy ky))
              (first
                | go_keep
                | (rw [hgrow.cell_far _ (by simp; omega) hfar]; assumption))
              ((refine step_append_lies _ (by rfl) _ _ _ (by rfl) w.heap.size 23 it (.slice none 0 0) 1 24 Try.underlying27 hit hzt0 hzt1 hzt2 rfl (by omega) u7 acc.length (acc.map (·.1)) (by rfl) ((hown3.alloc _).drew)
                  ⟨w3.heap.size, 0, none⟩ 1 1 [.slice Ay qy ky] (by rfl) (by rfl) (World.news_of_block (cs := #[.slice Ay qy ky]) (t := 23) (fr := (0, 0)) (heap_alloc_new w3 _)) (by simp [Value.oneCell'])
                  (by omega) (by unfold maxLen; omega) (by omega) (by simp; omega) (w3.heap.size + 1) (by simp) ?_; intro gg cap w4 hown4 hgrow hat hlt))
            rw [HQ.out.2] at hown4
            have M5 := hid (M3.out.right HBF.out (RdR.none_ ⟨by_, oy, none⟩) (M3.out.be.alloc hs3 _).drew hgrow hown4)
            clear hown4 hgrow hat hown3
            go_wp2_with fail
            go_roundw
            case rel => exact ⟨_, _, _, M5⟩
            case measure => simp [lenRow]
          · have hcy2 : ¬ 1 = cy := fun e => hcy e.symm
            have hle := R1.out.val
            obtain ⟨_, _, hle0, hle1, -⟩ := hle
            simp only [Value.slice.injEq, List.length_cons] at hle0 hle1
            obtain ⟨-, -, rfl⟩ := hle0
            have b1 : (1 : Int) ≤ (rb.length : Int) + 1 := by omega
            have b2 : (rb.length : Int) + 1 ≤ (cy : Int) := by omega
            have b3 : 1 ≤ rb.length + 1 := by omega
            have b4 : rb.length + 1 ≤ cy := by omega
            clear hle1
            go_wp2_with fail
            go_region_held3 (fun w' => w'.cell? ⟨by_, oy, none⟩ = some (.slice Ay qy ky))
              (first
                | go_keep
                | (rw [hgrow.cell_far _ (by simp; omega) hfar]; assumption))
              ((refine step_append_lies _ (by rfl) _ _ _ (by rfl) w.heap.size 23 it (.slice none 0 0) 1 24 Try.underlying27 hit hzt0 hzt1 hzt2 rfl (by omega) u7 acc.length (acc.map (·.1)) (by rfl) ((hown3.alloc _).drew)
                  ⟨w3.heap.size, 0, none⟩ 1 1 [.slice Ay qy ky] (by rfl) (by rfl) (World.news_of_block (cs := #[.slice Ay qy ky]) (t := 23) (fr := (0, 0)) (heap_alloc_new w3 _)) (by simp [Value.oneCell'])
                  (by omega) (by unfold maxLen; omega) (by omega) (by simp; omega) (w3.heap.size + 1) (by simp) ?_; intro gg cap w4 hown4 hgrow hat hlt))
            rw [HQ.out.2] at hown4
            have M5 := hid (M3.out.right HBF.out (by have := R1.out.tail hcy; simpa using this) (M3.out.be.alloc hs3 _).drew hgrow hown4)
            clear hown4 hgrow hat hown3
            go_wp2_with fail
            go_roundw
            case rel => exact ⟨_, _, _, M5⟩
            case measure => simp [lenRow]; try omega
        | false =>
          rw [hbf] at HC
          have HBF := hid hbf
          clear hbf
          refine wp_region_quiet_below (by kernel_rfl) (by kernel_rfl) ?_
          repeat (go_big_quiet_step (exact HC.out _ _))
          refine wpQuiet_nil ?_
          intro _ hw'
          obtain ⟨⟨nq, osq⟩, hw''⟩ := hw'
          subst hw''
          have M3 := hid (hM.out.below (below_regrown wr nq osq))
          have jc := kX nq osq
          have hown3 : (grow (redrawn wr nq) osq).ownsRow w.heap.size 23 1 u7 acc.length (acc.map (·.1)) := M3.out.own
          have hs3 := M3.out.be.size
          have hfar := M3.out.far hxb
          clear kX kY HC HX HY
          dsimp only at *
          generalize grow (redrawn wr nq) osq = w3 at *
          have R1 := hid M3.out.r0
          by_cases hcy : cx = 1
          · have hnil : ra = [] := R1.out.last hcy
            subst hcy
            subst hnil
            go_wp2_with fail
            go_region_held3 (fun w' => w'.cell? ⟨bx, ox, none⟩ = some (.slice Ax qx kx))
              (first
                | go_keep
                | (rw [hgrow.cell_far _ (by simp; omega) hfar]; assumption))
              ((refine step_append_lies _ (by rfl) _ _ _ (by rfl) w.heap.size 23 it (.slice none 0 0) 1 24 Try.underlying27 hit hzt0 hzt1 hzt2 rfl (by omega) u7 acc.length (acc.map (·.1)) (by rfl) ((hown3.alloc _).drew)
                  ⟨w3.heap.size, 0, none⟩ 1 1 [.slice Ax qx kx] (by rfl) (by rfl) (World.news_of_block (cs := #[.slice Ax qx kx]) (t := 23) (fr := (0, 0)) (heap_alloc_new w3 _)) (by simp [Value.oneCell'])
                  (by omega) (by unfold maxLen; omega) (by omega) (by simp; omega) (w3.heap.size + 1) (by simp) ?_; intro gg cap w4 hown4 hgrow hat hlt))
            rw [HQ.out.1] at hown4
            have M5 := hid (M3.out.left HBF.out (RdR.none_ ⟨bx, ox, none⟩) (M3.out.be.alloc hs3 _).drew hgrow hown4)
            clear hown4 hgrow hat hown3
            go_wp2_with fail
            go_roundw
            case rel => exact ⟨_, _, _, M5⟩
            case measure => simp [lenRow]
          · have hcy2 : ¬ 1 = cx := fun e => hcy e.symm
            have hle := R1.out.val
            obtain ⟨_, _, hle0, hle1, -⟩ := hle
            simp only [Value.slice.injEq, List.length_cons] at hle0 hle1
            obtain ⟨-, -, rfl⟩ := hle0
            have b1 : (1 : Int) ≤ (ra.length : Int) + 1 := by omega
            have b2 : (ra.length : Int) + 1 ≤ (cx : Int) := by omega
            have b3 : 1 ≤ ra.length + 1 := by omega
            have b4 : ra.length + 1 ≤ cx := by omega
            clear hle1
            go_wp2_with fail
            go_region_held3 (fun w' => w'.cell? ⟨bx, ox, none⟩ = some (.slice Ax qx kx))
              (first
                | go_keep
                | (rw [hgrow.cell_far _ (by simp; omega) hfar]; assumption))
              ((refine step_append_lies _ (by rfl) _ _ _ (by rfl) w.heap.size 23 it (.slice none 0 0) 1 24 Try.underlying27 hit hzt0 hzt1 hzt2 rfl (by omega) u7 acc.length (acc.map (·.1)) (by rfl) ((hown3.alloc _).drew)
                  ⟨w3.heap.size, 0, none⟩ 1 1 [.slice Ax qx kx] (by rfl) (by rfl) (World.news_of_block (cs := #[.slice Ax qx kx]) (t := 23) (fr := (0, 0)) (heap_alloc_new w3 _)) (by simp [Value.oneCell'])
                  (by omega) (by unfold maxLen; omega) (by omega) (by simp; omega) (w3.heap.size + 1) (by simp) ?_; intro gg cap w4 hown4 hgrow hat hlt))
            rw [HQ.out.1] at hown4
            have M5 := hid (M3.out.left HBF.out (by have := R1.out.tail hcy; simpa using this) (M3.out.be.alloc hs3 _).drew hgrow hown4)
            clear hown4 hgrow hat hown3
            go_wp2_with fail
            go_roundw
            case rel => exact ⟨_, _, _, M5⟩
            case measure => simp [lenRow]; try omega
end Go.Proofs.Ytkkigdbinnfbfaa
