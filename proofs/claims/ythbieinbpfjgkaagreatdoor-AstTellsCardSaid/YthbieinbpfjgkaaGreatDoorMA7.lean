/-
  The texts AsY, AsZ, AsZr, one behind the other. Conditions: those that each of them names.
-/
import Derived.Test.YthbieinbpfjgkaaGreatDoorMA4
import Derived.Test.YthbieinbpfjgkaaGreatDoorMA1
import Derived.Test.YthbieinbpfjgkaaGreatDoorM1
import Derived.RegionTactic
import Derived.Deep.CutRange
section
/-
  The walks of ty.Same and of the closure of ast.Same. Conditions: slices that read as nodes.
-/
namespace Go.Proofs.YthbieinbpfjgkaaGreatDoor.E
open Go
def sameP (p q : Pt) : Bool := decide (p.kind = q.kind) && (decide (p.label = q.label) && (decide (p.name = q.name) && (decide (p.bind = q.bind) && (decide (p.many = q.many) && (decide (p.num = q.num) && (L.sameL p.t q.t && L.sameL p.u q.u))))))
end Go.Proofs.YthbieinbpfjgkaaGreatDoor.E
namespace Go.Proofs.YthbieinbpfjgkaaGreatDoor
open Go.RowKit Go.Sort

set_option maxHeartbeats 1000000 in
theorem tsame_any (x y : List L.Nd) (vx vy : Value) (w : World) (hx : Rd w w.heap.size vx x) (hy : Rd w w.heap.size vy y) :
    Calls Tryz.prog 38 #[vx, vy] w fun e w' => e = .returned (.bool (L.sameL x y)) ∧ Below w.heap.size w w' := by
  have HE := hid (equalFunc_any x y vx vy w hx hy)
  obtain ⟨A, cap, rfl, -⟩ := hx
  obtain ⟨A2, cap2, rfl, -⟩ := hy
  go_enter Tryz.func38, Tryz.ntmps38
  go_wp2_with fail
  refine (HE.out).mono ?_
  rintro e w1 ⟨rfl, h1⟩
  go_wp2
  go_ret
  exact ⟨rfl, h1⟩

set_option maxHeartbeats 4000000 in
set_option maxRecDepth 100000 in
theorem asame1_any (p q : E.Pt) (vt vu wt wu : Value) (w : World) (ht : Rd w w.heap.size vt p.t) (hu : Rd w w.heap.size vu p.u) (gt : Rd w w.heap.size wt q.t) (gu : Rd w w.heap.size wu q.u) :
    Calls Tryz.prog 37 #[partV p vt vu, partV q wt wu] w fun e w' => e = .returned (.bool (E.sameP p q)) ∧ Below w.heap.size w w' := by
  obtain ⟨k1, l1, n1, b1, m1, z1, t1, u1⟩ := p
  obtain ⟨k2, l2, n2, b2, m2, z2, t2, u2⟩ := q
  have hb : ∀ o o2, Below w.heap.size w ((w.alloc o).alloc o2) := fun o o2 => (below_new _).trans ((below_new _).mono (by simp))
  have HB := hid hb
  clear hb
  obtain ⟨A1, c1, rfl⟩ : ∃ A c, vt = .slice A t1.length c := by obtain ⟨A, c, h, -⟩ := ht; exact ⟨A, c, h⟩
  obtain ⟨A2, c2, rfl⟩ : ∃ A c, vu = .slice A u1.length c := by obtain ⟨A, c, h, -⟩ := hu; exact ⟨A, c, h⟩
  obtain ⟨A3, c3, rfl⟩ : ∃ A c, wt = .slice A t2.length c := by obtain ⟨A, c, h, -⟩ := gt; exact ⟨A, c, h⟩
  obtain ⟨A4, c4, rfl⟩ : ∃ A c, wu = .slice A u2.length c := by obtain ⟨A, c, h, -⟩ := gu; exact ⟨A, c, h⟩
  have HT := hid ht
  have HU := hid hu
  have GT := hid gt
  have GU := hid gu
  clear ht hu gt gu
  unfold partV E.sameP
  simp only
  by_cases h : k1 = k2
  case neg =>
    have e : (k1 == k2) = false := beq_eq_false_iff_ne.2 h
    have HR : Hid (decide (k1 = k2) = false) := hid (decide_eq_false h)
    clear h
    go_enter Tryz.func37, Tryz.ntmps37
    go_wp2
    go_ret
    exact ⟨ret_bool (by simp [HR.out]), HB.out _ _⟩
  subst h
  by_cases h : l1 = l2
  case neg =>
    have e : (l1.toList == l2.toList) = false := by rw [eqS]; simp [h]
    have HR : Hid (decide (l1 = l2) = false) := hid (decide_eq_false h)
    clear h
    go_enter Tryz.func37, Tryz.ntmps37
    go_wp2
    go_ret
    exact ⟨ret_bool (by simp [HR.out]), HB.out _ _⟩
  subst h
  by_cases h : n1 = n2
  case neg =>
    have e : (n1.toList == n2.toList) = false := by rw [eqS]; simp [h]
    have HR : Hid (decide (n1 = n2) = false) := hid (decide_eq_false h)
    clear h
    go_enter Tryz.func37, Tryz.ntmps37
    go_wp2
    go_ret
    exact ⟨ret_bool (by simp [HR.out]), HB.out _ _⟩
  subst h
  by_cases h : b1 = b2
  case neg =>
    have e : (b1.toList == b2.toList) = false := by rw [eqS]; simp [h]
    have HR : Hid (decide (b1 = b2) = false) := hid (decide_eq_false h)
    clear h
    go_enter Tryz.func37, Tryz.ntmps37
    go_wp2
    go_ret
    exact ⟨ret_bool (by simp [HR.out]), HB.out _ _⟩
  subst h
  by_cases h : m1 = m2
  case neg =>
    have e : (m1 == m2) = false := beq_eq_false_iff_ne.2 h
    have HR : Hid (decide (m1 = m2) = false) := hid (decide_eq_false h)
    clear h
    go_enter Tryz.func37, Tryz.ntmps37
    go_wp2
    go_ret
    exact ⟨ret_bool (by simp [HR.out]), HB.out _ _⟩
  subst h
  by_cases h : z1 = z2
  case neg =>
    have e : (z1 == z2) = false := beq_eq_false_iff_ne.2 h
    have HR : Hid (decide (z1 = z2) = false) := hid (decide_eq_false h)
    clear h
    go_enter Tryz.func37, Tryz.ntmps37
    go_wp2
    go_ret
    exact ⟨ret_bool (by simp [HR.out]), HB.out _ _⟩
  subst h
  have hs1 := fun (s : ByteArray) => (show (s.toList == s.toList) = true by simp)
  have R1 := fun (x : List L.Nd) (v : Value) (h : Rd w w.heap.size v x) (o o2 : Obj) => (h.below (HB.out o o2)).mono (HB.out o o2).size
  simp only [decide_true, Bool.true_and]
  cases hst : L.sameL t1 t2 with
  | false =>
    have HST := hid hst
    clear hst
    have TS := hid (fun (W : World) (h : Below w.heap.size w W) => tsame_any t1 t2 (.slice A1 t1.length c1) (.slice A3 t2.length c3) W ((HT.out.below h).mono h.size) ((GT.out.below h).mono h.size))
    rw [HST.out] at TS
    clear R1
    have R1 := hid HB.out
    go_enter Tryz.func37, Tryz.ntmps37
    go_wp2_with fail
    refine (TS.out _ (HB.out _ _)).mono ?_
    rintro e w1 ⟨rfl, h1⟩
    go_wp2
    go_ret
    exact ⟨ret_bool (by simp), (HB.out _ _).trans (h1.mono (HB.out _ _).size)⟩
  | true =>
    have HST := hid hst
    clear hst R1
    have TS := hid (fun (W : World) (h : Below w.heap.size w W) => tsame_any t1 t2 (.slice A1 t1.length c1) (.slice A3 t2.length c3) W ((HT.out.below h).mono h.size) ((GT.out.below h).mono h.size))
    have US := hid (fun (W : World) (h : Below w.heap.size w W) => tsame_any u1 u2 (.slice A2 u1.length c2) (.slice A4 u2.length c4) W ((HU.out.below h).mono h.size) ((GU.out.below h).mono h.size))
    rw [HST.out] at TS
    have hnb : ∀ w1, Below ((w.alloc (.cells #[.int .i64 k1, .string l1, .string n1, .string b1, .int .i64 m1, .int .i64 z1, .slice A1 t1.length c1, .slice A2 u1.length c2] 39)).alloc (.cells #[.int .i64 k1, .string l1, .string n1, .string b1, .int .i64 m1, .int .i64 z1, .slice A3 t2.length c3, .slice A4 u2.length c4] 39)).heap.size ((w.alloc (.cells #[.int .i64 k1, .string l1, .string n1, .string b1, .int .i64 m1, .int .i64 z1, .slice A1 t1.length c1, .slice A2 u1.length c2] 39)).alloc (.cells #[.int .i64 k1, .string l1, .string n1, .string b1, .int .i64 m1, .int .i64 z1, .slice A3 t2.length c3, .slice A4 u2.length c4] 39)) w1 →
        w1.cell? ⟨w.heap.size, 7, none⟩ = some (.slice A2 u1.length c2) ∧ w1.cell? ⟨w.heap.size + 1, 7, none⟩ = some (.slice A4 u2.length c4) := fun w1 h1 => by
      have e1 : w1.heap[w.heap.size]? = some (.cells #[.int .i64 k1, .string l1, .string n1, .string b1, .int .i64 m1, .int .i64 z1, .slice A1 t1.length c1, .slice A2 u1.length c2] 39 (0, 0)) := (h1.block _ (by simp; omega)).trans ((heap_alloc_old _ _ (by simp)).trans (heap_alloc_new _ _))
      have e0 := heap_alloc_new (w.alloc (.cells #[.int .i64 k1, .string l1, .string n1, .string b1, .int .i64 m1, .int .i64 z1, .slice A1 t1.length c1, .slice A2 u1.length c2] 39)) (.cells #[.int .i64 k1, .string l1, .string n1, .string b1, .int .i64 m1, .int .i64 z1, .slice A3 t2.length c3, .slice A4 u2.length c4] 39)
      rw [show (w.alloc (.cells #[.int .i64 k1, .string l1, .string n1, .string b1, .int .i64 m1, .int .i64 z1, .slice A1 t1.length c1, .slice A2 u1.length c2] 39)).heap.size = w.heap.size + 1 by simp] at e0
      have e2 := (h1.block (w.heap.size + 1) (by simp)).trans e0
      exact ⟨Lib.cell_of_heap e1 7, Lib.cell_of_heap e2 7⟩
    have HNB := hid hnb
    clear hnb
    go_enter Tryz.func37, Tryz.ntmps37
    go_wp2_with fail
    refine (TS.out _ (HB.out _ _)).mono ?_
    rintro e w1 ⟨rfl, h1⟩
    obtain ⟨d1, d2⟩ := HNB.out w1 h1
    have H1 := hid ((HB.out _ _).trans (h1.mono (HB.out _ _).size))
    clear h1 HNB
    go_wp2_with fail
    refine (US.out _ H1.out).mono ?_
    rintro e w2 ⟨rfl, h2⟩
    go_wp2
    go_ret
    exact ⟨ret_bool (by simp), H1.out.trans (h2.mono H1.out.size)⟩

end Go.Proofs.YthbieinbpfjgkaaGreatDoor
end

section
/-
  The walk of ast.Same. Conditions: slices that read as parts.
-/
namespace Go.Proofs.YthbieinbpfjgkaaGreatDoor.E
open Go
def sameE : List Pt → List Pt → Bool
  | [], [] => true
  | x :: a, y :: b => sameP x y && sameE a b
  | _, _ => false
theorem sameE_len : ∀ {a b : List Pt}, sameE a b = true → a.length = b.length
  | [], [], _ => rfl
  | [], _ :: _, h => by simp [sameE] at h
  | _ :: _, [], h => by simp [sameE] at h
  | x :: a, y :: b, h => by
    simp [sameE] at h
    simp [sameE_len h.2]
theorem sameE_step {a b : List Pt} {i : Nat} (ha : i < a.length) (hb : i < b.length) : sameE (a.drop i) (b.drop i) = (sameP a[i] b[i] && sameE (a.drop (i + 1)) (b.drop (i + 1))) := by
  rw [List.drop_eq_getElem_cons ha, List.drop_eq_getElem_cons hb, sameE]
end Go.Proofs.YthbieinbpfjgkaaGreatDoor.E
namespace Go.Proofs.YthbieinbpfjgkaaGreatDoor
open Go.RowKit Go.Sort

set_option maxHeartbeats 4000000 in
set_option maxRecDepth 100000 in
theorem aequal_any (x y : List E.Pt) (vx vy : Value) (w : World) (hx : RdP w w.heap.size vx x) (hy : RdP w w.heap.size vy y) :
    Calls Tryz.prog 36 #[vx, vy, .func (.func 37) #[] #[]] w fun e w' => e = .returned (.bool (E.sameE x y)) ∧ Below w.heap.size w w' := by
  have HX := hid hx
  have HY := hid hy
  obtain ⟨A, cap, rfl, hl1, hl2, hcx⟩ := hx
  obtain ⟨A2, cap2, rfl, hm1, hm2, hcy⟩ := hy
  unfold maxLen at hl2 hm2
  have HCX := hid hcx
  have HCY := hid hcy
  clear hcx hcy
  by_cases hlen : x.length = y.length
  · go_enter Tryz.func36, Tryz.ntmps36
    rw [hlen]
    go_wp2
    go_loopw [17] (fun vi wr => ∃ k : Nat, vi = .int .i64 k ∧ k ≤ y.length ∧ Below w.heap.size w wr ∧ Hid (E.sameE (x.drop k) (y.drop k) = E.sameE x y)) (fun vi _ => y.length - (intOf vi).toNat)
    case atStart => exact ⟨0, rfl, by omega, Below.refl _ _, hid rfl⟩
    case round =>
      obtain ⟨k, rfl, hk, hB, hS⟩ := hrel
      by_cases hlt : k < y.length
      · obtain ⟨b, o, vt, vu, hA, hb, x0, x1, x2, x3, x4, x5, x6, x7, ht, hu⟩ := RdP.at HX.out hB (i := k) (by omega)
        obtain ⟨b2, o2, wt, wu, hA2, hb2, y0, y1, y2, y3, y4, y5, y6, y7, gt, gu⟩ := RdP.at HY.out hB (i := k) hlt
        subst hA hA2
        have hN : Hid (E.sameE (x.drop k) (y.drop k) = (E.sameP x[k] y[k] && E.sameE (x.drop (k + 1)) (y.drop (k + 1)))) := hid (E.sameE_step (by omega) hlt)
        have SM := hid (fun (W : World) (h : Below w.heap.size w W) => asame1_any x[k] y[k] vt vu wt wu W ((ht.below h).mono h.size) ((hu.below h).mono h.size) ((gt.below h).mono h.size) ((gu.below h).mono h.size))
        obtain ⟨A5, c5, rfl⟩ : ∃ A c, vt = .slice A x[k].t.length c := by obtain ⟨A, c, h, -⟩ := ht; exact ⟨A, c, h⟩
        obtain ⟨A6, c6, rfl⟩ : ∃ A c, vu = .slice A x[k].u.length c := by obtain ⟨A, c, h, -⟩ := hu; exact ⟨A, c, h⟩
        obtain ⟨A7, c7, rfl⟩ : ∃ A c, wt = .slice A y[k].t.length c := by obtain ⟨A, c, h, -⟩ := gt; exact ⟨A, c, h⟩
        obtain ⟨A8, c8, rfl⟩ : ∃ A c, wu = .slice A y[k].u.length c := by obtain ⟨A, c, h, -⟩ := gu; exact ⟨A, c, h⟩
        clear ht hu gt gu
        generalize x[k] = X at *
        generalize y[k] = Y at *
        obtain ⟨k1, l1, n1, b1', m1, z1, t1, u1⟩ := X
        obtain ⟨k2, l2, n2, b2', m2, z2, t2, u2⟩ := Y
        unfold partV at SM
        simp only at SM x0 x1 x2 x3 x4 x5 x6 x7 y0 y1 y2 y3 y4 y5 y6 y7
        have hbw := hB.size
        have g1 : b < wr.heap.size := by omega
        have g2 : b2 < wr.heap.size := by omega
        have g3 : b ≠ wr.heap.size := by omega
        have g4 : b2 ≠ wr.heap.size := by omega
        have HBO := hid (fun (o o2 : Obj) => hB.trans (((below_new (w := wr) o).trans ((below_new o2).mono (by simp))).mono hbw))
        generalize hsp : E.sameP ⟨k1, l1, n1, b1', m1, z1, t1, u1⟩ ⟨k2, l2, n2, b2', m2, z2, t2, u2⟩ = sp at *
        clear hsp
        cases sp with
        | false =>
          have hz : Hid (E.sameE x y = false) := hid (by rw [← hS.out, hN.out]; rfl)
          go_wp2_with fail
          refine (SM.out _ (HBO.out _ _)).mono ?_
          rintro e w' ⟨rfl, hb'⟩
          have hB2 := (HBO.out _ _).trans (hb'.mono (HBO.out _ _).size)
          go_wp2
          go_ret
          exact ⟨ret_bool hz.out.symm, hB2⟩
        | true =>
          have hz : Hid (E.sameE (x.drop (k + 1)) (y.drop (k + 1)) = E.sameE x y) := hid (by rw [← hS.out, hN.out]; rfl)
          go_wp2_with fail
          refine (SM.out _ (HBO.out _ _)).mono ?_
          rintro e w' ⟨rfl, hb'⟩
          have hB2 := (HBO.out _ _).trans (hb'.mono (HBO.out _ _).size)
          go_wp2
          go_roundw
          case rel => exact ⟨k + 1, by go_num, by omega, hB2, hz⟩
          case measure => simp [intOf]; omega
      · go_wp2
        go_ret
        refine ⟨ret_bool ?_, hB⟩
        rw [← hS.out, List.drop_eq_nil_of_le (by omega), List.drop_eq_nil_of_le (by omega)]
        rfl
  · go_enter Tryz.func36, Tryz.ntmps36
    have h2 : ((x.length : Int) != (y.length : Int)) = true := by simp; omega
    go_wp2
    go_ret
    refine ⟨ret_bool ?_, Below.refl _ _⟩
    cases hh : E.sameE x y with
    | false => rfl
    | true => exact absurd (E.sameE_len hh) hlen

set_option maxHeartbeats 1000000 in
set_option maxRecDepth 100000 in
theorem asame_any (x y : List E.Pt) (vx vy : Value) (w : World) (hx : RdP w w.heap.size vx x) (hy : RdP w w.heap.size vy y) :
    Calls Tryz.prog 14 #[vx, vy] w fun e w' => e = .returned (.bool (E.sameE x y)) ∧ Below w.heap.size w w' := by
  have HE := hid (aequal_any x y vx vy w hx hy)
  obtain ⟨A, cap, rfl, -⟩ := hx
  obtain ⟨A2, cap2, rfl, -⟩ := hy
  go_enter Tryz.func14, Tryz.ntmps14
  go_wp2_with fail
  refine (HE.out).mono ?_
  rintro e w1 ⟨rfl, hb⟩
  go_wp2
  go_ret
  exact ⟨rfl, hb⟩

end Go.Proofs.YthbieinbpfjgkaaGreatDoor
end

section
/-
  The walk of the reference's Same of expressions. Conditions: slices that read as parts.
-/
namespace Go.Proofs.YthbieinbpfjgkaaGreatDoor
open Go.RowKit Go.Sort

theorem two_newP (w : World) (o1 o2 : Obj) : ((w.alloc o1).alloc o2).drew.heap[w.heap.size]? = some o1 ∧ ((w.alloc o1).alloc o2).drew.heap[w.heap.size + 1]? = some o2 := by
  constructor
  · exact (heap_alloc_old _ _ (by simp)).trans (heap_alloc_new _ _)
  · have := heap_alloc_new (w.alloc o1) o2
    rwa [show (w.alloc o1).heap.size = w.heap.size + 1 by simp] at this
theorem below_drewP {B : Nat} {a w : World} (h : Below B a w) : Below B a w.drew := ⟨h.os, h.tape, h.output, h.size, h.block⟩

set_option maxHeartbeats 4000000 in
set_option maxRecDepth 100000 in
theorem refasame_any (x y : List E.Pt) (vx vy : Value) (w : World) (hx : RdP w w.heap.size vx x) (hy : RdP w w.heap.size vy y) :
    Calls Tryz.prog 15 #[vx, vy] w fun e w' => e = .returned (.bool (E.sameE x y)) ∧ Below w.heap.size w w' := by
  have HX := hid hx
  have HY := hid hy
  obtain ⟨A, cap, rfl, hl1, hl2, -⟩ := hx
  obtain ⟨A2, cap2, rfl, hm1, hm2, -⟩ := hy
  unfold maxLen at hl2 hm2
  by_cases hlen : x.length = y.length
  · have e0 : ((x.length : Int) != (y.length : Int)) = false := by rw [hlen]; simp
    have HLEN := hid hlen
    clear hlen
    go_enter Tryz.func15, Tryz.ntmps15
    go_wp2_with fail
    go_loopw [5] (fun vi wr => ∃ k : Nat, vi = .int .i64 k ∧ k ≤ x.length ∧ Below w.heap.size w wr ∧ Hid (E.sameE (x.drop k) (y.drop k) = E.sameE x y)) (fun vi _ => x.length - (intOf vi).toNat)
    case atStart => exact ⟨0, rfl, by omega, Below.refl _ _, hid rfl⟩
    case round =>
      obtain ⟨k, rfl, hk, hB, hS⟩ := hrel
      by_cases hlt : k < x.length
      · have hly : k < y.length := by have := HLEN.out; omega
        obtain ⟨b, o, vt, vu, hA, hb, x0, x1, x2, x3, x4, x5, x6, x7, ht, hu⟩ := RdP.at HX.out hB (i := k) hlt
        obtain ⟨b2, o2, wt, wu, hA2, hb2, y0, y1, y2, y3, y4, y5, y6, y7, gt, gu⟩ := RdP.at HY.out hB (i := k) hly
        subst hA hA2
        have hN : Hid (E.sameE (x.drop k) (y.drop k) = (E.sameP x[k] y[k] && E.sameE (x.drop (k + 1)) (y.drop (k + 1)))) := hid (E.sameE_step hlt hly)
        obtain ⟨A5, c5, rfl⟩ : ∃ A c, vt = .slice A x[k].t.length c := by obtain ⟨A, c, h, -⟩ := ht; exact ⟨A, c, h⟩
        obtain ⟨A6, c6, rfl⟩ : ∃ A c, vu = .slice A x[k].u.length c := by obtain ⟨A, c, h, -⟩ := hu; exact ⟨A, c, h⟩
        obtain ⟨A7, c7, rfl⟩ : ∃ A c, wt = .slice A y[k].t.length c := by obtain ⟨A, c, h, -⟩ := gt; exact ⟨A, c, h⟩
        obtain ⟨A8, c8, rfl⟩ : ∃ A c, wu = .slice A y[k].u.length c := by obtain ⟨A, c, h, -⟩ := gu; exact ⟨A, c, h⟩
        generalize x[k] = X at *
        generalize y[k] = Y at *
        obtain ⟨k1, l1, n1, b1', m1, z1, t1, u1⟩ := X
        obtain ⟨k2, l2, n2, b2', m2, z2, t2, u2⟩ := Y
        simp only at ht hu gt gu x0 x1 x2 x3 x4 x5 x6 x7 y0 y1 y2 y3 y4 y5 y6 y7
        have TS := hid (fun (W : World) (h : Below w.heap.size w W) => refSame_any t1 t2 (.slice A5 t1.length c5) (.slice A7 t2.length c7) W ((ht.below h).mono h.size) ((gt.below h).mono h.size))
        have US := hid (fun (W : World) (h : Below w.heap.size w W) => refSame_any u1 u2 (.slice A6 u1.length c6) (.slice A8 u2.length c8) W ((hu.below h).mono h.size) ((gu.below h).mono h.size))
        clear ht hu gt gu
        have hbw := hB.size
        have q1 : b ≠ wr.heap.size := by omega
        have q2 : b ≠ wr.heap.size + 1 := by omega
        have q3 : b2 ≠ wr.heap.size := by omega
        have q4 : b2 ≠ wr.heap.size + 1 := by omega
        have q5 : b < wr.heap.size + 1 := by omega
        have q7 : b < wr.heap.size := by omega
        have q8 : b2 < wr.heap.size := by omega
        have q6 : b2 < wr.heap.size + 1 := by omega
        have hkx : (k : Int) < (x.length : Int) := by omega
        have hky : (k : Int) < (y.length : Int) := by omega
        go_upto_region 6 with fail
        go_cut [6, 7] from 13 to 80 (fun s5 s6 wx => ∃ bx bz : Nat, s5 = .pointer (some ⟨bx, 0, none⟩) ∧ s6 = .pointer (some ⟨bz, 0, none⟩) ∧ wx.heap[bx]? = some (.cells #[.int .i64 k1, .string l1, .string n1, .string b1', .int .i64 m1, .int .i64 z1, .slice A5 t1.length c5, .slice A6 u1.length c6] 39 (0, 0)) ∧ wx.heap[bz]? = some (.cells #[.int .i64 k2, .string l2, .string n2, .string b2', .int .i64 m2, .int .i64 z2, .slice A7 t2.length c7, .slice A8 u2.length c8] 39 (0, 0)) ∧ Below wr.heap.size wr wx)
        case first =>
          go_wp2_with fail
          go_region
          all_goals go_wp2_with fail
          all_goals go_meet
          · exact ⟨_, _, rfl, rfl, (two_newP _ _ _).1, (two_newP _ _ _).2, below_drewP ((below_new _).trans ((below_new _).mono (by simp)))⟩
          · exact ⟨_, _, rfl, rfl, (two_newP _ _ _).2, (two_newP _ _ _).1, below_drewP ((below_new _).trans ((below_new _).mono (by simp)))⟩
        case rest =>
          obtain ⟨bx, bz, rfl, rfl, hbx, hbz, hwc⟩ := hcut
          have HBC := hid (hB.trans (hwc.mono hbw))
          clear x0 x1 x2 x3 x4 x5 x6 x7 y0 y1 y2 y3 y4 y5 y6 y7 q1 q2 q3 q4 q5 q6 q7 q8 hwc
          have HBX := hid hbx
          have HBZ := hid hbz
          have r0 : wc.cell? ⟨bx, 0, none⟩ = some (.int .i64 k1) := Lib.cell_of_heap hbx 0
          have r1 : wc.cell? ⟨bx, 1, none⟩ = some (.string l1) := Lib.cell_of_heap hbx 1
          have r2 : wc.cell? ⟨bx, 2, none⟩ = some (.string n1) := Lib.cell_of_heap hbx 2
          have r3 : wc.cell? ⟨bx, 3, none⟩ = some (.string b1') := Lib.cell_of_heap hbx 3
          have r4 : wc.cell? ⟨bx, 4, none⟩ = some (.int .i64 m1) := Lib.cell_of_heap hbx 4
          have r5 : wc.cell? ⟨bx, 5, none⟩ = some (.int .i64 z1) := Lib.cell_of_heap hbx 5
          have r6 : wc.cell? ⟨bx, 6, none⟩ = some (.slice A5 t1.length c5) := Lib.cell_of_heap hbx 6
          have s0 : wc.cell? ⟨bz, 0, none⟩ = some (.int .i64 k2) := Lib.cell_of_heap hbz 0
          have s1 : wc.cell? ⟨bz, 1, none⟩ = some (.string l2) := Lib.cell_of_heap hbz 1
          have s2 : wc.cell? ⟨bz, 2, none⟩ = some (.string n2) := Lib.cell_of_heap hbz 2
          have s3 : wc.cell? ⟨bz, 3, none⟩ = some (.string b2') := Lib.cell_of_heap hbz 3
          have s4 : wc.cell? ⟨bz, 4, none⟩ = some (.int .i64 m2) := Lib.cell_of_heap hbz 4
          have s5 : wc.cell? ⟨bz, 5, none⟩ = some (.int .i64 z2) := Lib.cell_of_heap hbz 5
          have s6 : wc.cell? ⟨bz, 6, none⟩ = some (.slice A7 t2.length c7) := Lib.cell_of_heap hbz 6
          clear hbx hbz
          by_cases h : k1 = k2
          case neg =>
            have e : (k1 == k2) = false := beq_eq_false_iff_ne.2 h
            have hz : Hid (E.sameE x y = false) := hid (by rw [← hS.out, hN.out]; simp [E.sameP, h])
            have e2 : (k1 != k2) = true := by rw [bne, e]; rfl
            go_wp2
            go_ret
            exact ⟨ret_bool hz.out.symm, HBC.out⟩
          subst h
          by_cases h : l1 = l2
          case neg =>
            have e : (l1.toList == l2.toList) = false := by rw [eqS]; simp [h]
            have e2 : (l1.toList != l2.toList) = true := by rw [bne, e]; rfl
            have hz : Hid (E.sameE x y = false) := hid (by rw [← hS.out, hN.out]; simp [E.sameP, h])
            clear h
            go_wp2
            go_ret
            exact ⟨ret_bool hz.out.symm, HBC.out⟩
          subst h
          have e_l : (l1.toList == l1.toList) = true := by simp
          have f_l : (l1.toList != l1.toList) = false := by simp
          by_cases h : n1 = n2
          case neg =>
            have e : (n1.toList == n2.toList) = false := by rw [eqS]; simp [h]
            have e2 : (n1.toList != n2.toList) = true := by rw [bne, e]; rfl
            have hz : Hid (E.sameE x y = false) := hid (by rw [← hS.out, hN.out]; simp [E.sameP, h])
            clear h
            go_wp2
            go_ret
            exact ⟨ret_bool hz.out.symm, HBC.out⟩
          subst h
          have e_n : (n1.toList == n1.toList) = true := by simp
          have f_n : (n1.toList != n1.toList) = false := by simp
          by_cases h : b1' = b2'
          case neg =>
            have e : (b1'.toList == b2'.toList) = false := by rw [eqS]; simp [h]
            have e2 : (b1'.toList != b2'.toList) = true := by rw [bne, e]; rfl
            have hz : Hid (E.sameE x y = false) := hid (by rw [← hS.out, hN.out]; simp [E.sameP, h])
            clear h
            go_wp2
            go_ret
            exact ⟨ret_bool hz.out.symm, HBC.out⟩
          subst h
          have e_b : (b1'.toList == b1'.toList) = true := by simp
          have f_b : (b1'.toList != b1'.toList) = false := by simp
          by_cases h : m1 = m2
          case neg =>
            have e : (m1 == m2) = false := beq_eq_false_iff_ne.2 h
            have hz : Hid (E.sameE x y = false) := hid (by rw [← hS.out, hN.out]; simp [E.sameP, h])
            have e2 : (m1 != m2) = true := by rw [bne, e]; rfl
            go_wp2
            go_ret
            exact ⟨ret_bool hz.out.symm, HBC.out⟩
          subst h
          by_cases h : z1 = z2
          case neg =>
            have e : (z1 == z2) = false := beq_eq_false_iff_ne.2 h
            have hz : Hid (E.sameE x y = false) := hid (by rw [← hS.out, hN.out]; simp [E.sameP, h])
            have e2 : (z1 != z2) = true := by rw [bne, e]; rfl
            go_wp2
            go_ret
            exact ⟨ret_bool hz.out.symm, HBC.out⟩
          subst h
          have hP : Hid (E.sameP ⟨k1, l1, n1, b1', m1, z1, t1, u1⟩ ⟨k1, l1, n1, b1', m1, z1, t2, u2⟩ = (L.sameL t1 t2 && L.sameL u1 u2)) := hid (by simp [E.sameP])
          cases hst : L.sameL t1 t2 with
          | false =>
            have hz : Hid (E.sameE x y = false) := hid (by rw [← hS.out, hN.out, hP.out, hst]; rfl)
            rw [hst] at TS
            clear hst
            go_wp2_with fail
            refine (TS.out _ HBC.out).mono ?_
            rintro e w5 ⟨rfl, h5⟩
            go_wp2
            go_ret
            exact ⟨ret_bool hz.out.symm, HBC.out.trans (h5.mono HBC.out.size)⟩
          | true =>
            rw [hst] at TS
            have hQ : Hid (E.sameE (x.drop k) (y.drop k) = (L.sameL u1 u2 && E.sameE (x.drop (k + 1)) (y.drop (k + 1)))) := hid (by rw [hN.out, hP.out, hst]; rfl)
            clear hst
            go_wp2_with fail
            refine (TS.out _ HBC.out).mono ?_
            rintro e w5 ⟨rfl, h5⟩
            have r7 : w5.cell? ⟨bx, 7, none⟩ = some (.slice A6 u1.length c6) := Lib.cell_of_heap ((h5.block bx (heap_lt HBX.out)).trans HBX.out) 7
            have s7 : w5.cell? ⟨bz, 7, none⟩ = some (.slice A8 u2.length c8) := Lib.cell_of_heap ((h5.block bz (heap_lt HBZ.out)).trans HBZ.out) 7
            have HB5 := hid (HBC.out.trans (h5.mono HBC.out.size))
            clear h5 r0 r1 r2 r3 r4 r5 r6 s0 s1 s2 s3 s4 s5 s6 HBX HBZ
            cases hsu : L.sameL u1 u2 with
            | false =>
              have hz : Hid (E.sameE x y = false) := hid (by rw [← hS.out, hQ.out, hsu]; rfl)
              rw [hsu] at US
              clear hsu
              go_wp2_with fail
              refine (US.out _ HB5.out).mono ?_
              rintro e w6 ⟨rfl, h6⟩
              go_wp2
              go_ret
              exact ⟨ret_bool hz.out.symm, HB5.out.trans (h6.mono HB5.out.size)⟩
            | true =>
              have hz : Hid (E.sameE (x.drop (k + 1)) (y.drop (k + 1)) = E.sameE x y) := hid (by rw [← hS.out, hQ.out, hsu]; rfl)
              rw [hsu] at US
              clear hsu
              go_wp2_with fail
              refine (US.out _ HB5.out).mono ?_
              rintro e w6 ⟨rfl, h6⟩
              go_wp2
              go_roundw
              case rel => exact ⟨k + 1, by go_num, by omega, HB5.out.trans (h6.mono HB5.out.size), hz⟩
              case measure => simp [intOf]; omega
      · have hkx : ¬ (k : Int) < (x.length : Int) := by omega
        go_wp2
        go_ret
        refine ⟨ret_bool ?_, hB⟩
        rw [← hS.out, List.drop_eq_nil_of_le (by omega), List.drop_eq_nil_of_le (by have := HLEN.out; omega)]
        rfl
  · have e0 : ((x.length : Int) != (y.length : Int)) = true := by simp; omega
    go_enter Tryz.func15, Tryz.ntmps15
    go_wp2
    go_ret
    refine ⟨ret_bool ?_, Below.refl _ _⟩
    cases hh : E.sameE x y with
    | false => rfl
    | true => exact absurd (E.sameE_len hh) hlen

end Go.Proofs.YthbieinbpfjgkaaGreatDoor
end
