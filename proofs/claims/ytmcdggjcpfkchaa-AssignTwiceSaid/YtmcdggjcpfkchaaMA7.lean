/-
  The texts AsY, AsZ, AsZr, AsZo, one behind the other. Conditions: those that each of them names.
-/
import Derived.Test.YtmcdggjcpfkchaaMA4
import Derived.Test.YtmcdggjcpfkchaaMA1
import Derived.Test.YtmcdggjcpfkchaaM1
import Derived.RegionTactic
import Derived.Deep.CutRange
section
/-
  The walks of ty.Same and of the closure of ast.Same. Conditions: slices that read as nodes.
-/
namespace Go.Proofs.Ytmcdggjcpfkchaa.E
open Go
def sameP (p q : Pt) : Bool := decide (p.kind = q.kind) && (decide (p.label = q.label) && (decide (p.name = q.name) && (decide (p.bind = q.bind) && (decide (p.many = q.many) && (decide (p.num = q.num) && (L.sameL p.t q.t && L.sameL p.u q.u))))))
end Go.Proofs.Ytmcdggjcpfkchaa.E
namespace Go.Proofs.Ytmcdggjcpfkchaa
open Go.RowKit Go.Sort

end Go.Proofs.Ytmcdggjcpfkchaa
end

section
/-
  The walk of ast.Same. Conditions: slices that read as parts.
-/
namespace Go.Proofs.Ytmcdggjcpfkchaa.E
open Go
def sameE : List Pt → List Pt → Bool
  | [], [] => true
  | x :: a, y :: b => sameP x y && sameE a b
  | _, _ => false
theorem sameE_len : ∀ {a b : List Pt}, sameE a b = true → a.length = b.length
  | [], [], _ => rfl
  | [], _ :: _, h => by simp [sameE] at h
  | _ :: _, [], h => by simp [sameE] at h
  | x :: a, y :: b, h => by
    simp [sameE] at h
    simp [sameE_len h.2]
theorem sameE_step {a b : List Pt} {i : Nat} (ha : i < a.length) (hb : i < b.length) : sameE (a.drop i) (b.drop i) = (sameP a[i] b[i] && sameE (a.drop (i + 1)) (b.drop (i + 1))) := by
  rw [List.drop_eq_getElem_cons ha, List.drop_eq_getElem_cons hb, sameE]
end Go.Proofs.Ytmcdggjcpfkchaa.E
namespace Go.Proofs.Ytmcdggjcpfkchaa
open Go.RowKit Go.Sort

end Go.Proofs.Ytmcdggjcpfkchaa
end

section
/-
  The walk of the reference's Same of expressions. Conditions: slices that read as parts.
-/
namespace Go.Proofs.Ytmcdggjcpfkchaa
open Go.RowKit Go.Sort

theorem two_newP (w : World) (o1 o2 : Obj) : ((w.alloc o1).alloc o2).drew.heap[w.heap.size]? = some o1 ∧ ((w.alloc o1).alloc o2).drew.heap[w.heap.size + 1]? = some o2 := by
  constructor
  · exact (heap_alloc_old _ _ (by simp)).trans (heap_alloc_new _ _)
  · have := heap_alloc_new (w.alloc o1) o2
    rwa [show (w.alloc o1).heap.size = w.heap.size + 1 by simp] at this
theorem below_drewP {B : Nat} {a w : World} (h : Below B a w) : Below B a w.drew := ⟨h.os, h.tape, h.output, h.size, h.block⟩

set_option maxHeartbeats 4000000 in
set_option maxRecDepth 100000 in
theorem refasame_any (x y : List E.Pt) (vx vy : Value) (w : World) (hx : RdP w w.heap.size vx x) (hy : RdP w w.heap.size vy y) :
    Calls Try.prog 31 #[vx, vy] w fun e w' => e = .returned (.bool (E.sameE x y)) ∧ Below w.heap.size w w' := by
  have HX := hid hx
  have HY := hid hy
  obtain ⟨A, cap, rfl, hl1, hl2, -⟩ := hx
  obtain ⟨A2, cap2, rfl, hm1, hm2, -⟩ := hy
  unfold maxLen at hl2 hm2
  by_cases hlen : x.length = y.length
  · have e0 : ((x.length : Int) != (y.length : Int)) = false := by rw [hlen]; simp
    have HLEN := hid hlen
    clear hlen
    go_enter Try.func31, Try.ntmps31
    go_wp2_with fail
    go_loopw [5] (fun vi wr => ∃ k : Nat, vi = .int .i64 k ∧ k ≤ x.length ∧ Below w.heap.size w wr ∧ Hid (E.sameE (x.drop k) (y.drop k) = E.sameE x y)) (fun vi _ => x.length - (intOf vi).toNat)
    case atStart => exact ⟨0, rfl, by omega, Below.refl _ _, hid rfl⟩
    case round =>
      obtain ⟨k, rfl, hk, hB, hS⟩ := hrel
      by_cases hlt : k < x.length
      · have hly : k < y.length := by have := HLEN.out; omega
        obtain ⟨b, o, vt, vu, hA, hb, x0, x1, x2, x3, x4, x5, x6, x7, ht, hu⟩ := RdP.at HX.out hB (i := k) hlt
        obtain ⟨b2, o2, wt, wu, hA2, hb2, y0, y1, y2, y3, y4, y5, y6, y7, gt, gu⟩ := RdP.at HY.out hB (i := k) hly
        subst hA hA2
        have hN : Hid (E.sameE (x.drop k) (y.drop k) = (E.sameP x[k] y[k] && E.sameE (x.drop (k + 1)) (y.drop (k + 1)))) := hid (E.sameE_step hlt hly)
        obtain ⟨A5, c5, rfl⟩ : ∃ A c, vt = .slice A x[k].t.length c := by obtain ⟨A, c, h, -⟩ := ht; exact ⟨A, c, h⟩
        obtain ⟨A6, c6, rfl⟩ : ∃ A c, vu = .slice A x[k].u.length c := by obtain ⟨A, c, h, -⟩ := hu; exact ⟨A, c, h⟩
        obtain ⟨A7, c7, rfl⟩ : ∃ A c, wt = .slice A y[k].t.length c := by obtain ⟨A, c, h, -⟩ := gt; exact ⟨A, c, h⟩
        obtain ⟨A8, c8, rfl⟩ : ∃ A c, wu = .slice A y[k].u.length c := by obtain ⟨A, c, h, -⟩ := gu; exact ⟨A, c, h⟩
        generalize x[k] = X at *
        generalize y[k] = Y at *
        obtain ⟨k1, l1, n1, b1', m1, z1, t1, u1⟩ := X
        obtain ⟨k2, l2, n2, b2', m2, z2, t2, u2⟩ := Y
        simp only at ht hu gt gu x0 x1 x2 x3 x4 x5 x6 x7 y0 y1 y2 y3 y4 y5 y6 y7
        have TS := hid (fun (W : World) (h : Below w.heap.size w W) => refSame_any t1 t2 (.slice A5 t1.length c5) (.slice A7 t2.length c7) W ((ht.below h).mono h.size) ((gt.below h).mono h.size))
        have US := hid (fun (W : World) (h : Below w.heap.size w W) => refSame_any u1 u2 (.slice A6 u1.length c6) (.slice A8 u2.length c8) W ((hu.below h).mono h.size) ((gu.below h).mono h.size))
        clear ht hu gt gu
        have hbw := hB.size
        have q1 : b ≠ wr.heap.size := by omega
        have q2 : b ≠ wr.heap.size + 1 := by omega
        have q3 : b2 ≠ wr.heap.size := by omega
        have q4 : b2 ≠ wr.heap.size + 1 := by omega
        have q5 : b < wr.heap.size + 1 := by omega
        have q7 : b < wr.heap.size := by omega
        have q8 : b2 < wr.heap.size := by omega
        have q6 : b2 < wr.heap.size + 1 := by omega
        have hkx : (k : Int) < (x.length : Int) := by omega
        have hky : (k : Int) < (y.length : Int) := by omega
        go_upto_region 6 with fail
        go_cut [6, 7] from 13 to 80 (fun s5 s6 wx => ∃ bx bz : Nat, s5 = .pointer (some ⟨bx, 0, none⟩) ∧ s6 = .pointer (some ⟨bz, 0, none⟩) ∧ wx.heap[bx]? = some (.cells #[.int .i64 k1, .string l1, .string n1, .string b1', .int .i64 m1, .int .i64 z1, .slice A5 t1.length c5, .slice A6 u1.length c6] 49 (0, 0)) ∧ wx.heap[bz]? = some (.cells #[.int .i64 k2, .string l2, .string n2, .string b2', .int .i64 m2, .int .i64 z2, .slice A7 t2.length c7, .slice A8 u2.length c8] 49 (0, 0)) ∧ Below wr.heap.size wr wx)
        case first =>
          go_wp2_with fail
          go_region
          all_goals go_wp2_with fail
          all_goals go_meet
          · exact ⟨_, _, rfl, rfl, (two_newP _ _ _).1, (two_newP _ _ _).2, below_drewP ((below_new _).trans ((below_new _).mono (by simp)))⟩
          · exact ⟨_, _, rfl, rfl, (two_newP _ _ _).2, (two_newP _ _ _).1, below_drewP ((below_new _).trans ((below_new _).mono (by simp)))⟩
        case rest =>
          obtain ⟨bx, bz, rfl, rfl, hbx, hbz, hwc⟩ := hcut
          have HBC := hid (hB.trans (hwc.mono hbw))
          clear x0 x1 x2 x3 x4 x5 x6 x7 y0 y1 y2 y3 y4 y5 y6 y7 q1 q2 q3 q4 q5 q6 q7 q8 hwc
          have HBX := hid hbx
          have HBZ := hid hbz
          have r0 : wc.cell? ⟨bx, 0, none⟩ = some (.int .i64 k1) := Lib.cell_of_heap hbx 0
          have r1 : wc.cell? ⟨bx, 1, none⟩ = some (.string l1) := Lib.cell_of_heap hbx 1
          have r2 : wc.cell? ⟨bx, 2, none⟩ = some (.string n1) := Lib.cell_of_heap hbx 2
          have r3 : wc.cell? ⟨bx, 3, none⟩ = some (.string b1') := Lib.cell_of_heap hbx 3
          have r4 : wc.cell? ⟨bx, 4, none⟩ = some (.int .i64 m1) := Lib.cell_of_heap hbx 4
          have r5 : wc.cell? ⟨bx, 5, none⟩ = some (.int .i64 z1) := Lib.cell_of_heap hbx 5
          have r6 : wc.cell? ⟨bx, 6, none⟩ = some (.slice A5 t1.length c5) := Lib.cell_of_heap hbx 6
          have s0 : wc.cell? ⟨bz, 0, none⟩ = some (.int .i64 k2) := Lib.cell_of_heap hbz 0
          have s1 : wc.cell? ⟨bz, 1, none⟩ = some (.string l2) := Lib.cell_of_heap hbz 1
          have s2 : wc.cell? ⟨bz, 2, none⟩ = some (.string n2) := Lib.cell_of_heap hbz 2
          have s3 : wc.cell? ⟨bz, 3, none⟩ = some (.string b2') := Lib.cell_of_heap hbz 3
          have s4 : wc.cell? ⟨bz, 4, none⟩ = some (.int .i64 m2) := Lib.cell_of_heap hbz 4
          have s5 : wc.cell? ⟨bz, 5, none⟩ = some (.int .i64 z2) := Lib.cell_of_heap hbz 5
          have s6 : wc.cell? ⟨bz, 6, none⟩ = some (.slice A7 t2.length c7) := Lib.cell_of_heap hbz 6
          clear hbx hbz
          by_cases h : k1 = k2
          case neg =>
            have e : (k1 == k2) = false := beq_eq_false_iff_ne.2 h
            have hz : Hid (E.sameE x y = false) := hid (by rw [← hS.out, hN.out]; simp [E.sameP, h])
            have e2 : (k1 != k2) = true := by rw [bne, e]; rfl
            go_wp2
            go_ret
            exact ⟨ret_bool hz.out.symm, HBC.out⟩
          subst h
          by_cases h : l1 = l2
          case neg =>
            have e : (l1.toList == l2.toList) = false := by rw [eqS]; simp [h]
            have e2 : (l1.toList != l2.toList) = true := by rw [bne, e]; rfl
            have hz : Hid (E.sameE x y = false) := hid (by rw [← hS.out, hN.out]; simp [E.sameP, h])
            clear h
            go_wp2
            go_ret
            exact ⟨ret_bool hz.out.symm, HBC.out⟩
          subst h
          have e_l : (l1.toList == l1.toList) = true := by simp
          have f_l : (l1.toList != l1.toList) = false := by simp
          by_cases h : n1 = n2
          case neg =>
            have e : (n1.toList == n2.toList) = false := by rw [eqS]; simp [h]
            have e2 : (n1.toList != n2.toList) = true := by rw [bne, e]; rfl
            have hz : Hid (E.sameE x y = false) := hid (by rw [← hS.out, hN.out]; simp [E.sameP, h])
            clear h
            go_wp2
            go_ret
            exact ⟨ret_bool hz.out.symm, HBC.out⟩
          subst h
          have e_n : (n1.toList == n1.toList) = true := by simp
          have f_n : (n1.toList != n1.toList) = false := by simp
          by_cases h : b1' = b2'
          case neg =>
            have e : (b1'.toList == b2'.toList) = false := by rw [eqS]; simp [h]
            have e2 : (b1'.toList != b2'.toList) = true := by rw [bne, e]; rfl
            have hz : Hid (E.sameE x y = false) := hid (by rw [← hS.out, hN.out]; simp [E.sameP, h])
            clear h
            go_wp2
            go_ret
            exact ⟨ret_bool hz.out.symm, HBC.out⟩
          subst h
          have e_b : (b1'.toList == b1'.toList) = true := by simp
          have f_b : (b1'.toList != b1'.toList) = false := by simp
          by_cases h : m1 = m2
          case neg =>
            have e : (m1 == m2) = false := beq_eq_false_iff_ne.2 h
            have hz : Hid (E.sameE x y = false) := hid (by rw [← hS.out, hN.out]; simp [E.sameP, h])
            have e2 : (m1 != m2) = true := by rw [bne, e]; rfl
            go_wp2
            go_ret
            exact ⟨ret_bool hz.out.symm, HBC.out⟩
          subst h
          by_cases h : z1 = z2
          case neg =>
            have e : (z1 == z2) = false := beq_eq_false_iff_ne.2 h
            have hz : Hid (E.sameE x y = false) := hid (by rw [← hS.out, hN.out]; simp [E.sameP, h])
            have e2 : (z1 != z2) = true := by rw [bne, e]; rfl
            go_wp2
            go_ret
            exact ⟨ret_bool hz.out.symm, HBC.out⟩
          subst h
          have hP : Hid (E.sameP ⟨k1, l1, n1, b1', m1, z1, t1, u1⟩ ⟨k1, l1, n1, b1', m1, z1, t2, u2⟩ = (L.sameL t1 t2 && L.sameL u1 u2)) := hid (by simp [E.sameP])
          cases hst : L.sameL t1 t2 with
          | false =>
            have hz : Hid (E.sameE x y = false) := hid (by rw [← hS.out, hN.out, hP.out, hst]; rfl)
            rw [hst] at TS
            clear hst
            go_wp2_with fail
            refine (TS.out _ HBC.out).mono ?_
            rintro e w5 ⟨rfl, h5⟩
            go_wp2
            go_ret
            exact ⟨ret_bool hz.out.symm, HBC.out.trans (h5.mono HBC.out.size)⟩
          | true =>
            rw [hst] at TS
            have hQ : Hid (E.sameE (x.drop k) (y.drop k) = (L.sameL u1 u2 && E.sameE (x.drop (k + 1)) (y.drop (k + 1)))) := hid (by rw [hN.out, hP.out, hst]; rfl)
            clear hst
            go_wp2_with fail
            refine (TS.out _ HBC.out).mono ?_
            rintro e w5 ⟨rfl, h5⟩
            have r7 : w5.cell? ⟨bx, 7, none⟩ = some (.slice A6 u1.length c6) := Lib.cell_of_heap ((h5.block bx (heap_lt HBX.out)).trans HBX.out) 7
            have s7 : w5.cell? ⟨bz, 7, none⟩ = some (.slice A8 u2.length c8) := Lib.cell_of_heap ((h5.block bz (heap_lt HBZ.out)).trans HBZ.out) 7
            have HB5 := hid (HBC.out.trans (h5.mono HBC.out.size))
            clear h5 r0 r1 r2 r3 r4 r5 r6 s0 s1 s2 s3 s4 s5 s6 HBX HBZ
            cases hsu : L.sameL u1 u2 with
            | false =>
              have hz : Hid (E.sameE x y = false) := hid (by rw [← hS.out, hQ.out, hsu]; rfl)
              rw [hsu] at US
              clear hsu
              go_wp2_with fail
              refine (US.out _ HB5.out).mono ?_
              rintro e w6 ⟨rfl, h6⟩
              go_wp2
              go_ret
              exact ⟨ret_bool hz.out.symm, HB5.out.trans (h6.mono HB5.out.size)⟩
            | true =>
              have hz : Hid (E.sameE (x.drop (k + 1)) (y.drop (k + 1)) = E.sameE x y) := hid (by rw [← hS.out, hQ.out, hsu]; rfl)
              rw [hsu] at US
              clear hsu
              go_wp2_with fail
              refine (US.out _ HB5.out).mono ?_
              rintro e w6 ⟨rfl, h6⟩
              go_wp2
              go_roundw
              case rel => exact ⟨k + 1, by go_num, by omega, HB5.out.trans (h6.mono HB5.out.size), hz⟩
              case measure => simp [intOf]; omega
      · have hkx : ¬ (k : Int) < (x.length : Int) := by omega
        go_wp2
        go_ret
        refine ⟨ret_bool ?_, hB⟩
        rw [← hS.out, List.drop_eq_nil_of_le (by omega), List.drop_eq_nil_of_le (by have := HLEN.out; omega)]
        rfl
  · have e0 : ((x.length : Int) != (y.length : Int)) = true := by simp; omega
    go_enter Try.func31, Try.ntmps31
    go_wp2
    go_ret
    refine ⟨ret_bool ?_, Below.refl _ _⟩
    cases hh : E.sameE x y with
    | false => rfl
    | true => exact absurd (E.sameE_len hh) hlen

end Go.Proofs.Ytmcdggjcpfkchaa
end

section
/-
  The walk of the reference's One of expressions. Conditions: slices that read as parts.
-/
namespace Go.Proofs.Ytmcdggjcpfkchaa.E
open Go
theorem sameE_at : ∀ {a b : List Pt}, sameE a b = true → ∀ (i : Nat) (h1 : i < a.length) (h2 : i < b.length), sameP a[i] b[i] = true
  | [], _, _, i, h1, _ => by simp at h1
  | _ :: _, [], _, i, _, h2 => by simp at h2
  | x :: a, y :: b, h, 0, _, _ => by simp [sameE] at h; exact h.1
  | x :: a, y :: b, h, i + 1, h1, h2 => by
    simp [sameE] at h
    exact sameE_at h.2 i (by simpa using h1) (by simpa using h2)
theorem eq_of_same {p q : Pt} (h : sameP p q = true) : p = q ↔ p.t = q.t ∧ p.u = q.u := by
  obtain ⟨k1, l1, n1, b1, m1, z1, t1, u1⟩ := p
  obtain ⟨k2, l2, n2, b2, m2, z2, t2, u2⟩ := q
  simp [sameP] at h
  simp only [Pt.mk.injEq]
  constructor
  · rintro ⟨-, -, -, -, -, -, a, b⟩
    exact ⟨a, b⟩
  · rintro ⟨a, b⟩
    exact ⟨h.1, h.2.1, h.2.2.1, h.2.2.2.1, h.2.2.2.2.1, h.2.2.2.2.2.1, a, b⟩
theorem same_self : ∀ l : List Pt, sameE l l = true
  | [] => rfl
  | x :: r => by
    have : ∀ t : List L.Nd, L.sameL t t = true := by
      intro t
      induction t with
      | nil => rfl
      | cons y s ih => simp [L.sameL, L.sameN, ih]
    simp [sameE, sameP, this, same_self r]
end Go.Proofs.Ytmcdggjcpfkchaa.E
namespace Go.Proofs.Ytmcdggjcpfkchaa
open Go.RowKit Go.Sort

set_option maxHeartbeats 4000000 in
set_option maxRecDepth 100000 in
theorem refaone_any (x y : List E.Pt) (vx vy : Value) (w : World) (hx : RdP w w.heap.size vx x) (hy : RdP w w.heap.size vy y) :
    Calls Try.prog 17 #[vx, vy] w fun e w' => e = .returned (.bool (decide (x = y))) ∧ Below w.heap.size w w' := by
  have HX := hid hx
  have HY := hid hy
  have SM := hid (refasame_any x y vx vy w hx hy)
  obtain ⟨A, cap, rfl, hl1, hl2, -⟩ := hx
  obtain ⟨A2, cap2, rfl, hm1, hm2, -⟩ := hy
  unfold maxLen at hl2 hm2
  cases hsm : E.sameE x y with
  | false =>
    have hz : Hid (decide (x = y) = false) := hid (decide_eq_false (by rintro rfl; rw [E.same_self] at hsm; cases hsm))
    rw [hsm] at SM
    clear hsm
    go_enter Try.func17, Try.ntmps17
    go_wp2_with fail
    refine (SM.out).mono ?_
    rintro e w1 ⟨rfl, h1⟩
    go_wp2
    go_ret
    exact ⟨ret_bool hz.out.symm, h1⟩
  | true =>
    rw [hsm] at SM
    have HLEN := hid (E.sameE_len hsm)
    have HSM := hid hsm
    clear hsm
    go_enter Try.func17, Try.ntmps17
    go_wp2_with fail
    refine (SM.out).mono ?_
    rintro e w1 ⟨rfl, h1⟩
    have H1 := hid h1
    clear h1
    go_wp2_with fail
    go_loopw [5] (fun vi wr => ∃ k : Nat, vi = .int .i64 k ∧ k ≤ x.length ∧ Below w.heap.size w wr ∧ Hid (decide (x.drop k = y.drop k) = decide (x = y))) (fun vi _ => x.length - (intOf vi).toNat)
    case atStart => exact ⟨0, rfl, by omega, H1.out, hid rfl⟩
    case round =>
      obtain ⟨k, rfl, hk, hB, hS⟩ := hrel
      by_cases hlt : k < x.length
      · have hly : k < y.length := by have := HLEN.out; omega
        obtain ⟨b, o, vt, vu, hA, hb, x0, x1, x2, x3, x4, x5, x6, x7, ht, hu⟩ := RdP.at HX.out hB (i := k) hlt
        obtain ⟨b2, o2, wt, wu, hA2, hb2, y0, y1, y2, y3, y4, y5, y6, y7, gt, gu⟩ := RdP.at HY.out hB (i := k) hly
        subst hA hA2
        have hN : Hid (decide (x.drop k = y.drop k) = (decide (x[k].t = y[k].t) && (decide (x[k].u = y[k].u) && decide (x.drop (k + 1) = y.drop (k + 1))))) := hid (by
          have := E.eq_of_same (E.sameE_at HSM.out k hlt hly)
          rw [List.drop_eq_getElem_cons hlt, List.drop_eq_getElem_cons hly, Bool.eq_iff_iff]
          simp only [List.cons.injEq, decide_eq_true_eq, Bool.and_eq_true]
          rw [this, and_assoc])
        have TS := hid (fun (W : World) (h : Below w.heap.size w W) => one_any x[k].t y[k].t vt wt W ((ht.below h).mono h.size) ((gt.below h).mono h.size))
        have US := hid (fun (W : World) (h : Below w.heap.size w W) => one_any x[k].u y[k].u vu wu W ((hu.below h).mono h.size) ((gu.below h).mono h.size))
        obtain ⟨A5, c5, rfl⟩ : ∃ A c, vt = .slice A x[k].t.length c := by obtain ⟨A, c, h, -⟩ := ht; exact ⟨A, c, h⟩
        obtain ⟨A6, c6, rfl⟩ : ∃ A c, vu = .slice A x[k].u.length c := by obtain ⟨A, c, h, -⟩ := hu; exact ⟨A, c, h⟩
        obtain ⟨A7, c7, rfl⟩ : ∃ A c, wt = .slice A y[k].t.length c := by obtain ⟨A, c, h, -⟩ := gt; exact ⟨A, c, h⟩
        obtain ⟨A8, c8, rfl⟩ : ∃ A c, wu = .slice A y[k].u.length c := by obtain ⟨A, c, h, -⟩ := gu; exact ⟨A, c, h⟩
        clear ht hu gt gu x0 x1 x2 x3 x4 x5 y0 y1 y2 y3 y4 y5
        generalize x[k].t = t1 at *
        generalize x[k].u = u1 at *
        generalize y[k].t = t2 at *
        generalize y[k].u = u2 at *
        have hkx : (k : Int) < (x.length : Int) := by omega
        have hky : (k : Int) < (y.length : Int) := by omega
        have hbw := hB.size
        have E1 := fun (d : Nat) (os : Array Obj) => TS.out (grow (redrawn wr d) os) (hB.trans ((below_regrown wr d os).mono hbw))
        have E2 := fun (d : Nat) (os : Array Obj) => US.out (grow (redrawn wr d) os) (hB.trans ((below_regrown wr d os).mono hbw))
        have k6 := cell_regrown x6
        have k7 := cell_regrown x7
        have j6 := cell_regrown y6
        have j7 := cell_regrown y7
        clear x6 x7 y6 y7
        cases hst : decide (t1 = t2) with
        | false =>
          have hz : Hid (decide (x = y) = false) := hid (by rw [← hS.out, hN.out, hst]; rfl)
          rw [hst] at E1
          have C1 := hid (fun d os => Calls.regrown_of (E1 d os))
          clear hst E1 E2
          go_wp2
          refine wp_region_quiet_below (by kernel_rfl) (by kernel_rfl) ?_
          repeat (go_big_quiet_step (fail))
          go_big_quiet_step (exact C1.out _ _)
          repeat (go_big_quiet_step (fail))
          refine wpQuiet_nil ?_
          intro _ hw'
          obtain ⟨⟨nq, osq⟩, hw''⟩ := hw'
          subst hw''
          have HB6 := hid (hB.trans ((below_regrown wr nq osq).mono hbw))
          go_wp2
          go_ret
          exact ⟨ret_bool hz.out.symm, HB6.out⟩
        | true =>
          rw [hst] at E1
          have C1 := hid (fun d os => Calls.regrown_of (E1 d os))
          have hQ : Hid (decide (x.drop k = y.drop k) = (decide (u1 = u2) && decide (x.drop (k + 1) = y.drop (k + 1)))) := hid (by rw [hN.out, hst]; rfl)
          clear hst E1
          cases hsu : decide (u1 = u2) with
          | false =>
            have hz : Hid (decide (x = y) = false) := hid (by rw [← hS.out, hQ.out, hsu]; rfl)
            rw [hsu] at E2
            have C2 := hid (fun d os => Calls.regrown_of (E2 d os))
            clear hsu E2
            go_wp2
            refine wp_region_quiet_below (by kernel_rfl) (by kernel_rfl) ?_
            repeat (go_big_quiet_step (fail))
            go_big_quiet_step (exact C1.out _ _)
            repeat (go_big_quiet_step (fail))
            go_big_quiet_step (exact C2.out _ _)
            repeat (go_big_quiet_step (fail))
            refine wpQuiet_nil ?_
            intro _ hw'
            obtain ⟨⟨nq, osq⟩, hw''⟩ := hw'
            subst hw''
            have HB6 := hid (hB.trans ((below_regrown wr nq osq).mono hbw))
            go_wp2
            go_ret
            exact ⟨ret_bool hz.out.symm, HB6.out⟩
          | true =>
            have hz : Hid (decide (x.drop (k + 1) = y.drop (k + 1)) = decide (x = y)) := hid (by rw [← hS.out, hQ.out, hsu]; rfl)
            rw [hsu] at E2
            have C2 := hid (fun d os => Calls.regrown_of (E2 d os))
            clear hsu E2
            go_wp2
            refine wp_region_quiet_below (by kernel_rfl) (by kernel_rfl) ?_
            repeat (go_big_quiet_step (fail))
            go_big_quiet_step (exact C1.out _ _)
            repeat (go_big_quiet_step (fail))
            go_big_quiet_step (exact C2.out _ _)
            repeat (go_big_quiet_step (fail))
            refine wpQuiet_nil ?_
            intro _ hw'
            obtain ⟨⟨nq, osq⟩, hw''⟩ := hw'
            subst hw''
            have HB6 := hid (hB.trans ((below_regrown wr nq osq).mono hbw))
            go_wp2
            go_roundw
            case rel => exact ⟨k + 1, by go_num, by omega, HB6.out, hz⟩
            case measure => simp [intOf]; omega
      · have hkx : ¬ (k : Int) < (x.length : Int) := by omega
        have hz : Hid (decide (x = y) = true) := hid (by rw [← hS.out, List.drop_eq_nil_of_le (by omega), List.drop_eq_nil_of_le (by have := HLEN.out; omega)]; rfl)
        go_wp2
        go_ret
        exact ⟨ret_bool hz.out.symm, hB⟩

end Go.Proofs.Ytmcdggjcpfkchaa
end
