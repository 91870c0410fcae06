/-
  The walk of the reference's One of expressions. Conditions: slices that read as parts.
-/
import Derived.Test.YthbieinbpfjgkaaGreatDoorMA7
import Derived.Test.YthbieinbpfjgkaaGreatDoorM1
namespace Go.Proofs.YthbieinbpfjgkaaGreatDoor.E
open Go
theorem sameE_at : ∀ {a b : List Pt}, sameE a b = true → ∀ (i : Nat) (h1 : i < a.length) (h2 : i < b.length), sameP a[i] b[i] = true
  | [], _, _, i, h1, _ => by simp at h1
  | _ :: _, [], _, i, _, h2 => by simp at h2
  | x :: a, y :: b, h, 0, _, _ => by simp [sameE] at h; exact h.1
  | x :: a, y :: b, h, i + 1, h1, h2 => by
    simp [sameE] at h
    exact sameE_at h.2 i (by simpa using h1) (by simpa using h2)
theorem eq_of_same {p q : Pt} (h : sameP p q = true) : p = q ↔ p.t = q.t ∧ p.u = q.u := by
  obtain ⟨k1, l1, n1, b1, m1, z1, t1, u1⟩ := p
  obtain ⟨k2, l2, n2, b2, m2, z2, t2, u2⟩ := q
  simp [sameP] at h
  simp only [Pt.mk.injEq]
  constructor
  · rintro ⟨-, -, -, -, -, -, a, b⟩
    exact ⟨a, b⟩
  · rintro ⟨a, b⟩
    exact ⟨h.1, h.2.1, h.2.2.1, h.2.2.2.1, h.2.2.2.2.1, h.2.2.2.2.2.1, a, b⟩
theorem same_self : ∀ l : List Pt, sameE l l = true
  | [] => rfl
  | x :: r => by
    have : ∀ t : List L.Nd, L.sameL t t = true := by
      intro t
      induction t with
      | nil => rfl
      | cons y s ih => simp [L.sameL, L.sameN, ih]
    simp [sameE, sameP, this, same_self r]
end Go.Proofs.YthbieinbpfjgkaaGreatDoor.E
namespace Go.Proofs.YthbieinbpfjgkaaGreatDoor
open Go.RowKit Go.Sort

set_option maxHeartbeats 4000000 in
set_option maxRecDepth 100000 in
theorem refaone_any (x y : List E.Pt) (vx vy : Value) (w : World) (hx : RdP w w.heap.size vx x) (hy : RdP w w.heap.size vy y) :
    Calls Tryz.prog 26 #[vx, vy] w fun e w' => e = .returned (.bool (decide (x = y))) ∧ Below w.heap.size w w' := by
  have HX := hid hx
  have HY := hid hy
  have SM := hid (refasame_any x y vx vy w hx hy)
  obtain ⟨A, cap, rfl, hl1, hl2, -⟩ := hx
  obtain ⟨A2, cap2, rfl, hm1, hm2, -⟩ := hy
  unfold maxLen at hl2 hm2
  cases hsm : E.sameE x y with
  | false =>
    have hz : Hid (decide (x = y) = false) := hid (decide_eq_false (by rintro rfl; rw [E.same_self] at hsm; cases hsm))
    rw [hsm] at SM
    clear hsm
    go_enter Tryz.func26, Tryz.ntmps26
    go_wp2_with fail
    refine (SM.out).mono ?_
    rintro e w1 ⟨rfl, h1⟩
    go_wp2
    go_ret
    exact ⟨ret_bool hz.out.symm, h1⟩
  | true =>
    rw [hsm] at SM
    have HLEN := hid (E.sameE_len hsm)
    have HSM := hid hsm
    clear hsm
    go_enter Tryz.func26, Tryz.ntmps26
    go_wp2_with fail
    refine (SM.out).mono ?_
    rintro e w1 ⟨rfl, h1⟩
    have H1 := hid h1
    clear h1
    go_wp2_with fail
    go_loopw [5] (fun vi wr => ∃ k : Nat, vi = .int .i64 k ∧ k ≤ x.length ∧ Below w.heap.size w wr ∧ Hid (decide (x.drop k = y.drop k) = decide (x = y))) (fun vi _ => x.length - (intOf vi).toNat)
    case atStart => exact ⟨0, rfl, by omega, H1.out, hid rfl⟩
    case round =>
      obtain ⟨k, rfl, hk, hB, hS⟩ := hrel
      by_cases hlt : k < x.length
      · have hly : k < y.length := by have := HLEN.out; omega
        obtain ⟨b, o, vt, vu, hA, hb, x0, x1, x2, x3, x4, x5, x6, x7, ht, hu⟩ := RdP.at HX.out hB (i := k) hlt
        obtain ⟨b2, o2, wt, wu, hA2, hb2, y0, y1, y2, y3, y4, y5, y6, y7, gt, gu⟩ := RdP.at HY.out hB (i := k) hly
        subst hA hA2
        have hN : Hid (decide (x.drop k = y.drop k) = (decide (x[k].t = y[k].t) && (decide (x[k].u = y[k].u) && decide (x.drop (k + 1) = y.drop (k + 1))))) := hid (by
          have := E.eq_of_same (E.sameE_at HSM.out k hlt hly)
          rw [List.drop_eq_getElem_cons hlt, List.drop_eq_getElem_cons hly, Bool.eq_iff_iff]
          simp only [List.cons.injEq, decide_eq_true_eq, Bool.and_eq_true]
          rw [this, and_assoc])
        have TS := hid (fun (W : World) (h : Below w.heap.size w W) => one_any x[k].t y[k].t vt wt W ((ht.below h).mono h.size) ((gt.below h).mono h.size))
        have US := hid (fun (W : World) (h : Below w.heap.size w W) => one_any x[k].u y[k].u vu wu W ((hu.below h).mono h.size) ((gu.below h).mono h.size))
        obtain ⟨A5, c5, rfl⟩ : ∃ A c, vt = .slice A x[k].t.length c := by obtain ⟨A, c, h, -⟩ := ht; exact ⟨A, c, h⟩
        obtain ⟨A6, c6, rfl⟩ : ∃ A c, vu = .slice A x[k].u.length c := by obtain ⟨A, c, h, -⟩ := hu; exact ⟨A, c, h⟩
        obtain ⟨A7, c7, rfl⟩ : ∃ A c, wt = .slice A y[k].t.length c := by obtain ⟨A, c, h, -⟩ := gt; exact ⟨A, c, h⟩
        obtain ⟨A8, c8, rfl⟩ : ∃ A c, wu = .slice A y[k].u.length c := by obtain ⟨A, c, h, -⟩ := gu; exact ⟨A, c, h⟩
        clear ht hu gt gu x0 x1 x2 x3 x4 x5 y0 y1 y2 y3 y4 y5
        generalize x[k].t = t1 at *
        generalize x[k].u = u1 at *
        generalize y[k].t = t2 at *
        generalize y[k].u = u2 at *
        have hkx : (k : Int) < (x.length : Int) := by omega
        have hky : (k : Int) < (y.length : Int) := by omega
        have hbw := hB.size
        have E1 := fun (d : Nat) (os : Array Obj) => TS.out (grow (redrawn wr d) os) (hB.trans ((below_regrown wr d os).mono hbw))
        have E2 := fun (d : Nat) (os : Array Obj) => US.out (grow (redrawn wr d) os) (hB.trans ((below_regrown wr d os).mono hbw))
        have k6 := cell_regrown x6
        have k7 := cell_regrown x7
        have j6 := cell_regrown y6
        have j7 := cell_regrown y7
        clear x6 x7 y6 y7
        cases hst : decide (t1 = t2) with
        | false =>
          have hz : Hid (decide (x = y) = false) := hid (by rw [← hS.out, hN.out, hst]; rfl)
          rw [hst] at E1
          have C1 := hid (fun d os => Calls.regrown_of (E1 d os))
          clear hst E1 E2
          go_wp2
          refine wp_region_quiet_below (by kernel_rfl) (by kernel_rfl) ?_
          repeat (go_big_quiet_step (fail))
          go_big_quiet_step (exact C1.out _ _)
          repeat (go_big_quiet_step (fail))
          refine wpQuiet_nil ?_
          intro _ hw'
          obtain ⟨⟨nq, osq⟩, hw''⟩ := hw'
          subst hw''
          have HB6 := hid (hB.trans ((below_regrown wr nq osq).mono hbw))
          go_wp2
          go_ret
          exact ⟨ret_bool hz.out.symm, HB6.out⟩
        | true =>
          rw [hst] at E1
          have C1 := hid (fun d os => Calls.regrown_of (E1 d os))
          have hQ : Hid (decide (x.drop k = y.drop k) = (decide (u1 = u2) && decide (x.drop (k + 1) = y.drop (k + 1)))) := hid (by rw [hN.out, hst]; rfl)
          clear hst E1
          cases hsu : decide (u1 = u2) with
          | false =>
            have hz : Hid (decide (x = y) = false) := hid (by rw [← hS.out, hQ.out, hsu]; rfl)
            rw [hsu] at E2
            have C2 := hid (fun d os => Calls.regrown_of (E2 d os))
            clear hsu E2
            go_wp2
            refine wp_region_quiet_below (by kernel_rfl) (by kernel_rfl) ?_
            repeat (go_big_quiet_step (fail))
            go_big_quiet_step (exact C1.out _ _)
            repeat (go_big_quiet_step (fail))
            go_big_quiet_step (exact C2.out _ _)
            repeat (go_big_quiet_step (fail))
            refine wpQuiet_nil ?_
            intro _ hw'
            obtain ⟨⟨nq, osq⟩, hw''⟩ := hw'
            subst hw''
            have HB6 := hid (hB.trans ((below_regrown wr nq osq).mono hbw))
            go_wp2
            go_ret
            exact ⟨ret_bool hz.out.symm, HB6.out⟩
          | true =>
            have hz : Hid (decide (x.drop (k + 1) = y.drop (k + 1)) = decide (x = y)) := hid (by rw [← hS.out, hQ.out, hsu]; rfl)
            rw [hsu] at E2
            have C2 := hid (fun d os => Calls.regrown_of (E2 d os))
            clear hsu E2
            go_wp2
            refine wp_region_quiet_below (by kernel_rfl) (by kernel_rfl) ?_
            repeat (go_big_quiet_step (fail))
            go_big_quiet_step (exact C1.out _ _)
            repeat (go_big_quiet_step (fail))
            go_big_quiet_step (exact C2.out _ _)
            repeat (go_big_quiet_step (fail))
            refine wpQuiet_nil ?_
            intro _ hw'
            obtain ⟨⟨nq, osq⟩, hw''⟩ := hw'
            subst hw''
            have HB6 := hid (hB.trans ((below_regrown wr nq osq).mono hbw))
            go_wp2
            go_roundw
            case rel => exact ⟨k + 1, by go_num, by omega, HB6.out, hz⟩
            case measure => simp [intOf]; omega
      · have hkx : ¬ (k : Int) < (x.length : Int) := by omega
        have hz : Hid (decide (x = y) = true) := hid (by rw [← hS.out, List.drop_eq_nil_of_le (by omega), List.drop_eq_nil_of_le (by have := HLEN.out; omega)]; rfl)
        go_wp2
        go_ret
        exact ⟨ret_bool hz.out.symm, hB⟩

end Go.Proofs.YthbieinbpfjgkaaGreatDoor
