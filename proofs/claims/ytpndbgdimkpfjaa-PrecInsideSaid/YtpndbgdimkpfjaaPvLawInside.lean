/-
  PrecInside is true for any two pairs of types. No conditions.
-/
import Derived.Test.YtpndbgdimkpfjaaRows
import Derived.Test.YtpndbgdimkpfjaaPvLq
import Derived.Test.YtpndbgdimkpfjaaPvZ
import Derived.ProofKit
import Derived.OpenShut
import Derived.Test.YtpndbgdimkpfjaaPvI
import Derived.Deep.RegionHeld3
import Derived.Deep.CutRange
namespace Go.Proofs.Ytpndbgdimkpfjaa.precInside
open Go.ChangeShapes Go.WideShapes Go.ChangeAt Go.RowKit
open Go.Sort

theorem own : ownKnob Try.prog.godebug = none := by kernel_rfl

abbrev Post (w : World) (e : Ending) (w' : World) : Prop := e = .returned (.bool true) ∧ Below w.heap.size w w'

set_option maxHeartbeats 4000000 in
set_option maxRecDepth 100000 in
theorem inside_true {W : World} (va : Value) (la : List L.Nd) (ha : Rd W W.heap.size va la) (vb : Value) (lb : List L.Nd) (hb : Rd W W.heap.size vb lb) (vc : Value) (lc : List L.Nd) (hc : Rd W W.heap.size vc lc) (vd : Value) (ld : List L.Nd) (hd : Rd W W.heap.size vd ld) :
    Calls Try.prog 10 #[.agg #[va, vb], .agg #[vc, vd]] W (Post W) := by
  obtain ⟨Aa, ca, rfl, hca, hcm, -⟩ := id ha
  obtain ⟨Ab, cb, rfl, hcb, hcm2, -⟩ := id hb
  obtain ⟨Ac, cc, rfl, hcc, hcm3, -⟩ := id hc
  obtain ⟨Ad, cd, rfl, hcd, hcm4, -⟩ := id hd
  unfold maxLen at hcm hcm2 hcm3 hcm4
  obtain ⟨w1, hw1⟩ : ∃ w1, w1 = (W.alloc (.cells #[.slice Aa la.length ca, .slice Ab lb.length cb] 43)).alloc (.cells #[.slice Ac lc.length cc, .slice Ad ld.length cd] 43) := ⟨_, rfl⟩
  have hB1 : Below W.heap.size W w1 := by rw [hw1]; exact (below_new _).trans ((below_new _).mono (by simp))
  have hp := two_new W (.cells #[.slice Aa la.length ca, .slice Ab lb.length cb] 43) (.cells #[.slice Ac lc.length cc, .slice Ad ld.length cd] 43)
  have hp1 : w1.heap[W.heap.size]? = some (.cells #[.slice Aa la.length ca, .slice Ab lb.length cb] 43 (0, 0)) := by rw [hw1]; exact hp.1
  have hp2 : w1.heap[W.heap.size + 1]? = some (.cells #[.slice Ac lc.length cc, .slice Ad ld.length cd] 43 (0, 0)) := by rw [hw1]; exact hp.2
  have HBX : Hid (∀ W', Below w1.heap.size w1 W' → W'.cell? ⟨W.heap.size, 0, none⟩ = some (.slice Aa la.length ca) ∧ W'.cell? ⟨W.heap.size, 1, none⟩ = some (.slice Ab lb.length cb) ∧ W'.cell? ⟨W.heap.size + 1, 0, none⟩ = some (.slice Ac lc.length cc) ∧ W'.cell? ⟨W.heap.size + 1, 1, none⟩ = some (.slice Ad ld.length cd)) := hid fun W' h => by
    have q1 := (h.block _ (heap_lt hp1)).trans hp1
    have q2 := (h.block _ (heap_lt hp2)).trans hp2
    exact ⟨Lib.cell_of_heap q1 0, Lib.cell_of_heap q1 1, Lib.cell_of_heap q2 0, Lib.cell_of_heap q2 1⟩
  have A1 := hid ((ha.below hB1).mono hB1.size)
  have B1 := hid ((hb.below hB1).mono hB1.size)
  have C1 := hid ((hc.below hB1).mono hB1.size)
  have D1 := hid ((hd.below hB1).mono hB1.size)
  have X1 := hid (Below.refl w1.heap.size w1)
  have HB1 := hid hB1
  have HPL := hid (plain4s (W.heap.size + 1 + 1) _ _ _ _ la lb lc ld w1 (by rw [hw1]; simp) A1.out B1.out C1.out D1.out)
  have HW1 := hid hw1
  clear hp hp1 hp2 ha hb hc hd hB1 hw1
  cases hg : allG [(Value.slice Aa la.length ca, la), (Value.slice Ab lb.length cb, lb), (Value.slice Ac lc.length cc, lc), (Value.slice Ad ld.length cd, ld)] with
  | false =>
    rw [hg] at HPL
    clear hg
    go_enter Try.func10, Try.ntmps10
    go_wp2_with fail
    rw [← HW1.out]
    refine (HPL.out).mono ?_
    rintro e w2 ⟨rfl, h0⟩
    have X2 := hid (HB1.out.trans (h0.mono HB1.out.size))
    clear h0
    have HC := hid (alive_any w2)
    go_wp2_with fail
    refine (HC.out).mono ?_
    rintro e w3 ⟨rfl, h0⟩
    go_wp2
    go_ret
    exact ⟨rfl, X2.out.trans (h0.mono X2.out.size)⟩
  | true =>
    rw [hg] at HPL
    obtain ⟨hga, hgb, hgc, hgd⟩ := all4 hg
    obtain ⟨FA, rfl, GA⟩ := good_gd hga
    obtain ⟨FB, rfl, GB⟩ := good_gd hgb
    obtain ⟨FC, rfl, GC⟩ := good_gd hgc
    obtain ⟨FD, rfl, GD⟩ := good_gd hgd
    have GA := hid GA
    have GB := hid GB
    have GC := hid GC
    have GD := hid GD
    have TA := hid (GA.out.ty (by omega))
    have TB := hid (GB.out.ty (by omega))
    have TC := hid (GC.out.ty (by omega))
    have TD := hid (GD.out.ty (by omega))
    have GX := hid (gd_arr GA.out GB.out)
    have GY := hid (gd_arr GC.out GD.out)
    have TX := hid (GX.out.ty (by omega))
    have TY := hid (GY.out.ty (by omega))
    clear hg hga hgb hgc hgd
    have za := GA.out.len
    have zb := GB.out.len
    have zc := GC.out.len
    have zd := GD.out.len
    by_cases h100 : 100 < FA.flat.length + FB.flat.length + FC.flat.length + FD.flat.length
    · have hi1 : (100 : Int) < (FA.flat.length : Int) + FB.flat.length + FC.flat.length + FD.flat.length := by omega
      clear h100
      go_enter Try.func10, Try.ntmps10
      go_wp2_with fail
      rw [← HW1.out]
      refine (HPL.out).mono ?_
      rintro e w2 ⟨rfl, h0⟩
      have X2 := hid (HB1.out.trans (h0.mono HB1.out.size))
      obtain ⟨p0, p1, p2, p3⟩ := HBX.out w2 h0
      clear h0
      have HC := hid (alive_any w2)
      go_wp2_with fail
      refine (HC.out).mono ?_
      rintro e w3 ⟨rfl, h0⟩
      go_wp2
      go_ret
      exact ⟨rfl, X2.out.trans (h0.mono X2.out.size)⟩
    have hi1 : ¬ (100 : Int) < (FA.flat.length : Int) + FB.flat.length + FC.flat.length + FD.flat.length := by omega
    have hi2 : FA.flat.length + FB.flat.length + FC.flat.length + FD.flat.length ≤ 100 := by omega
    clear h100
    go_enter Try.func10, Try.ntmps10
    go_wp2_with fail
    rw [← HW1.out]
    refine (HPL.out).mono ?_
    rintro e w2 ⟨rfl, h0⟩
    have HC := HPL
    have X2 := hid (X1.out.trans (h0.mono X1.out.size))
    have A2 := hid ((A1.out.below h0).mono h0.size)
    have B2 := hid ((B1.out.below h0).mono h0.size)
    have C2 := hid ((C1.out.below h0).mono h0.size)
    have D2 := hid ((D1.out.below h0).mono h0.size)
    clear h0 HC X1 A1 B1 C1 D1
    obtain ⟨p0, p1, p2, p3⟩ := HBX.out w2 X2.out
    clear HPL
    have HAR := hid (fun (W' : World) (h : Below w2.heap.size w2 W') => refArrow_any FA.flat FB.flat (.slice Aa FA.flat.length ca) (.slice Ab FB.flat.length cb) W' ((A2.out.below h).mono h.size) ((B2.out.below h).mono h.size) (by intro e; have := fo_pos TA.out.ne; rw [e] at this; simp at this) (by intro e; have := fo_pos TB.out.ne; rw [e] at this; simp at this) (by omega) (by omega))
    have HAS := hid (fun (W' : World) (h : Below w2.heap.size w2 W') => refArrow_any FC.flat FD.flat (.slice Ac FC.flat.length cc) (.slice Ad FD.flat.length cd) W' ((C2.out.below h).mono h.size) ((D2.out.below h).mono h.size) (by intro e; have := fo_pos TC.out.ne; rw [e] at this; simp at this) (by intro e; have := fo_pos TD.out.ne; rw [e] at this; simp at this) (by omega) (by omega))
    rw [← arr_flat7] at HAR HAS
    have HS := hid (fun (W' : World) (h : Below w2.heap.size w2 W') => HBX.out W' (X2.out.trans (h.mono X2.out.size)))
    have HD0 := hid (below_drewN (Below.refl w2.heap.size w2) 1)
    go_upto_region 3 with fail
    go_cut [5, 6] from 47 to 151 (fun s5 s6 wx => ∃ AX cX AY cY, s5 = .slice AX (arrF FA FB).flat.length cX ∧ s6 = .slice AY (arrF FC FD).flat.length cY ∧ Own w2.heap.size (.slice AX (arrF FA FB).flat.length cX) (arrF FA FB).flat wx ∧ Own w2.heap.size (.slice AY (arrF FC FD).flat.length cY) (arrF FC FD).flat wx ∧ Below w2.heap.size w2 wx)
    case first =>
      go_region_held3 (fun w' => w'.cell? ⟨W.heap.size, 0, none⟩ = some (.slice Aa FA.flat.length ca) ∧ w'.cell? ⟨W.heap.size, 1, none⟩ = some (.slice Ab FB.flat.length cb) ∧ w'.cell? ⟨W.heap.size + 1, 0, none⟩ = some (.slice Ac FC.flat.length cc) ∧ w'.cell? ⟨W.heap.size + 1, 1, none⟩ = some (.slice Ad FD.flat.length cd)) (first | exact HS.out _ HQ2.out | exact HS.out _ HQ1.out | exact HS.out _ HD0.out | exact HS.out _ (Below.refl _ _)) (first
        | (have hq := HQ1.out; go_at_call 31; refine (HAS.out _ hq).mono ?_; rintro e wq2 ⟨vY, rfl, oY, hq2⟩; have HQ2 := hid (HQ1.out.trans (hq2.mono HQ1.out.size)); have OY := hid (oY.more hq.size); have OX2 := hid (OX.out.below hq2); clear hq hq2 HQ1 oY)
        | (have hq := HD0.out; go_at_call 31; refine (HAR.out _ hq).mono ?_; rintro e wq1 ⟨vX, rfl, oX, hq1⟩; have HQ1 := hid (HD0.out.trans (hq1.mono HD0.out.size)); have OX := hid (oX.more hq.size); clear hq hq1 HD0 oX))
      all_goals obtain ⟨AX, cX, rfl, -⟩ := OX2.out.rd
      all_goals obtain ⟨AY, cY, rfl, -⟩ := OY.out.rd
      all_goals go_wp2_with fail
      all_goals go_meet
      all_goals exact ⟨_, _, _, _, rfl, rfl, OX2.out, OY.out, HQ2.out⟩
    case rest =>
      obtain ⟨w3, hw⟩ : ∃ w3, w3 = wc := ⟨_, rfl⟩
      subst hw
      obtain ⟨AX, cX, AY, cY, rfl, rfl, oX, oY, h0⟩ := hcut
      have K3 := hid oX
      have M3 := hid oY
      clear oX oY HAR HAS HS HD0
      have HC := trivial
      clear p0 p1 p2 p3
      have X3 := hid (X2.out.trans (h0.mono X2.out.size))
      have A3 := hid ((A2.out.below h0).mono h0.size)
      have B3 := hid ((B2.out.below h0).mono h0.size)
      have C3 := hid ((C2.out.below h0).mono h0.size)
      have D3 := hid ((D2.out.below h0).mono h0.size)
      clear h0 HC X2 A2 B2 C2 D2
      obtain ⟨p0, p1, p2, p3⟩ := HBX.out w3 X3.out
      have HC := hid (plain7_any (arrF FA FB).flat 200 (by omega) _ _ K3.out.rd)
      rw [GX.out.good (by omega) (show 121 ≤ 200 by omega)] at HC
      go_wp2_with fail
      refine (HC.out).mono ?_
      rintro e w4 ⟨rfl, h0⟩
      clear p0 p1 p2 p3
      have X4 := hid (X3.out.trans (h0.mono X3.out.size))
      have A4 := hid ((A3.out.below h0).mono h0.size)
      have B4 := hid ((B3.out.below h0).mono h0.size)
      have C4 := hid ((C3.out.below h0).mono h0.size)
      have D4 := hid ((D3.out.below h0).mono h0.size)
      have K4 := hid (K3.out.below h0)
      have M4 := hid (M3.out.below h0)
      clear h0 HC X3 A3 B3 C3 D3 K3 M3
      obtain ⟨p0, p1, p2, p3⟩ := HBX.out w4 X4.out
      have HC := hid (plain7_any (arrF FC FD).flat 200 (by omega) _ _ M4.out.rd)
      rw [GY.out.good (by omega) (show 121 ≤ 200 by omega)] at HC
      go_wp2_with fail
      refine (HC.out).mono ?_
      rintro e w5 ⟨rfl, h0⟩
      clear p0 p1 p2 p3
      have X5 := hid (X4.out.trans (h0.mono X4.out.size))
      have A5 := hid ((A4.out.below h0).mono h0.size)
      have B5 := hid ((B4.out.below h0).mono h0.size)
      have C5 := hid ((C4.out.below h0).mono h0.size)
      have D5 := hid ((D4.out.below h0).mono h0.size)
      have K5 := hid (K4.out.below h0)
      have M5 := hid (M4.out.below h0)
      clear h0 HC X4 A4 B4 C4 D4 K4 M4
      obtain ⟨p0, p1, p2, p3⟩ := HBX.out w5 X5.out
      cases h_g1 : L.agF FA FC with
      | false =>
        have Hg1 := hid h_g1
        clear h_g1
        cases h_g2 : L.agF FB FD with
        | false =>
          have Hg2 := hid h_g2
          clear h_g2
          have HXY : Hid (L.agF (arrF FA FB) (arrF FC FD) = false) := hid (by rw [arr_ag GA.out.root GB.out.root GC.out.root GD.out.root, Hg1.out, Hg2.out]; rfl)
          have HC := hid (meet_no TX.out TY.out _ _ _ K5.out.rd M5.out.rd HXY.out)
          go_wp2_with fail
          refine (HC.out).mono ?_
          rintro e w6 ⟨rfl, h0⟩
          clear p0 p1 p2 p3
          have X6 := hid (X5.out.trans (h0.mono X5.out.size))
          have A6 := hid ((A5.out.below h0).mono h0.size)
          have B6 := hid ((B5.out.below h0).mono h0.size)
          have C6 := hid ((C5.out.below h0).mono h0.size)
          have D6 := hid ((D5.out.below h0).mono h0.size)
          have K6 := hid (K5.out.below h0)
          have M6 := hid (M5.out.below h0)
          clear h0 HC X5 A5 B5 C5 D5 K5 M5
          obtain ⟨p0, p1, p2, p3⟩ := HBX.out w6 X6.out
          have HC := hid (meet_no TA.out TC.out _ _ _ A6.out C6.out Hg1.out)
          go_wp2_with fail
          refine (HC.out).mono ?_
          rintro e w7 ⟨rfl, h0⟩
          clear p0 p1 p2 p3
          have X7 := hid (X6.out.trans (h0.mono X6.out.size))
          have A7 := hid ((A6.out.below h0).mono h0.size)
          have B7 := hid ((B6.out.below h0).mono h0.size)
          have C7 := hid ((C6.out.below h0).mono h0.size)
          have D7 := hid ((D6.out.below h0).mono h0.size)
          have K7 := hid (K6.out.below h0)
          have M7 := hid (M6.out.below h0)
          clear h0 HC X6 A6 B6 C6 D6 K6 M6
          obtain ⟨p0, p1, p2, p3⟩ := HBX.out w7 X7.out
          have HC := hid (meet_no TB.out TD.out _ _ _ B7.out D7.out Hg2.out)
          go_wp2_with fail
          refine (HC.out).mono ?_
          rintro e w8 ⟨rfl, h0⟩
          clear p0 p1 p2 p3
          have X8 := hid (X7.out.trans (h0.mono X7.out.size))
          have A8 := hid ((A7.out.below h0).mono h0.size)
          have B8 := hid ((B7.out.below h0).mono h0.size)
          have C8 := hid ((C7.out.below h0).mono h0.size)
          have D8 := hid ((D7.out.below h0).mono h0.size)
          have K8 := hid (K7.out.below h0)
          have M8 := hid (M7.out.below h0)
          clear h0 HC X7 A7 B7 C7 D7 K7 M7
          obtain ⟨p0, p1, p2, p3⟩ := HBX.out w8 X8.out
          have HC := hid (call_yes GX.out (by omega) (arr_call GA.out.root GB.out.root) _ _ K8.out.rd)
          go_wp2_with fail
          refine (HC.out).mono ?_
          rintro e w9 ⟨vI, vO, rfl, oI, oO, h0⟩
          obtain ⟨AI, cI, rfl, hcI, hmI, -⟩ := oI.rd
          unfold maxLen at hmI
          obtain ⟨AO, cO, rfl, hcO, hmO, -⟩ := oO.rd
          unfold maxLen at hmO
          have I9 := hid oI
          have O9 := hid oO
          clear oI oO
          clear p0 p1 p2 p3
          have X9 := hid (X8.out.trans (h0.mono X8.out.size))
          have A9 := hid ((A8.out.below h0).mono h0.size)
          have B9 := hid ((B8.out.below h0).mono h0.size)
          have C9 := hid ((C8.out.below h0).mono h0.size)
          have D9 := hid ((D8.out.below h0).mono h0.size)
          have K9 := hid (K8.out.below h0)
          have M9 := hid (M8.out.below h0)
          clear h0 HC X8 A8 B8 C8 D8 K8 M8
          obtain ⟨p0, p1, p2, p3⟩ := HBX.out w9 X9.out
          have HC := hid (one_any FA.flat FA.flat _ _ _ I9.out.rd A9.out)
          rw [decide_eq_true (rfl : FA.flat = FA.flat)] at HC
          go_wp2_with fail
          refine (HC.out).mono ?_
          rintro e w10 ⟨rfl, h0⟩
          clear p0 p1 p2 p3
          have X10 := hid (X9.out.trans (h0.mono X9.out.size))
          have A10 := hid ((A9.out.below h0).mono h0.size)
          have B10 := hid ((B9.out.below h0).mono h0.size)
          have C10 := hid ((C9.out.below h0).mono h0.size)
          have D10 := hid ((D9.out.below h0).mono h0.size)
          have K10 := hid (K9.out.below h0)
          have M10 := hid (M9.out.below h0)
          have I10 := hid (I9.out.below h0)
          have O10 := hid (O9.out.below h0)
          clear h0 HC X9 A9 B9 C9 D9 K9 M9 I9 O9
          obtain ⟨p0, p1, p2, p3⟩ := HBX.out w10 X10.out
          have HC := hid (one_any FB.flat FB.flat _ _ _ O10.out.rd B10.out)
          rw [decide_eq_true (rfl : FB.flat = FB.flat)] at HC
          go_wp2_with fail
          refine (HC.out).mono ?_
          rintro e w11 ⟨rfl, h0⟩
          clear p0 p1 p2 p3
          have X11 := hid (X10.out.trans (h0.mono X10.out.size))
          have A11 := hid ((A10.out.below h0).mono h0.size)
          have B11 := hid ((B10.out.below h0).mono h0.size)
          have C11 := hid ((C10.out.below h0).mono h0.size)
          have D11 := hid ((D10.out.below h0).mono h0.size)
          have K11 := hid (K10.out.below h0)
          have M11 := hid (M10.out.below h0)
          have I11 := hid (I10.out.below h0)
          have O11 := hid (O10.out.below h0)
          clear h0 HC X10 A10 B10 C10 D10 K10 M10 I10 O10
          obtain ⟨p0, p1, p2, p3⟩ := HBX.out w11 X11.out
          clear I11 O11
          cases h_be1 : L.beF FA FC with
          | false =>
            have Hbe1 := hid h_be1
            clear h_be1
            have HBB : Hid (L.beF (arrF FA FB) (arrF FC FD) = false) := hid (by rw [arr_be GA.out.root GB.out.root GC.out.root GD.out.root, Hbe1.out]; rfl)
            have E1 := fun d os => below_any TX.out TY.out (.slice AX (arrF FA FB).flat.length cX) (.slice AY (arrF FC FD).flat.length cY) (grow (redrawn w11 d) os) ((K11.out.rd.below (below_regrown w11 d os)).mono (below_regrown w11 d os).size) ((M11.out.rd.below (below_regrown w11 d os)).mono (below_regrown w11 d os).size)
            have E2 := fun d os => below_any TA.out TC.out (.slice Aa FA.flat.length ca) (.slice Ac FC.flat.length cc) (grow (redrawn w11 d) os) ((A11.out.below (below_regrown w11 d os)).mono (below_regrown w11 d os).size) ((C11.out.below (below_regrown w11 d os)).mono (below_regrown w11 d os).size)
            rw [HBB.out] at E1
            rw [Hbe1.out] at E2
            have C1 := hid (fun d os => Calls.regrown_of (E1 d os))
            have C2 := hid (fun d os => Calls.regrown_of (E2 d os))
            clear E1 E2
            have kp0 := cell_regrown p0
            have kp1 := cell_regrown p1
            have kp2 := cell_regrown p2
            have kp3 := cell_regrown p3
            go_wp2_with fail
            refine wp_region_quiet_below (by kernel_rfl) (by kernel_rfl) ?_
            repeat (go_big_quiet_step (fail))
            go_big_quiet_step (exact C1.out _ _)
            repeat (go_big_quiet_step (fail))
            go_big_quiet_step (exact C2.out _ _)
            repeat (go_big_quiet_step (fail))
            refine wpQuiet_nil ?_
            intro _ hw'
            obtain ⟨⟨nq, osq⟩, hw''⟩ := hw'
            subst hw''
            have h0 := below_regrown w11 nq osq
            clear C1 C2 kp0 kp1 kp2 kp3
            obtain ⟨w12, hw⟩ : ∃ w12, w12 = grow (redrawn w11 nq) osq := ⟨_, rfl⟩
            rw [← hw] at h0
            rw [← hw]
            have HWQ := hid hw
            clear hw
            have HC := trivial
            clear p0 p1 p2 p3
            have X12 := hid (X11.out.trans (h0.mono X11.out.size))
            have A12 := hid ((A11.out.below h0).mono h0.size)
            have B12 := hid ((B11.out.below h0).mono h0.size)
            have C12 := hid ((C11.out.below h0).mono h0.size)
            have D12 := hid ((D11.out.below h0).mono h0.size)
            have K12 := hid (K11.out.below h0)
            have M12 := hid (M11.out.below h0)
            clear h0 HC X11 A11 B11 C11 D11 K11 M11
            obtain ⟨p0, p1, p2, p3⟩ := HBX.out w12 X12.out
            have HC := hid (alive_any w12)
            go_wp2_with fail
            refine (HC.out).mono ?_
            rintro e w13 ⟨rfl, h0⟩
            clear p0 p1 p2 p3
            have X13 := hid (X12.out.trans (h0.mono X12.out.size))
            have A13 := hid ((A12.out.below h0).mono h0.size)
            have B13 := hid ((B12.out.below h0).mono h0.size)
            have C13 := hid ((C12.out.below h0).mono h0.size)
            have D13 := hid ((D12.out.below h0).mono h0.size)
            have K13 := hid (K12.out.below h0)
            have M13 := hid (M12.out.below h0)
            clear h0 HC X12 A12 B12 C12 D12 K12 M12
            obtain ⟨p0, p1, p2, p3⟩ := HBX.out w13 X13.out
            go_wp2
            go_ret
            exact ⟨rfl, HB1.out.trans (X13.out.mono HB1.out.size)⟩
          | true =>
            have Hbe1 := hid h_be1
            clear h_be1
            cases h_be2 : L.beF FB FD with
            | false =>
              have Hbe2 := hid h_be2
              clear h_be2
              have HBB : Hid (L.beF (arrF FA FB) (arrF FC FD) = false) := hid (by rw [arr_be GA.out.root GB.out.root GC.out.root GD.out.root, Hbe1.out, Hbe2.out]; rfl)
              have E1 := fun d os => below_any TX.out TY.out (.slice AX (arrF FA FB).flat.length cX) (.slice AY (arrF FC FD).flat.length cY) (grow (redrawn w11 d) os) ((K11.out.rd.below (below_regrown w11 d os)).mono (below_regrown w11 d os).size) ((M11.out.rd.below (below_regrown w11 d os)).mono (below_regrown w11 d os).size)
              have E2 := fun d os => below_any TA.out TC.out (.slice Aa FA.flat.length ca) (.slice Ac FC.flat.length cc) (grow (redrawn w11 d) os) ((A11.out.below (below_regrown w11 d os)).mono (below_regrown w11 d os).size) ((C11.out.below (below_regrown w11 d os)).mono (below_regrown w11 d os).size)
              rw [HBB.out] at E1
              rw [Hbe1.out] at E2
              have C1 := hid (fun d os => Calls.regrown_of (E1 d os))
              have C2 := hid (fun d os => Calls.regrown_of (E2 d os))
              clear E1 E2
              have E3 := fun d os => below_any TB.out TD.out (.slice Ab FB.flat.length cb) (.slice Ad FD.flat.length cd) (grow (redrawn w11 d) os) ((B11.out.below (below_regrown w11 d os)).mono (below_regrown w11 d os).size) ((D11.out.below (below_regrown w11 d os)).mono (below_regrown w11 d os).size)
              rw [Hbe2.out] at E3
              have C3 := hid (fun d os => Calls.regrown_of (E3 d os))
              clear E3
              have kp0 := cell_regrown p0
              have kp1 := cell_regrown p1
              have kp2 := cell_regrown p2
              have kp3 := cell_regrown p3
              go_wp2_with fail
              refine wp_region_quiet_below (by kernel_rfl) (by kernel_rfl) ?_
              repeat (go_big_quiet_step (fail))
              go_big_quiet_step (exact C1.out _ _)
              repeat (go_big_quiet_step (fail))
              go_big_quiet_step (exact C2.out _ _)
              repeat (go_big_quiet_step (fail))
              go_big_quiet_step (exact C3.out _ _)
              repeat (go_big_quiet_step (fail))
              refine wpQuiet_nil ?_
              intro _ hw'
              obtain ⟨⟨nq, osq⟩, hw''⟩ := hw'
              subst hw''
              have h0 := below_regrown w11 nq osq
              clear C1 C2 kp0 kp1 kp2 kp3 C3
              obtain ⟨w12, hw⟩ : ∃ w12, w12 = grow (redrawn w11 nq) osq := ⟨_, rfl⟩
              rw [← hw] at h0
              rw [← hw]
              have HWQ := hid hw
              clear hw
              have HC := trivial
              clear p0 p1 p2 p3
              have X12 := hid (X11.out.trans (h0.mono X11.out.size))
              have A12 := hid ((A11.out.below h0).mono h0.size)
              have B12 := hid ((B11.out.below h0).mono h0.size)
              have C12 := hid ((C11.out.below h0).mono h0.size)
              have D12 := hid ((D11.out.below h0).mono h0.size)
              have K12 := hid (K11.out.below h0)
              have M12 := hid (M11.out.below h0)
              clear h0 HC X11 A11 B11 C11 D11 K11 M11
              obtain ⟨p0, p1, p2, p3⟩ := HBX.out w12 X12.out
              have HC := hid (alive_any w12)
              go_wp2_with fail
              refine (HC.out).mono ?_
              rintro e w13 ⟨rfl, h0⟩
              clear p0 p1 p2 p3
              have X13 := hid (X12.out.trans (h0.mono X12.out.size))
              have A13 := hid ((A12.out.below h0).mono h0.size)
              have B13 := hid ((B12.out.below h0).mono h0.size)
              have C13 := hid ((C12.out.below h0).mono h0.size)
              have D13 := hid ((D12.out.below h0).mono h0.size)
              have K13 := hid (K12.out.below h0)
              have M13 := hid (M12.out.below h0)
              clear h0 HC X12 A12 B12 C12 D12 K12 M12
              obtain ⟨p0, p1, p2, p3⟩ := HBX.out w13 X13.out
              go_wp2
              go_ret
              exact ⟨rfl, HB1.out.trans (X13.out.mono HB1.out.size)⟩
            | true =>
              have Hbe2 := hid h_be2
              clear h_be2
              have HBB : Hid (L.beF (arrF FA FB) (arrF FC FD) = true) := hid (by rw [arr_be GA.out.root GB.out.root GC.out.root GD.out.root, Hbe1.out, Hbe2.out]; rfl)
              have E1 := fun d os => below_any TX.out TY.out (.slice AX (arrF FA FB).flat.length cX) (.slice AY (arrF FC FD).flat.length cY) (grow (redrawn w11 d) os) ((K11.out.rd.below (below_regrown w11 d os)).mono (below_regrown w11 d os).size) ((M11.out.rd.below (below_regrown w11 d os)).mono (below_regrown w11 d os).size)
              have E2 := fun d os => below_any TA.out TC.out (.slice Aa FA.flat.length ca) (.slice Ac FC.flat.length cc) (grow (redrawn w11 d) os) ((A11.out.below (below_regrown w11 d os)).mono (below_regrown w11 d os).size) ((C11.out.below (below_regrown w11 d os)).mono (below_regrown w11 d os).size)
              rw [HBB.out] at E1
              rw [Hbe1.out] at E2
              have C1 := hid (fun d os => Calls.regrown_of (E1 d os))
              have C2 := hid (fun d os => Calls.regrown_of (E2 d os))
              clear E1 E2
              have E3 := fun d os => below_any TB.out TD.out (.slice Ab FB.flat.length cb) (.slice Ad FD.flat.length cd) (grow (redrawn w11 d) os) ((B11.out.below (below_regrown w11 d os)).mono (below_regrown w11 d os).size) ((D11.out.below (below_regrown w11 d os)).mono (below_regrown w11 d os).size)
              rw [Hbe2.out] at E3
              have C3 := hid (fun d os => Calls.regrown_of (E3 d os))
              clear E3
              have kp0 := cell_regrown p0
              have kp1 := cell_regrown p1
              have kp2 := cell_regrown p2
              have kp3 := cell_regrown p3
              go_wp2_with fail
              refine wp_region_quiet_below (by kernel_rfl) (by kernel_rfl) ?_
              repeat (go_big_quiet_step (fail))
              go_big_quiet_step (exact C1.out _ _)
              repeat (go_big_quiet_step (fail))
              go_big_quiet_step (exact C2.out _ _)
              repeat (go_big_quiet_step (fail))
              go_big_quiet_step (exact C3.out _ _)
              repeat (go_big_quiet_step (fail))
              refine wpQuiet_nil ?_
              intro _ hw'
              obtain ⟨⟨nq, osq⟩, hw''⟩ := hw'
              subst hw''
              have h0 := below_regrown w11 nq osq
              clear C1 C2 kp0 kp1 kp2 kp3 C3
              obtain ⟨w12, hw⟩ : ∃ w12, w12 = grow (redrawn w11 nq) osq := ⟨_, rfl⟩
              rw [← hw] at h0
              rw [← hw]
              have HWQ := hid hw
              clear hw
              have HC := trivial
              clear p0 p1 p2 p3
              have X12 := hid (X11.out.trans (h0.mono X11.out.size))
              have A12 := hid ((A11.out.below h0).mono h0.size)
              have B12 := hid ((B11.out.below h0).mono h0.size)
              have C12 := hid ((C11.out.below h0).mono h0.size)
              have D12 := hid ((D11.out.below h0).mono h0.size)
              have K12 := hid (K11.out.below h0)
              have M12 := hid (M11.out.below h0)
              clear h0 HC X11 A11 B11 C11 D11 K11 M11
              obtain ⟨p0, p1, p2, p3⟩ := HBX.out w12 X12.out
              have HC := hid (alive_any w12)
              go_wp2_with fail
              refine (HC.out).mono ?_
              rintro e w13 ⟨rfl, h0⟩
              clear p0 p1 p2 p3
              have X13 := hid (X12.out.trans (h0.mono X12.out.size))
              have A13 := hid ((A12.out.below h0).mono h0.size)
              have B13 := hid ((B12.out.below h0).mono h0.size)
              have C13 := hid ((C12.out.below h0).mono h0.size)
              have D13 := hid ((D12.out.below h0).mono h0.size)
              have K13 := hid (K12.out.below h0)
              have M13 := hid (M12.out.below h0)
              clear h0 HC X12 A12 B12 C12 D12 K12 M12
              obtain ⟨p0, p1, p2, p3⟩ := HBX.out w13 X13.out
              go_wp2
              go_ret
              exact ⟨rfl, HB1.out.trans (X13.out.mono HB1.out.size)⟩
        | true =>
          have Hg2 := hid h_g2
          clear h_g2
          have HXY : Hid (L.agF (arrF FA FB) (arrF FC FD) = false) := hid (by rw [arr_ag GA.out.root GB.out.root GC.out.root GD.out.root, Hg1.out, Hg2.out]; rfl)
          have HC := hid (meet_no TX.out TY.out _ _ _ K5.out.rd M5.out.rd HXY.out)
          go_wp2_with fail
          refine (HC.out).mono ?_
          rintro e w6 ⟨rfl, h0⟩
          clear p0 p1 p2 p3
          have X6 := hid (X5.out.trans (h0.mono X5.out.size))
          have A6 := hid ((A5.out.below h0).mono h0.size)
          have B6 := hid ((B5.out.below h0).mono h0.size)
          have C6 := hid ((C5.out.below h0).mono h0.size)
          have D6 := hid ((D5.out.below h0).mono h0.size)
          have K6 := hid (K5.out.below h0)
          have M6 := hid (M5.out.below h0)
          clear h0 HC X5 A5 B5 C5 D5 K5 M5
          obtain ⟨p0, p1, p2, p3⟩ := HBX.out w6 X6.out
          have HC := hid (meet_no TA.out TC.out _ _ _ A6.out C6.out Hg1.out)
          go_wp2_with fail
          refine (HC.out).mono ?_
          rintro e w7 ⟨rfl, h0⟩
          clear p0 p1 p2 p3
          have X7 := hid (X6.out.trans (h0.mono X6.out.size))
          have A7 := hid ((A6.out.below h0).mono h0.size)
          have B7 := hid ((B6.out.below h0).mono h0.size)
          have C7 := hid ((C6.out.below h0).mono h0.size)
          have D7 := hid ((D6.out.below h0).mono h0.size)
          have K7 := hid (K6.out.below h0)
          have M7 := hid (M6.out.below h0)
          clear h0 HC X6 A6 B6 C6 D6 K6 M6
          obtain ⟨p0, p1, p2, p3⟩ := HBX.out w7 X7.out
          have HC := hid (meet_yes TB.out TD.out _ _ _ B7.out D7.out Hg2.out)
          go_wp2_with fail
          refine (HC.out).mono ?_
          rintro e w8 ⟨vQ, rfl, oQ, h0⟩
          obtain ⟨AQ, cQ, rfl, hcQ, hmQ, -⟩ := oQ.rd
          unfold maxLen at hmQ
          have Q8 := hid oQ
          clear oQ
          clear p0 p1 p2 p3
          have X8 := hid (X7.out.trans (h0.mono X7.out.size))
          have A8 := hid ((A7.out.below h0).mono h0.size)
          have B8 := hid ((B7.out.below h0).mono h0.size)
          have C8 := hid ((C7.out.below h0).mono h0.size)
          have D8 := hid ((D7.out.below h0).mono h0.size)
          have K8 := hid (K7.out.below h0)
          have M8 := hid (M7.out.below h0)
          clear h0 HC X7 A7 B7 C7 D7 K7 M7
          obtain ⟨p0, p1, p2, p3⟩ := HBX.out w8 X8.out
          have HC := hid (call_yes GX.out (by omega) (arr_call GA.out.root GB.out.root) _ _ K8.out.rd)
          go_wp2_with fail
          refine (HC.out).mono ?_
          rintro e w9 ⟨vI, vO, rfl, oI, oO, h0⟩
          obtain ⟨AI, cI, rfl, hcI, hmI, -⟩ := oI.rd
          unfold maxLen at hmI
          obtain ⟨AO, cO, rfl, hcO, hmO, -⟩ := oO.rd
          unfold maxLen at hmO
          have I9 := hid oI
          have O9 := hid oO
          clear oI oO
          clear p0 p1 p2 p3
          have X9 := hid (X8.out.trans (h0.mono X8.out.size))
          have A9 := hid ((A8.out.below h0).mono h0.size)
          have B9 := hid ((B8.out.below h0).mono h0.size)
          have C9 := hid ((C8.out.below h0).mono h0.size)
          have D9 := hid ((D8.out.below h0).mono h0.size)
          have K9 := hid (K8.out.below h0)
          have M9 := hid (M8.out.below h0)
          have Q9 := hid (Q8.out.below h0)
          clear h0 HC X8 A8 B8 C8 D8 K8 M8 Q8
          obtain ⟨p0, p1, p2, p3⟩ := HBX.out w9 X9.out
          have HC := hid (one_any FA.flat FA.flat _ _ _ I9.out.rd A9.out)
          rw [decide_eq_true (rfl : FA.flat = FA.flat)] at HC
          go_wp2_with fail
          refine (HC.out).mono ?_
          rintro e w10 ⟨rfl, h0⟩
          clear p0 p1 p2 p3
          have X10 := hid (X9.out.trans (h0.mono X9.out.size))
          have A10 := hid ((A9.out.below h0).mono h0.size)
          have B10 := hid ((B9.out.below h0).mono h0.size)
          have C10 := hid ((C9.out.below h0).mono h0.size)
          have D10 := hid ((D9.out.below h0).mono h0.size)
          have K10 := hid (K9.out.below h0)
          have M10 := hid (M9.out.below h0)
          have Q10 := hid (Q9.out.below h0)
          have I10 := hid (I9.out.below h0)
          have O10 := hid (O9.out.below h0)
          clear h0 HC X9 A9 B9 C9 D9 K9 M9 Q9 I9 O9
          obtain ⟨p0, p1, p2, p3⟩ := HBX.out w10 X10.out
          have HC := hid (one_any FB.flat FB.flat _ _ _ O10.out.rd B10.out)
          rw [decide_eq_true (rfl : FB.flat = FB.flat)] at HC
          go_wp2_with fail
          refine (HC.out).mono ?_
          rintro e w11 ⟨rfl, h0⟩
          clear p0 p1 p2 p3
          have X11 := hid (X10.out.trans (h0.mono X10.out.size))
          have A11 := hid ((A10.out.below h0).mono h0.size)
          have B11 := hid ((B10.out.below h0).mono h0.size)
          have C11 := hid ((C10.out.below h0).mono h0.size)
          have D11 := hid ((D10.out.below h0).mono h0.size)
          have K11 := hid (K10.out.below h0)
          have M11 := hid (M10.out.below h0)
          have Q11 := hid (Q10.out.below h0)
          have I11 := hid (I10.out.below h0)
          have O11 := hid (O10.out.below h0)
          clear h0 HC X10 A10 B10 C10 D10 K10 M10 Q10 I10 O10
          obtain ⟨p0, p1, p2, p3⟩ := HBX.out w11 X11.out
          clear I11 O11
          cases h_be1 : L.beF FA FC with
          | false =>
            have Hbe1 := hid h_be1
            clear h_be1
            have HBB : Hid (L.beF (arrF FA FB) (arrF FC FD) = false) := hid (by rw [arr_be GA.out.root GB.out.root GC.out.root GD.out.root, Hbe1.out]; rfl)
            have E1 := fun d os => below_any TX.out TY.out (.slice AX (arrF FA FB).flat.length cX) (.slice AY (arrF FC FD).flat.length cY) (grow (redrawn w11 d) os) ((K11.out.rd.below (below_regrown w11 d os)).mono (below_regrown w11 d os).size) ((M11.out.rd.below (below_regrown w11 d os)).mono (below_regrown w11 d os).size)
            have E2 := fun d os => below_any TA.out TC.out (.slice Aa FA.flat.length ca) (.slice Ac FC.flat.length cc) (grow (redrawn w11 d) os) ((A11.out.below (below_regrown w11 d os)).mono (below_regrown w11 d os).size) ((C11.out.below (below_regrown w11 d os)).mono (below_regrown w11 d os).size)
            rw [HBB.out] at E1
            rw [Hbe1.out] at E2
            have C1 := hid (fun d os => Calls.regrown_of (E1 d os))
            have C2 := hid (fun d os => Calls.regrown_of (E2 d os))
            clear E1 E2
            have kp0 := cell_regrown p0
            have kp1 := cell_regrown p1
            have kp2 := cell_regrown p2
            have kp3 := cell_regrown p3
            go_wp2_with fail
            refine wp_region_quiet_below (by kernel_rfl) (by kernel_rfl) ?_
            repeat (go_big_quiet_step (fail))
            go_big_quiet_step (exact C1.out _ _)
            repeat (go_big_quiet_step (fail))
            go_big_quiet_step (exact C2.out _ _)
            repeat (go_big_quiet_step (fail))
            refine wpQuiet_nil ?_
            intro _ hw'
            obtain ⟨⟨nq, osq⟩, hw''⟩ := hw'
            subst hw''
            have h0 := below_regrown w11 nq osq
            clear C1 C2 kp0 kp1 kp2 kp3
            obtain ⟨w12, hw⟩ : ∃ w12, w12 = grow (redrawn w11 nq) osq := ⟨_, rfl⟩
            rw [← hw] at h0
            rw [← hw]
            have HWQ := hid hw
            clear hw
            have HC := trivial
            clear p0 p1 p2 p3
            have X12 := hid (X11.out.trans (h0.mono X11.out.size))
            have A12 := hid ((A11.out.below h0).mono h0.size)
            have B12 := hid ((B11.out.below h0).mono h0.size)
            have C12 := hid ((C11.out.below h0).mono h0.size)
            have D12 := hid ((D11.out.below h0).mono h0.size)
            have K12 := hid (K11.out.below h0)
            have M12 := hid (M11.out.below h0)
            have Q12 := hid (Q11.out.below h0)
            clear h0 HC X11 A11 B11 C11 D11 K11 M11 Q11
            obtain ⟨p0, p1, p2, p3⟩ := HBX.out w12 X12.out
            have HC := hid (alive_any w12)
            go_wp2_with fail
            refine (HC.out).mono ?_
            rintro e w13 ⟨rfl, h0⟩
            clear p0 p1 p2 p3
            have X13 := hid (X12.out.trans (h0.mono X12.out.size))
            have A13 := hid ((A12.out.below h0).mono h0.size)
            have B13 := hid ((B12.out.below h0).mono h0.size)
            have C13 := hid ((C12.out.below h0).mono h0.size)
            have D13 := hid ((D12.out.below h0).mono h0.size)
            have K13 := hid (K12.out.below h0)
            have M13 := hid (M12.out.below h0)
            have Q13 := hid (Q12.out.below h0)
            clear h0 HC X12 A12 B12 C12 D12 K12 M12 Q12
            obtain ⟨p0, p1, p2, p3⟩ := HBX.out w13 X13.out
            go_wp2
            go_ret
            exact ⟨rfl, HB1.out.trans (X13.out.mono HB1.out.size)⟩
          | true =>
            have Hbe1 := hid h_be1
            clear h_be1
            cases h_be2 : L.beF FB FD with
            | false =>
              have Hbe2 := hid h_be2
              clear h_be2
              have HBB : Hid (L.beF (arrF FA FB) (arrF FC FD) = false) := hid (by rw [arr_be GA.out.root GB.out.root GC.out.root GD.out.root, Hbe1.out, Hbe2.out]; rfl)
              have E1 := fun d os => below_any TX.out TY.out (.slice AX (arrF FA FB).flat.length cX) (.slice AY (arrF FC FD).flat.length cY) (grow (redrawn w11 d) os) ((K11.out.rd.below (below_regrown w11 d os)).mono (below_regrown w11 d os).size) ((M11.out.rd.below (below_regrown w11 d os)).mono (below_regrown w11 d os).size)
              have E2 := fun d os => below_any TA.out TC.out (.slice Aa FA.flat.length ca) (.slice Ac FC.flat.length cc) (grow (redrawn w11 d) os) ((A11.out.below (below_regrown w11 d os)).mono (below_regrown w11 d os).size) ((C11.out.below (below_regrown w11 d os)).mono (below_regrown w11 d os).size)
              rw [HBB.out] at E1
              rw [Hbe1.out] at E2
              have C1 := hid (fun d os => Calls.regrown_of (E1 d os))
              have C2 := hid (fun d os => Calls.regrown_of (E2 d os))
              clear E1 E2
              have E3 := fun d os => below_any TB.out TD.out (.slice Ab FB.flat.length cb) (.slice Ad FD.flat.length cd) (grow (redrawn w11 d) os) ((B11.out.below (below_regrown w11 d os)).mono (below_regrown w11 d os).size) ((D11.out.below (below_regrown w11 d os)).mono (below_regrown w11 d os).size)
              rw [Hbe2.out] at E3
              have C3 := hid (fun d os => Calls.regrown_of (E3 d os))
              clear E3
              have kp0 := cell_regrown p0
              have kp1 := cell_regrown p1
              have kp2 := cell_regrown p2
              have kp3 := cell_regrown p3
              go_wp2_with fail
              refine wp_region_quiet_below (by kernel_rfl) (by kernel_rfl) ?_
              repeat (go_big_quiet_step (fail))
              go_big_quiet_step (exact C1.out _ _)
              repeat (go_big_quiet_step (fail))
              go_big_quiet_step (exact C2.out _ _)
              repeat (go_big_quiet_step (fail))
              go_big_quiet_step (exact C3.out _ _)
              repeat (go_big_quiet_step (fail))
              refine wpQuiet_nil ?_
              intro _ hw'
              obtain ⟨⟨nq, osq⟩, hw''⟩ := hw'
              subst hw''
              have h0 := below_regrown w11 nq osq
              clear C1 C2 kp0 kp1 kp2 kp3 C3
              obtain ⟨w12, hw⟩ : ∃ w12, w12 = grow (redrawn w11 nq) osq := ⟨_, rfl⟩
              rw [← hw] at h0
              rw [← hw]
              have HWQ := hid hw
              clear hw
              have HC := trivial
              clear p0 p1 p2 p3
              have X12 := hid (X11.out.trans (h0.mono X11.out.size))
              have A12 := hid ((A11.out.below h0).mono h0.size)
              have B12 := hid ((B11.out.below h0).mono h0.size)
              have C12 := hid ((C11.out.below h0).mono h0.size)
              have D12 := hid ((D11.out.below h0).mono h0.size)
              have K12 := hid (K11.out.below h0)
              have M12 := hid (M11.out.below h0)
              have Q12 := hid (Q11.out.below h0)
              clear h0 HC X11 A11 B11 C11 D11 K11 M11 Q11
              obtain ⟨p0, p1, p2, p3⟩ := HBX.out w12 X12.out
              have HC := hid (alive_any w12)
              go_wp2_with fail
              refine (HC.out).mono ?_
              rintro e w13 ⟨rfl, h0⟩
              clear p0 p1 p2 p3
              have X13 := hid (X12.out.trans (h0.mono X12.out.size))
              have A13 := hid ((A12.out.below h0).mono h0.size)
              have B13 := hid ((B12.out.below h0).mono h0.size)
              have C13 := hid ((C12.out.below h0).mono h0.size)
              have D13 := hid ((D12.out.below h0).mono h0.size)
              have K13 := hid (K12.out.below h0)
              have M13 := hid (M12.out.below h0)
              have Q13 := hid (Q12.out.below h0)
              clear h0 HC X12 A12 B12 C12 D12 K12 M12 Q12
              obtain ⟨p0, p1, p2, p3⟩ := HBX.out w13 X13.out
              go_wp2
              go_ret
              exact ⟨rfl, HB1.out.trans (X13.out.mono HB1.out.size)⟩
            | true =>
              have Hbe2 := hid h_be2
              clear h_be2
              have HBB : Hid (L.beF (arrF FA FB) (arrF FC FD) = true) := hid (by rw [arr_be GA.out.root GB.out.root GC.out.root GD.out.root, Hbe1.out, Hbe2.out]; rfl)
              have E1 := fun d os => below_any TX.out TY.out (.slice AX (arrF FA FB).flat.length cX) (.slice AY (arrF FC FD).flat.length cY) (grow (redrawn w11 d) os) ((K11.out.rd.below (below_regrown w11 d os)).mono (below_regrown w11 d os).size) ((M11.out.rd.below (below_regrown w11 d os)).mono (below_regrown w11 d os).size)
              have E2 := fun d os => below_any TA.out TC.out (.slice Aa FA.flat.length ca) (.slice Ac FC.flat.length cc) (grow (redrawn w11 d) os) ((A11.out.below (below_regrown w11 d os)).mono (below_regrown w11 d os).size) ((C11.out.below (below_regrown w11 d os)).mono (below_regrown w11 d os).size)
              rw [HBB.out] at E1
              rw [Hbe1.out] at E2
              have C1 := hid (fun d os => Calls.regrown_of (E1 d os))
              have C2 := hid (fun d os => Calls.regrown_of (E2 d os))
              clear E1 E2
              have E3 := fun d os => below_any TB.out TD.out (.slice Ab FB.flat.length cb) (.slice Ad FD.flat.length cd) (grow (redrawn w11 d) os) ((B11.out.below (below_regrown w11 d os)).mono (below_regrown w11 d os).size) ((D11.out.below (below_regrown w11 d os)).mono (below_regrown w11 d os).size)
              rw [Hbe2.out] at E3
              have C3 := hid (fun d os => Calls.regrown_of (E3 d os))
              clear E3
              have kp0 := cell_regrown p0
              have kp1 := cell_regrown p1
              have kp2 := cell_regrown p2
              have kp3 := cell_regrown p3
              go_wp2_with fail
              refine wp_region_quiet_below (by kernel_rfl) (by kernel_rfl) ?_
              repeat (go_big_quiet_step (fail))
              go_big_quiet_step (exact C1.out _ _)
              repeat (go_big_quiet_step (fail))
              go_big_quiet_step (exact C2.out _ _)
              repeat (go_big_quiet_step (fail))
              go_big_quiet_step (exact C3.out _ _)
              repeat (go_big_quiet_step (fail))
              refine wpQuiet_nil ?_
              intro _ hw'
              obtain ⟨⟨nq, osq⟩, hw''⟩ := hw'
              subst hw''
              have h0 := below_regrown w11 nq osq
              clear C1 C2 kp0 kp1 kp2 kp3 C3
              obtain ⟨w12, hw⟩ : ∃ w12, w12 = grow (redrawn w11 nq) osq := ⟨_, rfl⟩
              rw [← hw] at h0
              rw [← hw]
              have HWQ := hid hw
              clear hw
              have HC := trivial
              clear p0 p1 p2 p3
              have X12 := hid (X11.out.trans (h0.mono X11.out.size))
              have A12 := hid ((A11.out.below h0).mono h0.size)
              have B12 := hid ((B11.out.below h0).mono h0.size)
              have C12 := hid ((C11.out.below h0).mono h0.size)
              have D12 := hid ((D11.out.below h0).mono h0.size)
              have K12 := hid (K11.out.below h0)
              have M12 := hid (M11.out.below h0)
              have Q12 := hid (Q11.out.below h0)
              clear h0 HC X11 A11 B11 C11 D11 K11 M11 Q11
              obtain ⟨p0, p1, p2, p3⟩ := HBX.out w12 X12.out
              have HC := hid (alive_any w12)
              go_wp2_with fail
              refine (HC.out).mono ?_
              rintro e w13 ⟨rfl, h0⟩
              clear p0 p1 p2 p3
              have X13 := hid (X12.out.trans (h0.mono X12.out.size))
              have A13 := hid ((A12.out.below h0).mono h0.size)
              have B13 := hid ((B12.out.below h0).mono h0.size)
              have C13 := hid ((C12.out.below h0).mono h0.size)
              have D13 := hid ((D12.out.below h0).mono h0.size)
              have K13 := hid (K12.out.below h0)
              have M13 := hid (M12.out.below h0)
              have Q13 := hid (Q12.out.below h0)
              clear h0 HC X12 A12 B12 C12 D12 K12 M12 Q12
              obtain ⟨p0, p1, p2, p3⟩ := HBX.out w13 X13.out
              go_wp2
              go_ret
              exact ⟨rfl, HB1.out.trans (X13.out.mono HB1.out.size)⟩
      | true =>
        have Hg1 := hid h_g1
        clear h_g1
        cases h_g2 : L.agF FB FD with
        | false =>
          have Hg2 := hid h_g2
          clear h_g2
          have HXY : Hid (L.agF (arrF FA FB) (arrF FC FD) = false) := hid (by rw [arr_ag GA.out.root GB.out.root GC.out.root GD.out.root, Hg1.out, Hg2.out]; rfl)
          have HC := hid (meet_no TX.out TY.out _ _ _ K5.out.rd M5.out.rd HXY.out)
          go_wp2_with fail
          refine (HC.out).mono ?_
          rintro e w6 ⟨rfl, h0⟩
          clear p0 p1 p2 p3
          have X6 := hid (X5.out.trans (h0.mono X5.out.size))
          have A6 := hid ((A5.out.below h0).mono h0.size)
          have B6 := hid ((B5.out.below h0).mono h0.size)
          have C6 := hid ((C5.out.below h0).mono h0.size)
          have D6 := hid ((D5.out.below h0).mono h0.size)
          have K6 := hid (K5.out.below h0)
          have M6 := hid (M5.out.below h0)
          clear h0 HC X5 A5 B5 C5 D5 K5 M5
          obtain ⟨p0, p1, p2, p3⟩ := HBX.out w6 X6.out
          have HC := hid (meet_yes TA.out TC.out _ _ _ A6.out C6.out Hg1.out)
          go_wp2_with fail
          refine (HC.out).mono ?_
          rintro e w7 ⟨vP, rfl, oP, h0⟩
          obtain ⟨AP, cP, rfl, hcP, hmP, -⟩ := oP.rd
          unfold maxLen at hmP
          have P7 := hid oP
          clear oP
          clear p0 p1 p2 p3
          have X7 := hid (X6.out.trans (h0.mono X6.out.size))
          have A7 := hid ((A6.out.below h0).mono h0.size)
          have B7 := hid ((B6.out.below h0).mono h0.size)
          have C7 := hid ((C6.out.below h0).mono h0.size)
          have D7 := hid ((D6.out.below h0).mono h0.size)
          have K7 := hid (K6.out.below h0)
          have M7 := hid (M6.out.below h0)
          clear h0 HC X6 A6 B6 C6 D6 K6 M6
          obtain ⟨p0, p1, p2, p3⟩ := HBX.out w7 X7.out
          have HC := hid (meet_no TB.out TD.out _ _ _ B7.out D7.out Hg2.out)
          go_wp2_with fail
          refine (HC.out).mono ?_
          rintro e w8 ⟨rfl, h0⟩
          clear p0 p1 p2 p3
          have X8 := hid (X7.out.trans (h0.mono X7.out.size))
          have A8 := hid ((A7.out.below h0).mono h0.size)
          have B8 := hid ((B7.out.below h0).mono h0.size)
          have C8 := hid ((C7.out.below h0).mono h0.size)
          have D8 := hid ((D7.out.below h0).mono h0.size)
          have K8 := hid (K7.out.below h0)
          have M8 := hid (M7.out.below h0)
          have P8 := hid (P7.out.below h0)
          clear h0 HC X7 A7 B7 C7 D7 K7 M7 P7
          obtain ⟨p0, p1, p2, p3⟩ := HBX.out w8 X8.out
          have HC := hid (call_yes GX.out (by omega) (arr_call GA.out.root GB.out.root) _ _ K8.out.rd)
          go_wp2_with fail
          refine (HC.out).mono ?_
          rintro e w9 ⟨vI, vO, rfl, oI, oO, h0⟩
          obtain ⟨AI, cI, rfl, hcI, hmI, -⟩ := oI.rd
          unfold maxLen at hmI
          obtain ⟨AO, cO, rfl, hcO, hmO, -⟩ := oO.rd
          unfold maxLen at hmO
          have I9 := hid oI
          have O9 := hid oO
          clear oI oO
          clear p0 p1 p2 p3
          have X9 := hid (X8.out.trans (h0.mono X8.out.size))
          have A9 := hid ((A8.out.below h0).mono h0.size)
          have B9 := hid ((B8.out.below h0).mono h0.size)
          have C9 := hid ((C8.out.below h0).mono h0.size)
          have D9 := hid ((D8.out.below h0).mono h0.size)
          have K9 := hid (K8.out.below h0)
          have M9 := hid (M8.out.below h0)
          have P9 := hid (P8.out.below h0)
          clear h0 HC X8 A8 B8 C8 D8 K8 M8 P8
          obtain ⟨p0, p1, p2, p3⟩ := HBX.out w9 X9.out
          have HC := hid (one_any FA.flat FA.flat _ _ _ I9.out.rd A9.out)
          rw [decide_eq_true (rfl : FA.flat = FA.flat)] at HC
          go_wp2_with fail
          refine (HC.out).mono ?_
          rintro e w10 ⟨rfl, h0⟩
          clear p0 p1 p2 p3
          have X10 := hid (X9.out.trans (h0.mono X9.out.size))
          have A10 := hid ((A9.out.below h0).mono h0.size)
          have B10 := hid ((B9.out.below h0).mono h0.size)
          have C10 := hid ((C9.out.below h0).mono h0.size)
          have D10 := hid ((D9.out.below h0).mono h0.size)
          have K10 := hid (K9.out.below h0)
          have M10 := hid (M9.out.below h0)
          have P10 := hid (P9.out.below h0)
          have I10 := hid (I9.out.below h0)
          have O10 := hid (O9.out.below h0)
          clear h0 HC X9 A9 B9 C9 D9 K9 M9 P9 I9 O9
          obtain ⟨p0, p1, p2, p3⟩ := HBX.out w10 X10.out
          have HC := hid (one_any FB.flat FB.flat _ _ _ O10.out.rd B10.out)
          rw [decide_eq_true (rfl : FB.flat = FB.flat)] at HC
          go_wp2_with fail
          refine (HC.out).mono ?_
          rintro e w11 ⟨rfl, h0⟩
          clear p0 p1 p2 p3
          have X11 := hid (X10.out.trans (h0.mono X10.out.size))
          have A11 := hid ((A10.out.below h0).mono h0.size)
          have B11 := hid ((B10.out.below h0).mono h0.size)
          have C11 := hid ((C10.out.below h0).mono h0.size)
          have D11 := hid ((D10.out.below h0).mono h0.size)
          have K11 := hid (K10.out.below h0)
          have M11 := hid (M10.out.below h0)
          have P11 := hid (P10.out.below h0)
          have I11 := hid (I10.out.below h0)
          have O11 := hid (O10.out.below h0)
          clear h0 HC X10 A10 B10 C10 D10 K10 M10 P10 I10 O10
          obtain ⟨p0, p1, p2, p3⟩ := HBX.out w11 X11.out
          clear I11 O11
          cases h_be1 : L.beF FA FC with
          | false =>
            have Hbe1 := hid h_be1
            clear h_be1
            have HBB : Hid (L.beF (arrF FA FB) (arrF FC FD) = false) := hid (by rw [arr_be GA.out.root GB.out.root GC.out.root GD.out.root, Hbe1.out]; rfl)
            have E1 := fun d os => below_any TX.out TY.out (.slice AX (arrF FA FB).flat.length cX) (.slice AY (arrF FC FD).flat.length cY) (grow (redrawn w11 d) os) ((K11.out.rd.below (below_regrown w11 d os)).mono (below_regrown w11 d os).size) ((M11.out.rd.below (below_regrown w11 d os)).mono (below_regrown w11 d os).size)
            have E2 := fun d os => below_any TA.out TC.out (.slice Aa FA.flat.length ca) (.slice Ac FC.flat.length cc) (grow (redrawn w11 d) os) ((A11.out.below (below_regrown w11 d os)).mono (below_regrown w11 d os).size) ((C11.out.below (below_regrown w11 d os)).mono (below_regrown w11 d os).size)
            rw [HBB.out] at E1
            rw [Hbe1.out] at E2
            have C1 := hid (fun d os => Calls.regrown_of (E1 d os))
            have C2 := hid (fun d os => Calls.regrown_of (E2 d os))
            clear E1 E2
            have kp0 := cell_regrown p0
            have kp1 := cell_regrown p1
            have kp2 := cell_regrown p2
            have kp3 := cell_regrown p3
            go_wp2_with fail
            refine wp_region_quiet_below (by kernel_rfl) (by kernel_rfl) ?_
            repeat (go_big_quiet_step (fail))
            go_big_quiet_step (exact C1.out _ _)
            repeat (go_big_quiet_step (fail))
            go_big_quiet_step (exact C2.out _ _)
            repeat (go_big_quiet_step (fail))
            refine wpQuiet_nil ?_
            intro _ hw'
            obtain ⟨⟨nq, osq⟩, hw''⟩ := hw'
            subst hw''
            have h0 := below_regrown w11 nq osq
            clear C1 C2 kp0 kp1 kp2 kp3
            obtain ⟨w12, hw⟩ : ∃ w12, w12 = grow (redrawn w11 nq) osq := ⟨_, rfl⟩
            rw [← hw] at h0
            rw [← hw]
            have HWQ := hid hw
            clear hw
            have HC := trivial
            clear p0 p1 p2 p3
            have X12 := hid (X11.out.trans (h0.mono X11.out.size))
            have A12 := hid ((A11.out.below h0).mono h0.size)
            have B12 := hid ((B11.out.below h0).mono h0.size)
            have C12 := hid ((C11.out.below h0).mono h0.size)
            have D12 := hid ((D11.out.below h0).mono h0.size)
            have K12 := hid (K11.out.below h0)
            have M12 := hid (M11.out.below h0)
            have P12 := hid (P11.out.below h0)
            clear h0 HC X11 A11 B11 C11 D11 K11 M11 P11
            obtain ⟨p0, p1, p2, p3⟩ := HBX.out w12 X12.out
            have HC := hid (alive_any w12)
            go_wp2_with fail
            refine (HC.out).mono ?_
            rintro e w13 ⟨rfl, h0⟩
            clear p0 p1 p2 p3
            have X13 := hid (X12.out.trans (h0.mono X12.out.size))
            have A13 := hid ((A12.out.below h0).mono h0.size)
            have B13 := hid ((B12.out.below h0).mono h0.size)
            have C13 := hid ((C12.out.below h0).mono h0.size)
            have D13 := hid ((D12.out.below h0).mono h0.size)
            have K13 := hid (K12.out.below h0)
            have M13 := hid (M12.out.below h0)
            have P13 := hid (P12.out.below h0)
            clear h0 HC X12 A12 B12 C12 D12 K12 M12 P12
            obtain ⟨p0, p1, p2, p3⟩ := HBX.out w13 X13.out
            go_wp2
            go_ret
            exact ⟨rfl, HB1.out.trans (X13.out.mono HB1.out.size)⟩
          | true =>
            have Hbe1 := hid h_be1
            clear h_be1
            cases h_be2 : L.beF FB FD with
            | false =>
              have Hbe2 := hid h_be2
              clear h_be2
              have HBB : Hid (L.beF (arrF FA FB) (arrF FC FD) = false) := hid (by rw [arr_be GA.out.root GB.out.root GC.out.root GD.out.root, Hbe1.out, Hbe2.out]; rfl)
              have E1 := fun d os => below_any TX.out TY.out (.slice AX (arrF FA FB).flat.length cX) (.slice AY (arrF FC FD).flat.length cY) (grow (redrawn w11 d) os) ((K11.out.rd.below (below_regrown w11 d os)).mono (below_regrown w11 d os).size) ((M11.out.rd.below (below_regrown w11 d os)).mono (below_regrown w11 d os).size)
              have E2 := fun d os => below_any TA.out TC.out (.slice Aa FA.flat.length ca) (.slice Ac FC.flat.length cc) (grow (redrawn w11 d) os) ((A11.out.below (below_regrown w11 d os)).mono (below_regrown w11 d os).size) ((C11.out.below (below_regrown w11 d os)).mono (below_regrown w11 d os).size)
              rw [HBB.out] at E1
              rw [Hbe1.out] at E2
              have C1 := hid (fun d os => Calls.regrown_of (E1 d os))
              have C2 := hid (fun d os => Calls.regrown_of (E2 d os))
              clear E1 E2
              have E3 := fun d os => below_any TB.out TD.out (.slice Ab FB.flat.length cb) (.slice Ad FD.flat.length cd) (grow (redrawn w11 d) os) ((B11.out.below (below_regrown w11 d os)).mono (below_regrown w11 d os).size) ((D11.out.below (below_regrown w11 d os)).mono (below_regrown w11 d os).size)
              rw [Hbe2.out] at E3
              have C3 := hid (fun d os => Calls.regrown_of (E3 d os))
              clear E3
              have kp0 := cell_regrown p0
              have kp1 := cell_regrown p1
              have kp2 := cell_regrown p2
              have kp3 := cell_regrown p3
              go_wp2_with fail
              refine wp_region_quiet_below (by kernel_rfl) (by kernel_rfl) ?_
              repeat (go_big_quiet_step (fail))
              go_big_quiet_step (exact C1.out _ _)
              repeat (go_big_quiet_step (fail))
              go_big_quiet_step (exact C2.out _ _)
              repeat (go_big_quiet_step (fail))
              go_big_quiet_step (exact C3.out _ _)
              repeat (go_big_quiet_step (fail))
              refine wpQuiet_nil ?_
              intro _ hw'
              obtain ⟨⟨nq, osq⟩, hw''⟩ := hw'
              subst hw''
              have h0 := below_regrown w11 nq osq
              clear C1 C2 kp0 kp1 kp2 kp3 C3
              obtain ⟨w12, hw⟩ : ∃ w12, w12 = grow (redrawn w11 nq) osq := ⟨_, rfl⟩
              rw [← hw] at h0
              rw [← hw]
              have HWQ := hid hw
              clear hw
              have HC := trivial
              clear p0 p1 p2 p3
              have X12 := hid (X11.out.trans (h0.mono X11.out.size))
              have A12 := hid ((A11.out.below h0).mono h0.size)
              have B12 := hid ((B11.out.below h0).mono h0.size)
              have C12 := hid ((C11.out.below h0).mono h0.size)
              have D12 := hid ((D11.out.below h0).mono h0.size)
              have K12 := hid (K11.out.below h0)
              have M12 := hid (M11.out.below h0)
              have P12 := hid (P11.out.below h0)
              clear h0 HC X11 A11 B11 C11 D11 K11 M11 P11
              obtain ⟨p0, p1, p2, p3⟩ := HBX.out w12 X12.out
              have HC := hid (alive_any w12)
              go_wp2_with fail
              refine (HC.out).mono ?_
              rintro e w13 ⟨rfl, h0⟩
              clear p0 p1 p2 p3
              have X13 := hid (X12.out.trans (h0.mono X12.out.size))
              have A13 := hid ((A12.out.below h0).mono h0.size)
              have B13 := hid ((B12.out.below h0).mono h0.size)
              have C13 := hid ((C12.out.below h0).mono h0.size)
              have D13 := hid ((D12.out.below h0).mono h0.size)
              have K13 := hid (K12.out.below h0)
              have M13 := hid (M12.out.below h0)
              have P13 := hid (P12.out.below h0)
              clear h0 HC X12 A12 B12 C12 D12 K12 M12 P12
              obtain ⟨p0, p1, p2, p3⟩ := HBX.out w13 X13.out
              go_wp2
              go_ret
              exact ⟨rfl, HB1.out.trans (X13.out.mono HB1.out.size)⟩
            | true =>
              have Hbe2 := hid h_be2
              clear h_be2
              have HBB : Hid (L.beF (arrF FA FB) (arrF FC FD) = true) := hid (by rw [arr_be GA.out.root GB.out.root GC.out.root GD.out.root, Hbe1.out, Hbe2.out]; rfl)
              have E1 := fun d os => below_any TX.out TY.out (.slice AX (arrF FA FB).flat.length cX) (.slice AY (arrF FC FD).flat.length cY) (grow (redrawn w11 d) os) ((K11.out.rd.below (below_regrown w11 d os)).mono (below_regrown w11 d os).size) ((M11.out.rd.below (below_regrown w11 d os)).mono (below_regrown w11 d os).size)
              have E2 := fun d os => below_any TA.out TC.out (.slice Aa FA.flat.length ca) (.slice Ac FC.flat.length cc) (grow (redrawn w11 d) os) ((A11.out.below (below_regrown w11 d os)).mono (below_regrown w11 d os).size) ((C11.out.below (below_regrown w11 d os)).mono (below_regrown w11 d os).size)
              rw [HBB.out] at E1
              rw [Hbe1.out] at E2
              have C1 := hid (fun d os => Calls.regrown_of (E1 d os))
              have C2 := hid (fun d os => Calls.regrown_of (E2 d os))
              clear E1 E2
              have E3 := fun d os => below_any TB.out TD.out (.slice Ab FB.flat.length cb) (.slice Ad FD.flat.length cd) (grow (redrawn w11 d) os) ((B11.out.below (below_regrown w11 d os)).mono (below_regrown w11 d os).size) ((D11.out.below (below_regrown w11 d os)).mono (below_regrown w11 d os).size)
              rw [Hbe2.out] at E3
              have C3 := hid (fun d os => Calls.regrown_of (E3 d os))
              clear E3
              have kp0 := cell_regrown p0
              have kp1 := cell_regrown p1
              have kp2 := cell_regrown p2
              have kp3 := cell_regrown p3
              go_wp2_with fail
              refine wp_region_quiet_below (by kernel_rfl) (by kernel_rfl) ?_
              repeat (go_big_quiet_step (fail))
              go_big_quiet_step (exact C1.out _ _)
              repeat (go_big_quiet_step (fail))
              go_big_quiet_step (exact C2.out _ _)
              repeat (go_big_quiet_step (fail))
              go_big_quiet_step (exact C3.out _ _)
              repeat (go_big_quiet_step (fail))
              refine wpQuiet_nil ?_
              intro _ hw'
              obtain ⟨⟨nq, osq⟩, hw''⟩ := hw'
              subst hw''
              have h0 := below_regrown w11 nq osq
              clear C1 C2 kp0 kp1 kp2 kp3 C3
              obtain ⟨w12, hw⟩ : ∃ w12, w12 = grow (redrawn w11 nq) osq := ⟨_, rfl⟩
              rw [← hw] at h0
              rw [← hw]
              have HWQ := hid hw
              clear hw
              have HC := trivial
              clear p0 p1 p2 p3
              have X12 := hid (X11.out.trans (h0.mono X11.out.size))
              have A12 := hid ((A11.out.below h0).mono h0.size)
              have B12 := hid ((B11.out.below h0).mono h0.size)
              have C12 := hid ((C11.out.below h0).mono h0.size)
              have D12 := hid ((D11.out.below h0).mono h0.size)
              have K12 := hid (K11.out.below h0)
              have M12 := hid (M11.out.below h0)
              have P12 := hid (P11.out.below h0)
              clear h0 HC X11 A11 B11 C11 D11 K11 M11 P11
              obtain ⟨p0, p1, p2, p3⟩ := HBX.out w12 X12.out
              have HC := hid (alive_any w12)
              go_wp2_with fail
              refine (HC.out).mono ?_
              rintro e w13 ⟨rfl, h0⟩
              clear p0 p1 p2 p3
              have X13 := hid (X12.out.trans (h0.mono X12.out.size))
              have A13 := hid ((A12.out.below h0).mono h0.size)
              have B13 := hid ((B12.out.below h0).mono h0.size)
              have C13 := hid ((C12.out.below h0).mono h0.size)
              have D13 := hid ((D12.out.below h0).mono h0.size)
              have K13 := hid (K12.out.below h0)
              have M13 := hid (M12.out.below h0)
              have P13 := hid (P12.out.below h0)
              clear h0 HC X12 A12 B12 C12 D12 K12 M12 P12
              obtain ⟨p0, p1, p2, p3⟩ := HBX.out w13 X13.out
              go_wp2
              go_ret
              exact ⟨rfl, HB1.out.trans (X13.out.mono HB1.out.size)⟩
        | true =>
          have Hg2 := hid h_g2
          clear h_g2
          have HXY : Hid (L.agF (arrF FA FB) (arrF FC FD) = true) := hid (by rw [arr_ag GA.out.root GB.out.root GC.out.root GD.out.root, Hg1.out, Hg2.out]; rfl)
          have HC := hid (meet_yes TX.out TY.out _ _ _ K5.out.rd M5.out.rd HXY.out)
          go_wp2_with fail
          refine (HC.out).mono ?_
          rintro e w6 ⟨vN, rfl, oN, h0⟩
          obtain ⟨AN, cN, rfl, hcN, hmN, -⟩ := oN.rd
          unfold maxLen at hmN
          have N6 := hid oN
          clear oN
          clear p0 p1 p2 p3
          have X6 := hid (X5.out.trans (h0.mono X5.out.size))
          have A6 := hid ((A5.out.below h0).mono h0.size)
          have B6 := hid ((B5.out.below h0).mono h0.size)
          have C6 := hid ((C5.out.below h0).mono h0.size)
          have D6 := hid ((D5.out.below h0).mono h0.size)
          have K6 := hid (K5.out.below h0)
          have M6 := hid (M5.out.below h0)
          clear h0 HC X5 A5 B5 C5 D5 K5 M5
          obtain ⟨p0, p1, p2, p3⟩ := HBX.out w6 X6.out
          have HC := hid (meet_yes TA.out TC.out _ _ _ A6.out C6.out Hg1.out)
          go_wp2_with fail
          refine (HC.out).mono ?_
          rintro e w7 ⟨vP, rfl, oP, h0⟩
          obtain ⟨AP, cP, rfl, hcP, hmP, -⟩ := oP.rd
          unfold maxLen at hmP
          have P7 := hid oP
          clear oP
          clear p0 p1 p2 p3
          have X7 := hid (X6.out.trans (h0.mono X6.out.size))
          have A7 := hid ((A6.out.below h0).mono h0.size)
          have B7 := hid ((B6.out.below h0).mono h0.size)
          have C7 := hid ((C6.out.below h0).mono h0.size)
          have D7 := hid ((D6.out.below h0).mono h0.size)
          have K7 := hid (K6.out.below h0)
          have M7 := hid (M6.out.below h0)
          have N7 := hid (N6.out.below h0)
          clear h0 HC X6 A6 B6 C6 D6 K6 M6 N6
          obtain ⟨p0, p1, p2, p3⟩ := HBX.out w7 X7.out
          have HC := hid (meet_yes TB.out TD.out _ _ _ B7.out D7.out Hg2.out)
          go_wp2_with fail
          refine (HC.out).mono ?_
          rintro e w8 ⟨vQ, rfl, oQ, h0⟩
          obtain ⟨AQ, cQ, rfl, hcQ, hmQ, -⟩ := oQ.rd
          unfold maxLen at hmQ
          have Q8 := hid oQ
          clear oQ
          clear p0 p1 p2 p3
          have X8 := hid (X7.out.trans (h0.mono X7.out.size))
          have A8 := hid ((A7.out.below h0).mono h0.size)
          have B8 := hid ((B7.out.below h0).mono h0.size)
          have C8 := hid ((C7.out.below h0).mono h0.size)
          have D8 := hid ((D7.out.below h0).mono h0.size)
          have K8 := hid (K7.out.below h0)
          have M8 := hid (M7.out.below h0)
          have N8 := hid (N7.out.below h0)
          have P8 := hid (P7.out.below h0)
          clear h0 HC X7 A7 B7 C7 D7 K7 M7 N7 P7
          obtain ⟨p0, p1, p2, p3⟩ := HBX.out w8 X8.out
          have HC := hid (call_yes GX.out (by omega) (arr_call GA.out.root GB.out.root) _ _ K8.out.rd)
          go_wp2_with fail
          refine (HC.out).mono ?_
          rintro e w9 ⟨vI, vO, rfl, oI, oO, h0⟩
          obtain ⟨AI, cI, rfl, hcI, hmI, -⟩ := oI.rd
          unfold maxLen at hmI
          obtain ⟨AO, cO, rfl, hcO, hmO, -⟩ := oO.rd
          unfold maxLen at hmO
          have I9 := hid oI
          have O9 := hid oO
          clear oI oO
          clear p0 p1 p2 p3
          have X9 := hid (X8.out.trans (h0.mono X8.out.size))
          have A9 := hid ((A8.out.below h0).mono h0.size)
          have B9 := hid ((B8.out.below h0).mono h0.size)
          have C9 := hid ((C8.out.below h0).mono h0.size)
          have D9 := hid ((D8.out.below h0).mono h0.size)
          have K9 := hid (K8.out.below h0)
          have M9 := hid (M8.out.below h0)
          have N9 := hid (N8.out.below h0)
          have P9 := hid (P8.out.below h0)
          have Q9 := hid (Q8.out.below h0)
          clear h0 HC X8 A8 B8 C8 D8 K8 M8 N8 P8 Q8
          obtain ⟨p0, p1, p2, p3⟩ := HBX.out w9 X9.out
          have HC := hid (one_any FA.flat FA.flat _ _ _ I9.out.rd A9.out)
          rw [decide_eq_true (rfl : FA.flat = FA.flat)] at HC
          go_wp2_with fail
          refine (HC.out).mono ?_
          rintro e w10 ⟨rfl, h0⟩
          clear p0 p1 p2 p3
          have X10 := hid (X9.out.trans (h0.mono X9.out.size))
          have A10 := hid ((A9.out.below h0).mono h0.size)
          have B10 := hid ((B9.out.below h0).mono h0.size)
          have C10 := hid ((C9.out.below h0).mono h0.size)
          have D10 := hid ((D9.out.below h0).mono h0.size)
          have K10 := hid (K9.out.below h0)
          have M10 := hid (M9.out.below h0)
          have N10 := hid (N9.out.below h0)
          have P10 := hid (P9.out.below h0)
          have Q10 := hid (Q9.out.below h0)
          have I10 := hid (I9.out.below h0)
          have O10 := hid (O9.out.below h0)
          clear h0 HC X9 A9 B9 C9 D9 K9 M9 N9 P9 Q9 I9 O9
          obtain ⟨p0, p1, p2, p3⟩ := HBX.out w10 X10.out
          have HC := hid (one_any FB.flat FB.flat _ _ _ O10.out.rd B10.out)
          rw [decide_eq_true (rfl : FB.flat = FB.flat)] at HC
          go_wp2_with fail
          refine (HC.out).mono ?_
          rintro e w11 ⟨rfl, h0⟩
          clear p0 p1 p2 p3
          have X11 := hid (X10.out.trans (h0.mono X10.out.size))
          have A11 := hid ((A10.out.below h0).mono h0.size)
          have B11 := hid ((B10.out.below h0).mono h0.size)
          have C11 := hid ((C10.out.below h0).mono h0.size)
          have D11 := hid ((D10.out.below h0).mono h0.size)
          have K11 := hid (K10.out.below h0)
          have M11 := hid (M10.out.below h0)
          have N11 := hid (N10.out.below h0)
          have P11 := hid (P10.out.below h0)
          have Q11 := hid (Q10.out.below h0)
          have I11 := hid (I10.out.below h0)
          have O11 := hid (O10.out.below h0)
          clear h0 HC X10 A10 B10 C10 D10 K10 M10 N10 P10 Q10 I10 O10
          obtain ⟨p0, p1, p2, p3⟩ := HBX.out w11 X11.out
          clear I11 O11
          cases h_be1 : L.beF FA FC with
          | false =>
            have Hbe1 := hid h_be1
            clear h_be1
            have HBB : Hid (L.beF (arrF FA FB) (arrF FC FD) = false) := hid (by rw [arr_be GA.out.root GB.out.root GC.out.root GD.out.root, Hbe1.out]; rfl)
            have E1 := fun d os => below_any TX.out TY.out (.slice AX (arrF FA FB).flat.length cX) (.slice AY (arrF FC FD).flat.length cY) (grow (redrawn w11 d) os) ((K11.out.rd.below (below_regrown w11 d os)).mono (below_regrown w11 d os).size) ((M11.out.rd.below (below_regrown w11 d os)).mono (below_regrown w11 d os).size)
            have E2 := fun d os => below_any TA.out TC.out (.slice Aa FA.flat.length ca) (.slice Ac FC.flat.length cc) (grow (redrawn w11 d) os) ((A11.out.below (below_regrown w11 d os)).mono (below_regrown w11 d os).size) ((C11.out.below (below_regrown w11 d os)).mono (below_regrown w11 d os).size)
            rw [HBB.out] at E1
            rw [Hbe1.out] at E2
            have C1 := hid (fun d os => Calls.regrown_of (E1 d os))
            have C2 := hid (fun d os => Calls.regrown_of (E2 d os))
            clear E1 E2
            have kp0 := cell_regrown p0
            have kp1 := cell_regrown p1
            have kp2 := cell_regrown p2
            have kp3 := cell_regrown p3
            go_wp2_with fail
            refine wp_region_quiet_below (by kernel_rfl) (by kernel_rfl) ?_
            repeat (go_big_quiet_step (fail))
            go_big_quiet_step (exact C1.out _ _)
            repeat (go_big_quiet_step (fail))
            go_big_quiet_step (exact C2.out _ _)
            repeat (go_big_quiet_step (fail))
            refine wpQuiet_nil ?_
            intro _ hw'
            obtain ⟨⟨nq, osq⟩, hw''⟩ := hw'
            subst hw''
            have h0 := below_regrown w11 nq osq
            clear C1 C2 kp0 kp1 kp2 kp3
            obtain ⟨w12, hw⟩ : ∃ w12, w12 = grow (redrawn w11 nq) osq := ⟨_, rfl⟩
            rw [← hw] at h0
            rw [← hw]
            have HWQ := hid hw
            clear hw
            have HC := trivial
            clear p0 p1 p2 p3
            have X12 := hid (X11.out.trans (h0.mono X11.out.size))
            have A12 := hid ((A11.out.below h0).mono h0.size)
            have B12 := hid ((B11.out.below h0).mono h0.size)
            have C12 := hid ((C11.out.below h0).mono h0.size)
            have D12 := hid ((D11.out.below h0).mono h0.size)
            have K12 := hid (K11.out.below h0)
            have M12 := hid (M11.out.below h0)
            have N12 := hid (N11.out.below h0)
            have P12 := hid (P11.out.below h0)
            have Q12 := hid (Q11.out.below h0)
            clear h0 HC X11 A11 B11 C11 D11 K11 M11 N11 P11 Q11
            obtain ⟨p0, p1, p2, p3⟩ := HBX.out w12 X12.out
            have HC := hid (alive_any w12)
            go_wp2_with fail
            refine (HC.out).mono ?_
            rintro e w13 ⟨rfl, h0⟩
            clear p0 p1 p2 p3
            have X13 := hid (X12.out.trans (h0.mono X12.out.size))
            have A13 := hid ((A12.out.below h0).mono h0.size)
            have B13 := hid ((B12.out.below h0).mono h0.size)
            have C13 := hid ((C12.out.below h0).mono h0.size)
            have D13 := hid ((D12.out.below h0).mono h0.size)
            have K13 := hid (K12.out.below h0)
            have M13 := hid (M12.out.below h0)
            have N13 := hid (N12.out.below h0)
            have P13 := hid (P12.out.below h0)
            have Q13 := hid (Q12.out.below h0)
            clear h0 HC X12 A12 B12 C12 D12 K12 M12 N12 P12 Q12
            obtain ⟨p0, p1, p2, p3⟩ := HBX.out w13 X13.out
            have HC := hid (refArrow_any (L.meF FA FC).flat (L.meF FB FD).flat _ _ _ P13.out.rd Q13.out.rd (me_ne GA.out GC.out) (me_ne GB.out GD.out) (me_20 GA.out GC.out) (me_20 GB.out GD.out))
            rw [← arr_flat7, ← arr_me GA.out.root GB.out.root GC.out.root GD.out.root] at HC
            go_wp2_with fail
            refine (HC.out).mono ?_
            rintro e w14 ⟨vR, rfl, oR, h0⟩
            obtain ⟨AR, cR, rfl, hcR, hmR, -⟩ := oR.rd
            unfold maxLen at hmR
            have R14 := hid oR
            clear oR
            clear p0 p1 p2 p3
            have X14 := hid (X13.out.trans (h0.mono X13.out.size))
            have A14 := hid ((A13.out.below h0).mono h0.size)
            have B14 := hid ((B13.out.below h0).mono h0.size)
            have C14 := hid ((C13.out.below h0).mono h0.size)
            have D14 := hid ((D13.out.below h0).mono h0.size)
            have K14 := hid (K13.out.below h0)
            have M14 := hid (M13.out.below h0)
            have N14 := hid (N13.out.below h0)
            have P14 := hid (P13.out.below h0)
            have Q14 := hid (Q13.out.below h0)
            clear h0 HC X13 A13 B13 C13 D13 K13 M13 N13 P13 Q13
            obtain ⟨p0, p1, p2, p3⟩ := HBX.out w14 X14.out
            have HC := hid (one_any (L.meF (arrF FA FB) (arrF FC FD)).flat (L.meF (arrF FA FB) (arrF FC FD)).flat _ _ _ N14.out.rd R14.out.rd)
            rw [decide_eq_true (rfl : (L.meF (arrF FA FB) (arrF FC FD)).flat = (L.meF (arrF FA FB) (arrF FC FD)).flat)] at HC
            go_wp2_with fail
            refine (HC.out).mono ?_
            rintro e w15 ⟨rfl, h0⟩
            clear p0 p1 p2 p3
            have X15 := hid (X14.out.trans (h0.mono X14.out.size))
            have A15 := hid ((A14.out.below h0).mono h0.size)
            have B15 := hid ((B14.out.below h0).mono h0.size)
            have C15 := hid ((C14.out.below h0).mono h0.size)
            have D15 := hid ((D14.out.below h0).mono h0.size)
            have K15 := hid (K14.out.below h0)
            have M15 := hid (M14.out.below h0)
            have N15 := hid (N14.out.below h0)
            have P15 := hid (P14.out.below h0)
            have Q15 := hid (Q14.out.below h0)
            have R15 := hid (R14.out.below h0)
            clear h0 HC X14 A14 B14 C14 D14 K14 M14 N14 P14 Q14 R14
            obtain ⟨p0, p1, p2, p3⟩ := HBX.out w15 X15.out
            go_wp2
            go_ret
            exact ⟨rfl, HB1.out.trans (X15.out.mono HB1.out.size)⟩
          | true =>
            have Hbe1 := hid h_be1
            clear h_be1
            cases h_be2 : L.beF FB FD with
            | false =>
              have Hbe2 := hid h_be2
              clear h_be2
              have HBB : Hid (L.beF (arrF FA FB) (arrF FC FD) = false) := hid (by rw [arr_be GA.out.root GB.out.root GC.out.root GD.out.root, Hbe1.out, Hbe2.out]; rfl)
              have E1 := fun d os => below_any TX.out TY.out (.slice AX (arrF FA FB).flat.length cX) (.slice AY (arrF FC FD).flat.length cY) (grow (redrawn w11 d) os) ((K11.out.rd.below (below_regrown w11 d os)).mono (below_regrown w11 d os).size) ((M11.out.rd.below (below_regrown w11 d os)).mono (below_regrown w11 d os).size)
              have E2 := fun d os => below_any TA.out TC.out (.slice Aa FA.flat.length ca) (.slice Ac FC.flat.length cc) (grow (redrawn w11 d) os) ((A11.out.below (below_regrown w11 d os)).mono (below_regrown w11 d os).size) ((C11.out.below (below_regrown w11 d os)).mono (below_regrown w11 d os).size)
              rw [HBB.out] at E1
              rw [Hbe1.out] at E2
              have C1 := hid (fun d os => Calls.regrown_of (E1 d os))
              have C2 := hid (fun d os => Calls.regrown_of (E2 d os))
              clear E1 E2
              have E3 := fun d os => below_any TB.out TD.out (.slice Ab FB.flat.length cb) (.slice Ad FD.flat.length cd) (grow (redrawn w11 d) os) ((B11.out.below (below_regrown w11 d os)).mono (below_regrown w11 d os).size) ((D11.out.below (below_regrown w11 d os)).mono (below_regrown w11 d os).size)
              rw [Hbe2.out] at E3
              have C3 := hid (fun d os => Calls.regrown_of (E3 d os))
              clear E3
              have kp0 := cell_regrown p0
              have kp1 := cell_regrown p1
              have kp2 := cell_regrown p2
              have kp3 := cell_regrown p3
              go_wp2_with fail
              refine wp_region_quiet_below (by kernel_rfl) (by kernel_rfl) ?_
              repeat (go_big_quiet_step (fail))
              go_big_quiet_step (exact C1.out _ _)
              repeat (go_big_quiet_step (fail))
              go_big_quiet_step (exact C2.out _ _)
              repeat (go_big_quiet_step (fail))
              go_big_quiet_step (exact C3.out _ _)
              repeat (go_big_quiet_step (fail))
              refine wpQuiet_nil ?_
              intro _ hw'
              obtain ⟨⟨nq, osq⟩, hw''⟩ := hw'
              subst hw''
              have h0 := below_regrown w11 nq osq
              clear C1 C2 kp0 kp1 kp2 kp3 C3
              obtain ⟨w12, hw⟩ : ∃ w12, w12 = grow (redrawn w11 nq) osq := ⟨_, rfl⟩
              rw [← hw] at h0
              rw [← hw]
              have HWQ := hid hw
              clear hw
              have HC := trivial
              clear p0 p1 p2 p3
              have X12 := hid (X11.out.trans (h0.mono X11.out.size))
              have A12 := hid ((A11.out.below h0).mono h0.size)
              have B12 := hid ((B11.out.below h0).mono h0.size)
              have C12 := hid ((C11.out.below h0).mono h0.size)
              have D12 := hid ((D11.out.below h0).mono h0.size)
              have K12 := hid (K11.out.below h0)
              have M12 := hid (M11.out.below h0)
              have N12 := hid (N11.out.below h0)
              have P12 := hid (P11.out.below h0)
              have Q12 := hid (Q11.out.below h0)
              clear h0 HC X11 A11 B11 C11 D11 K11 M11 N11 P11 Q11
              obtain ⟨p0, p1, p2, p3⟩ := HBX.out w12 X12.out
              have HC := hid (alive_any w12)
              go_wp2_with fail
              refine (HC.out).mono ?_
              rintro e w13 ⟨rfl, h0⟩
              clear p0 p1 p2 p3
              have X13 := hid (X12.out.trans (h0.mono X12.out.size))
              have A13 := hid ((A12.out.below h0).mono h0.size)
              have B13 := hid ((B12.out.below h0).mono h0.size)
              have C13 := hid ((C12.out.below h0).mono h0.size)
              have D13 := hid ((D12.out.below h0).mono h0.size)
              have K13 := hid (K12.out.below h0)
              have M13 := hid (M12.out.below h0)
              have N13 := hid (N12.out.below h0)
              have P13 := hid (P12.out.below h0)
              have Q13 := hid (Q12.out.below h0)
              clear h0 HC X12 A12 B12 C12 D12 K12 M12 N12 P12 Q12
              obtain ⟨p0, p1, p2, p3⟩ := HBX.out w13 X13.out
              have HC := hid (refArrow_any (L.meF FA FC).flat (L.meF FB FD).flat _ _ _ P13.out.rd Q13.out.rd (me_ne GA.out GC.out) (me_ne GB.out GD.out) (me_20 GA.out GC.out) (me_20 GB.out GD.out))
              rw [← arr_flat7, ← arr_me GA.out.root GB.out.root GC.out.root GD.out.root] at HC
              go_wp2_with fail
              refine (HC.out).mono ?_
              rintro e w14 ⟨vR, rfl, oR, h0⟩
              obtain ⟨AR, cR, rfl, hcR, hmR, -⟩ := oR.rd
              unfold maxLen at hmR
              have R14 := hid oR
              clear oR
              clear p0 p1 p2 p3
              have X14 := hid (X13.out.trans (h0.mono X13.out.size))
              have A14 := hid ((A13.out.below h0).mono h0.size)
              have B14 := hid ((B13.out.below h0).mono h0.size)
              have C14 := hid ((C13.out.below h0).mono h0.size)
              have D14 := hid ((D13.out.below h0).mono h0.size)
              have K14 := hid (K13.out.below h0)
              have M14 := hid (M13.out.below h0)
              have N14 := hid (N13.out.below h0)
              have P14 := hid (P13.out.below h0)
              have Q14 := hid (Q13.out.below h0)
              clear h0 HC X13 A13 B13 C13 D13 K13 M13 N13 P13 Q13
              obtain ⟨p0, p1, p2, p3⟩ := HBX.out w14 X14.out
              have HC := hid (one_any (L.meF (arrF FA FB) (arrF FC FD)).flat (L.meF (arrF FA FB) (arrF FC FD)).flat _ _ _ N14.out.rd R14.out.rd)
              rw [decide_eq_true (rfl : (L.meF (arrF FA FB) (arrF FC FD)).flat = (L.meF (arrF FA FB) (arrF FC FD)).flat)] at HC
              go_wp2_with fail
              refine (HC.out).mono ?_
              rintro e w15 ⟨rfl, h0⟩
              clear p0 p1 p2 p3
              have X15 := hid (X14.out.trans (h0.mono X14.out.size))
              have A15 := hid ((A14.out.below h0).mono h0.size)
              have B15 := hid ((B14.out.below h0).mono h0.size)
              have C15 := hid ((C14.out.below h0).mono h0.size)
              have D15 := hid ((D14.out.below h0).mono h0.size)
              have K15 := hid (K14.out.below h0)
              have M15 := hid (M14.out.below h0)
              have N15 := hid (N14.out.below h0)
              have P15 := hid (P14.out.below h0)
              have Q15 := hid (Q14.out.below h0)
              have R15 := hid (R14.out.below h0)
              clear h0 HC X14 A14 B14 C14 D14 K14 M14 N14 P14 Q14 R14
              obtain ⟨p0, p1, p2, p3⟩ := HBX.out w15 X15.out
              go_wp2
              go_ret
              exact ⟨rfl, HB1.out.trans (X15.out.mono HB1.out.size)⟩
            | true =>
              have Hbe2 := hid h_be2
              clear h_be2
              have HBB : Hid (L.beF (arrF FA FB) (arrF FC FD) = true) := hid (by rw [arr_be GA.out.root GB.out.root GC.out.root GD.out.root, Hbe1.out, Hbe2.out]; rfl)
              have E1 := fun d os => below_any TX.out TY.out (.slice AX (arrF FA FB).flat.length cX) (.slice AY (arrF FC FD).flat.length cY) (grow (redrawn w11 d) os) ((K11.out.rd.below (below_regrown w11 d os)).mono (below_regrown w11 d os).size) ((M11.out.rd.below (below_regrown w11 d os)).mono (below_regrown w11 d os).size)
              have E2 := fun d os => below_any TA.out TC.out (.slice Aa FA.flat.length ca) (.slice Ac FC.flat.length cc) (grow (redrawn w11 d) os) ((A11.out.below (below_regrown w11 d os)).mono (below_regrown w11 d os).size) ((C11.out.below (below_regrown w11 d os)).mono (below_regrown w11 d os).size)
              rw [HBB.out] at E1
              rw [Hbe1.out] at E2
              have C1 := hid (fun d os => Calls.regrown_of (E1 d os))
              have C2 := hid (fun d os => Calls.regrown_of (E2 d os))
              clear E1 E2
              have E3 := fun d os => below_any TB.out TD.out (.slice Ab FB.flat.length cb) (.slice Ad FD.flat.length cd) (grow (redrawn w11 d) os) ((B11.out.below (below_regrown w11 d os)).mono (below_regrown w11 d os).size) ((D11.out.below (below_regrown w11 d os)).mono (below_regrown w11 d os).size)
              rw [Hbe2.out] at E3
              have C3 := hid (fun d os => Calls.regrown_of (E3 d os))
              clear E3
              have kp0 := cell_regrown p0
              have kp1 := cell_regrown p1
              have kp2 := cell_regrown p2
              have kp3 := cell_regrown p3
              go_wp2_with fail
              refine wp_region_quiet_below (by kernel_rfl) (by kernel_rfl) ?_
              repeat (go_big_quiet_step (fail))
              go_big_quiet_step (exact C1.out _ _)
              repeat (go_big_quiet_step (fail))
              go_big_quiet_step (exact C2.out _ _)
              repeat (go_big_quiet_step (fail))
              go_big_quiet_step (exact C3.out _ _)
              repeat (go_big_quiet_step (fail))
              refine wpQuiet_nil ?_
              intro _ hw'
              obtain ⟨⟨nq, osq⟩, hw''⟩ := hw'
              subst hw''
              have h0 := below_regrown w11 nq osq
              clear C1 C2 kp0 kp1 kp2 kp3 C3
              obtain ⟨w12, hw⟩ : ∃ w12, w12 = grow (redrawn w11 nq) osq := ⟨_, rfl⟩
              rw [← hw] at h0
              rw [← hw]
              have HWQ := hid hw
              clear hw
              have HC := trivial
              clear p0 p1 p2 p3
              have X12 := hid (X11.out.trans (h0.mono X11.out.size))
              have A12 := hid ((A11.out.below h0).mono h0.size)
              have B12 := hid ((B11.out.below h0).mono h0.size)
              have C12 := hid ((C11.out.below h0).mono h0.size)
              have D12 := hid ((D11.out.below h0).mono h0.size)
              have K12 := hid (K11.out.below h0)
              have M12 := hid (M11.out.below h0)
              have N12 := hid (N11.out.below h0)
              have P12 := hid (P11.out.below h0)
              have Q12 := hid (Q11.out.below h0)
              clear h0 HC X11 A11 B11 C11 D11 K11 M11 N11 P11 Q11
              obtain ⟨p0, p1, p2, p3⟩ := HBX.out w12 X12.out
              have HC := hid (alive_any w12)
              go_wp2_with fail
              refine (HC.out).mono ?_
              rintro e w13 ⟨rfl, h0⟩
              clear p0 p1 p2 p3
              have X13 := hid (X12.out.trans (h0.mono X12.out.size))
              have A13 := hid ((A12.out.below h0).mono h0.size)
              have B13 := hid ((B12.out.below h0).mono h0.size)
              have C13 := hid ((C12.out.below h0).mono h0.size)
              have D13 := hid ((D12.out.below h0).mono h0.size)
              have K13 := hid (K12.out.below h0)
              have M13 := hid (M12.out.below h0)
              have N13 := hid (N12.out.below h0)
              have P13 := hid (P12.out.below h0)
              have Q13 := hid (Q12.out.below h0)
              clear h0 HC X12 A12 B12 C12 D12 K12 M12 N12 P12 Q12
              obtain ⟨p0, p1, p2, p3⟩ := HBX.out w13 X13.out
              have HC := hid (refArrow_any (L.meF FA FC).flat (L.meF FB FD).flat _ _ _ P13.out.rd Q13.out.rd (me_ne GA.out GC.out) (me_ne GB.out GD.out) (me_20 GA.out GC.out) (me_20 GB.out GD.out))
              rw [← arr_flat7, ← arr_me GA.out.root GB.out.root GC.out.root GD.out.root] at HC
              go_wp2_with fail
              refine (HC.out).mono ?_
              rintro e w14 ⟨vR, rfl, oR, h0⟩
              obtain ⟨AR, cR, rfl, hcR, hmR, -⟩ := oR.rd
              unfold maxLen at hmR
              have R14 := hid oR
              clear oR
              clear p0 p1 p2 p3
              have X14 := hid (X13.out.trans (h0.mono X13.out.size))
              have A14 := hid ((A13.out.below h0).mono h0.size)
              have B14 := hid ((B13.out.below h0).mono h0.size)
              have C14 := hid ((C13.out.below h0).mono h0.size)
              have D14 := hid ((D13.out.below h0).mono h0.size)
              have K14 := hid (K13.out.below h0)
              have M14 := hid (M13.out.below h0)
              have N14 := hid (N13.out.below h0)
              have P14 := hid (P13.out.below h0)
              have Q14 := hid (Q13.out.below h0)
              clear h0 HC X13 A13 B13 C13 D13 K13 M13 N13 P13 Q13
              obtain ⟨p0, p1, p2, p3⟩ := HBX.out w14 X14.out
              have HC := hid (one_any (L.meF (arrF FA FB) (arrF FC FD)).flat (L.meF (arrF FA FB) (arrF FC FD)).flat _ _ _ N14.out.rd R14.out.rd)
              rw [decide_eq_true (rfl : (L.meF (arrF FA FB) (arrF FC FD)).flat = (L.meF (arrF FA FB) (arrF FC FD)).flat)] at HC
              go_wp2_with fail
              refine (HC.out).mono ?_
              rintro e w15 ⟨rfl, h0⟩
              clear p0 p1 p2 p3
              have X15 := hid (X14.out.trans (h0.mono X14.out.size))
              have A15 := hid ((A14.out.below h0).mono h0.size)
              have B15 := hid ((B14.out.below h0).mono h0.size)
              have C15 := hid ((C14.out.below h0).mono h0.size)
              have D15 := hid ((D14.out.below h0).mono h0.size)
              have K15 := hid (K14.out.below h0)
              have M15 := hid (M14.out.below h0)
              have N15 := hid (N14.out.below h0)
              have P15 := hid (P14.out.below h0)
              have Q15 := hid (Q14.out.below h0)
              have R15 := hid (R14.out.below h0)
              clear h0 HC X14 A14 B14 C14 D14 K14 M14 N14 P14 Q14 R14
              obtain ⟨p0, p1, p2, p3⟩ := HBX.out w15 X15.out
              go_wp2
              go_ret
              exact ⟨rfl, HB1.out.trans (X15.out.mono HB1.out.size)⟩

set_option maxRecDepth 100000 in
theorem precInside_lifted (os : Os) (started : os.Started) (H : Type) (enc : TypeId × Value → H) :
    ReturnsInHanded {} Try.checked os 10 .any (Rows.precInsideSpec.pre6 enc Try.prog Try.f10 Rows.precInsideRow.domain false) (Rows.precInsideSpec.post enc Try.prog Try.f10 false true false false) := by
  refine returnsInHanded_of_change (C := Try.checked) own started (by kernel_rfl) Try.func10
    (ChangeSpec.witness6 (enc := enc) (C := Try.checked) false ⟨#[], #[.agg #[.slice none 0 0, .slice none 0 0], .agg #[.slice none 0 0, .slice none 0 0]], []⟩ 8 (by kernel_rfl) (by kernel_rfl) (by kernel_rfl) (by kernel_rfl)) ?_
  intro W base args ds gs before hval0 hW hcnd _
  have hlts := hW.lt
  have hval : ∀ (j : Nat) t v, Try.f10.params[j]? = some t → args[j]? = some v → Value.okWide Try.prog W .any base t v := hval0
  have hW' := hW
  obtain ⟨p, q, hA0, hV, rfl, hfz, hnd⟩ := hW
  have hA : DataW.TrodAll enc Try.prog W 0 (fun _ => true) true Try.f10.params.toList args.toList ds p := hA0
  rw [Try.params10] at hA hval
  obtain ⟨v0, vs0, d0, ds0, p0, q0, hargs0, rfl, rfl, h0, r0⟩ := trodAll_cons hA
  obtain ⟨v1, vs1, d1, ds1, p1, q1, hargs1, rfl, rfl, h1, r1⟩ := trodAll_cons r0
  obtain ⟨hn, rfl, rfl⟩ := trodAll_nil r1
  obtain rfl : args = #[v0, v1] := by cases args; simp_all
  obtain ⟨rfl, rfl⟩ := trodVars_none hV
  obtain ⟨cs0, hv0⟩ := arr_of7 Try.underlying43 (hval 0 43 v0 rfl rfl)
  obtain ⟨fuel0, hf0⟩ := h0
  have htwo0 := two_of_trod hv0 hf0
  obtain ⟨va0, vb0, la0, lb0, rfl, ra0, rb0⟩ := htwo0
  obtain ⟨cs1, hv1⟩ := arr_of7 Try.underlying43 (hval 1 43 v1 rfl rfl)
  obtain ⟨fuel1, hf1⟩ := h1
  have htwo1 := two_of_trod hv1 hf1
  obtain ⟨va1, vb1, la1, lb1, rfl, ra1, rb1⟩ := htwo1
  clear hA0 hval0
  simp only [List.append_nil] at hW' hlts
  refine (inside_true va0 la0 ra0 vb0 lb0 rb0 va1 la1 ra1 vb1 lb1 rb1 (W := W)).mono fun e W' ⟨he, hB⟩ => ?_
  subst he
  refine ⟨_, rfl, _, _, _, [], (p0 ++ (p1 ++ [])), [], by simpa using hW', ?_, ?_, ?_, hB.frame _, fun h => by cases h⟩
  · exact trodAll_cons_mk (shut_bool Try.underlying4 _) trodAll_mk0
  · exact (trodAll_cons_mk (Below.trod (by kernel_rfl) (by kernel_rfl) (of_decide_eq_true (by kernel_rfl)) ⟨fuel0, hf0⟩ hB (fun x hx => hlts x (by simp [hx]))) (trodAll_cons_mk (Below.trod (by kernel_rfl) (by kernel_rfl) (of_decide_eq_true (by kernel_rfl)) ⟨fuel1, hf1⟩ hB (fun x hx => hlts x (by simp [hx]))) trodAll_mk0))
  · rfl

/-- PrecInside: the given statement. -/
theorem precInside_holds : Rows.PrecInsideSaid :=
  OpenClaim.holds_of_wide 10 Try.f10 rfl rfl rfl rfl rfl rfl rfl ⟨rfl, rfl, rfl, rfl, rfl⟩ rfl rfl rfl rfl rfl (by kernel_rfl) Try.func10 (by kernel_rfl)
    (of_decide_eq_true (by kernel_rfl)) (by unfold Func.isWrapper; first | (rw [if_pos (by decide +kernel)]; kernel_rfl) | (rw [if_neg (by decide +kernel)]; exact ⟨rfl, rfl⟩))
    (fun os started H enc _ => precInside_lifted os started H enc)

end Go.Proofs.Ytpndbgdimkpfjaa.precInside
