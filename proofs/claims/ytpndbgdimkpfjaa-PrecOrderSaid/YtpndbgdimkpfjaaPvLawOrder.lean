/-
  PrecOrder is true for any three types. No conditions.
-/
import Derived.Test.YtpndbgdimkpfjaaRows
import Derived.Test.YtpndbgdimkpfjaaPvLq
import Derived.Test.YtpndbgdimkpfjaaPvZ
import Derived.ProofKit
import Derived.OpenShut
import Derived.Test.YtpndbgdimkpfjaaPvY
import Derived.Deep.RegionHeld3
import Derived.Deep.CutRange
namespace Go.Proofs.Ytpndbgdimkpfjaa.precOrder
open Go.ChangeShapes Go.WideShapes Go.ChangeAt Go.RowKit

theorem own : ownKnob Try.prog.godebug = none := by kernel_rfl

abbrev Post (w : World) (e : Ending) (w' : World) : Prop := e = .returned (.bool true) ∧ Below w.heap.size w w'

set_option maxHeartbeats 4000000 in
set_option maxRecDepth 100000 in
theorem order_true {W : World} (va : Value) (la : List L.Nd) (ha : Rd W W.heap.size va la) (vb : Value) (lb : List L.Nd) (hb : Rd W W.heap.size vb lb) (vc : Value) (lc : List L.Nd) (hc : Rd W W.heap.size vc lc) :
    Calls Try.prog 5 #[va, vb, vc] W (Post W) := by
  have A0 := hid ha
  have B0 := hid hb
  have C0 := hid hc
  have X0 := hid (Below.refl W.heap.size W)
  have HPL := hid (plain3 va vb vc la lb lc W ha hb hc)
  obtain ⟨Aa, ca, rfl, hca, hcm, -⟩ := ha
  obtain ⟨Ab, cb, rfl, hcb, hcm2, -⟩ := hb
  obtain ⟨Ac, cc, rfl, hcc, hcm3, -⟩ := hc
  unfold maxLen at hcm hcm2 hcm3
  cases hg : allG [(Value.slice Aa la.length ca, la), (Value.slice Ab lb.length cb, lb), (Value.slice Ac lc.length cc, lc)] with
  | false =>
    rw [hg] at HPL
    clear hg
    go_enter Try.func5, Try.ntmps5
    go_wp2_with fail
    refine (HPL.out).mono ?_
    rintro e w1 ⟨rfl, h0⟩
    have HC := hid (alive_any w1)
    have X1 := hid h0
    clear h0
    go_wp2_with fail
    refine (HC.out).mono ?_
    rintro e w2 ⟨rfl, h0⟩
    go_wp2
    go_ret
    exact ⟨rfl, X1.out.trans (h0.mono X1.out.size)⟩
  | true =>
    rw [hg] at HPL
    obtain ⟨hga, hgb, hgc⟩ := all3 hg
    obtain ⟨FA, TA, RA, DA, ZA, NA⟩ := good_fo hga
    obtain ⟨FB, TB, RB, DB, ZB, NB⟩ := good_fo hgb
    obtain ⟨FC, TC, RC, DC, ZC, NC⟩ := good_fo hgc
    clear hg hga hgb hgc
    have TA := hid TA
    have TB := hid TB
    have TC := hid TC
    have RA := hid RA
    have RB := hid RB
    have RC := hid RC
    have NA := hid NA
    have NB := hid NB
    have NC := hid NC
    have DA := hid DA
    have DB := hid DB
    have DC := hid DC
    go_enter Try.func5, Try.ntmps5
    go_wp2_with fail
    refine (HPL.out).mono ?_
    rintro e w1 ⟨rfl, h0⟩
    have HC := HPL
    have X1 := hid (X0.out.trans (h0.mono X0.out.size))
    have A1 := hid ((A0.out.below h0).mono h0.size)
    have B1 := hid ((B0.out.below h0).mono h0.size)
    have C1 := hid ((C0.out.below h0).mono h0.size)
    clear h0 HC X0 A0 B0 C0
    clear HPL
    cases h_x0 : decide ((L.hd FA).kind = 0) with
    | false =>
      have Hx0 := hid h_x0
      clear h_x0
      have HAA := hid (L.be_refl FA)
      have HAD := hid (root_be RA.out).1
      have HDA := hid ((root_be RA.out).2.trans Hx0.out)
      obtain ⟨x, ks, hfa, hbx⟩ := RA.out
      obtain ⟨A1, c1, hv, -, -, -, hcx⟩ := A1.out
      have hlp : 0 < la.length := by rw [TA.out.flat]; exact fo_pos TA.out.ne
      obtain ⟨b1, o1, rfl, hb1, hcx⟩ := hcx (by rintro rfl; simp at hlp)
      injection hv with hv1 _ hv2
      subst hv1 hv2
      have k0 := (hcx 0 hlp).1
      rw [Nat.zero_mul, Nat.add_zero] at k0
      have hk0 : decide (la[0].kind = 0) = false := by
        have h := Hx0.out
        rwa [root_head TA.out] at h
      have hsz : w1.heap.size ≤ w1.heap.size := Nat.le_refl _
      have HS := hid (fun (W' : World) (h : Below w1.heap.size w1 W') => (h.cell (p := ⟨b1, o1, none⟩) hb1).trans k0)
      generalize la[0] = Y at *
      obtain ⟨xk, xs, xn⟩ := Y
      simp only at hk0
      have hkk : (xk == 0) = false := by simpa using hk0
      have C1 := hid (fun (W' : World) (h : Below w1.heap.size w1 W') => below_any TA.out TA.out (.slice (some ⟨b1, o1, none⟩) la.length ca) (.slice (some ⟨b1, o1, none⟩) la.length ca) W' ((A1.out.below h).mono h.size) ((A1.out.below h).mono h.size))
      have C2 := hid (fun (W' : World) (h : Below w1.heap.size w1 W') => below_any TA.out ty_d (.slice (some ⟨b1, o1, none⟩) la.length ca) (.slice (some ⟨W'.heap.size, 0, none⟩) 1 1) (W'.alloc (.cells #[.int .i64 0, .string ⟨#[]⟩, .int .i64 0] 39)) ((((A1.out.below h).mono h.size).alloc (.cells #[.int .i64 0, .string ⟨#[]⟩, .int .i64 0] 39)).mono (by simp)) (lit1 W' 0 (Nat.zero_le _)).rd)
      have C3 := hid (fun (W' : World) (h : Below w1.heap.size w1 W') => below_any ty_d TA.out (.slice (some ⟨W'.heap.size, 0, none⟩) 1 1) (.slice (some ⟨b1, o1, none⟩) la.length ca) (W'.alloc (.cells #[.int .i64 0, .string ⟨#[]⟩, .int .i64 0] 39)) (lit1 W' 0 (Nat.zero_le _)).rd ((((A1.out.below h).mono h.size).alloc (.cells #[.int .i64 0, .string ⟨#[]⟩, .int .i64 0] 39)).mono (by simp)))
      rw [HAA.out] at C1
      rw [HAD.out] at C2
      rw [HDA.out] at C3
      clear k0 hcx hk0 hfa
      have HD0 := hid (below_drewN (Below.refl w1.heap.size w1) 1)
      go_upto_region 3 with fail
      go_cut [37] from 15 to 45 (fun s37 wx => s37 = .bool false ∧ Below w1.heap.size w1 wx)
      case first =>
        go_region_held3 (fun w' => w'.cell? ⟨b1, o1, none⟩ = some (.int .i64 xk)) (first | exact HS.out _ HQ3.out | exact HS.out _ HQ2.out | exact HS.out _ (HQ2.out.trans ((below_new _).mono HQ2.out.size)) | exact HS.out _ HQ1.out | exact HS.out _ (HQ1.out.trans ((below_new _).mono HQ1.out.size)) | exact HS.out _ HD0.out | exact HS.out _ (Below.refl _ _)) (first
          | (have hq := HQ2.out; go_at_call 17; refine (C3.out _ hq).mono ?_; rintro e wq3 ⟨rfl, hq3⟩; have HQ3 := hid (HQ2.out.trans (((below_new (.cells #[.int .i64 0, .string ⟨#[]⟩, .int .i64 0] 39)).trans (hq3.mono (by simp))).mono HQ2.out.size)); clear hq hq3 HQ2)
          | (have hq := HQ1.out; go_at_call 17; refine (C2.out _ hq).mono ?_; rintro e wq2 ⟨rfl, hq2⟩; have HQ2 := hid (HQ1.out.trans (((below_new (.cells #[.int .i64 0, .string ⟨#[]⟩, .int .i64 0] 39)).trans (hq2.mono (by simp))).mono HQ1.out.size)); clear hq hq2 HQ1)
          | (have hq := HD0.out; go_at_call 17; refine (C1.out _ hq).mono ?_; rintro e wq1 ⟨rfl, hq1⟩; have HQ1 := hid (HD0.out.trans (hq1.mono HD0.out.size)); clear hq hq1 HD0))
        all_goals go_wp2_with fail
        all_goals go_meet
        all_goals exact ⟨rfl, HQ3.out⟩
      case rest =>
        obtain ⟨w2, hw⟩ : ∃ w2, w2 = wc := ⟨_, rfl⟩
        subst hw
        obtain ⟨rfl, h0⟩ := hcut
        have HC := trivial
        clear C1 C2 C3 HS HD0 hsz hb1 hbx hkk
        have X2 := hid (X1.out.trans (h0.mono X1.out.size))
        have A2 := hid ((A1.out.below h0).mono h0.size)
        have B2 := hid ((B1.out.below h0).mono h0.size)
        have C2 := hid ((C1.out.below h0).mono h0.size)
        clear h0 HC X1 A1 B1 C1
        cases h_ab : L.beF FA FB with
        | false =>
          have Hab := hid h_ab
          clear h_ab
          have HC := hid (below_any TA.out TB.out _ _ _ A2.out B2.out)
          rw [Hab.out] at HC
          go_wp2_with fail
          refine (HC.out).mono ?_
          rintro e w3 ⟨rfl, h0⟩
          have X3 := hid (X2.out.trans (h0.mono X2.out.size))
          have A3 := hid ((A2.out.below h0).mono h0.size)
          have B3 := hid ((B2.out.below h0).mono h0.size)
          have C3 := hid ((C2.out.below h0).mono h0.size)
          clear h0 HC X2 A2 B2 C2
          have HC := hid (alive_any w3)
          go_wp2_with fail
          refine (HC.out).mono ?_
          rintro e w4 ⟨rfl, h0⟩
          have X4 := hid (X3.out.trans (h0.mono X3.out.size))
          have A4 := hid ((A3.out.below h0).mono h0.size)
          have B4 := hid ((B3.out.below h0).mono h0.size)
          have C4 := hid ((C3.out.below h0).mono h0.size)
          clear h0 HC X3 A3 B3 C3
          have HSM : Hid (L.sameL la lb = false) := hid (by
            have h := L.be_same TA.out.ok TB.out.ok TA.out.plain TB.out.plain (by rw [L.root_count RA.out, L.root_count RB.out])
            rw [← TA.out.flat, ← TB.out.flat] at h
            rw [← h, Hab.out]
            rfl)
          have HC := hid (refSame_any la lb _ _ _ A4.out B4.out)
          rw [HSM.out] at HC
          go_wp2_with fail
          refine (HC.out).mono ?_
          rintro e w5 ⟨rfl, h0⟩
          have X5 := hid (X4.out.trans (h0.mono X4.out.size))
          have A5 := hid ((A4.out.below h0).mono h0.size)
          have B5 := hid ((B4.out.below h0).mono h0.size)
          have C5 := hid ((C4.out.below h0).mono h0.size)
          clear h0 HC X4 A4 B4 C4
          have HC := hid (below_any TA.out TB.out _ _ _ A5.out B5.out)
          rw [Hab.out] at HC
          go_wp2_with fail
          refine (HC.out).mono ?_
          rintro e w6 ⟨rfl, h0⟩
          have X6 := hid (X5.out.trans (h0.mono X5.out.size))
          have A6 := hid ((A5.out.below h0).mono h0.size)
          have B6 := hid ((B5.out.below h0).mono h0.size)
          have C6 := hid ((C5.out.below h0).mono h0.size)
          clear h0 HC X5 A5 B5 C5
          go_wp2
          go_ret
          exact ⟨rfl, X6.out⟩
        | true =>
          have Hab := hid h_ab
          clear h_ab
          have HC := hid (below_any TA.out TB.out _ _ _ A2.out B2.out)
          rw [Hab.out] at HC
          go_wp2_with fail
          refine (HC.out).mono ?_
          rintro e w3 ⟨rfl, h0⟩
          have X3 := hid (X2.out.trans (h0.mono X2.out.size))
          have A3 := hid ((A2.out.below h0).mono h0.size)
          have B3 := hid ((B2.out.below h0).mono h0.size)
          have C3 := hid ((C2.out.below h0).mono h0.size)
          clear h0 HC X2 A2 B2 C2
          cases h_ba : L.beF FB FA with
          | false =>
            have Hba := hid h_ba
            clear h_ba
            have HC := hid (below_any TB.out TA.out _ _ _ B3.out A3.out)
            rw [Hba.out] at HC
            go_wp2_with fail
            refine (HC.out).mono ?_
            rintro e w4 ⟨rfl, h0⟩
            have X4 := hid (X3.out.trans (h0.mono X3.out.size))
            have A4 := hid ((A3.out.below h0).mono h0.size)
            have B4 := hid ((B3.out.below h0).mono h0.size)
            have C4 := hid ((C3.out.below h0).mono h0.size)
            clear h0 HC X3 A3 B3 C3
            have HC := hid (alive_any w4)
            go_wp2_with fail
            refine (HC.out).mono ?_
            rintro e w5 ⟨rfl, h0⟩
            have X5 := hid (X4.out.trans (h0.mono X4.out.size))
            have A5 := hid ((A4.out.below h0).mono h0.size)
            have B5 := hid ((B4.out.below h0).mono h0.size)
            have C5 := hid ((C4.out.below h0).mono h0.size)
            clear h0 HC X4 A4 B4 C4
            have HSM : Hid (L.sameL la lb = false) := hid (by
              have h := L.be_same TA.out.ok TB.out.ok TA.out.plain TB.out.plain (by rw [L.root_count RA.out, L.root_count RB.out])
              rw [← TA.out.flat, ← TB.out.flat] at h
              rw [← h, Hab.out, Hba.out]
              rfl)
            have HC := hid (refSame_any la lb _ _ _ A5.out B5.out)
            rw [HSM.out] at HC
            go_wp2_with fail
            refine (HC.out).mono ?_
            rintro e w6 ⟨rfl, h0⟩
            have X6 := hid (X5.out.trans (h0.mono X5.out.size))
            have A6 := hid ((A5.out.below h0).mono h0.size)
            have B6 := hid ((B5.out.below h0).mono h0.size)
            have C6 := hid ((C5.out.below h0).mono h0.size)
            clear h0 HC X5 A5 B5 C5
            have HC := hid (below_any TA.out TB.out _ _ _ A6.out B6.out)
            rw [Hab.out] at HC
            go_wp2_with fail
            refine (HC.out).mono ?_
            rintro e w7 ⟨rfl, h0⟩
            have X7 := hid (X6.out.trans (h0.mono X6.out.size))
            have A7 := hid ((A6.out.below h0).mono h0.size)
            have B7 := hid ((B6.out.below h0).mono h0.size)
            have C7 := hid ((C6.out.below h0).mono h0.size)
            clear h0 HC X6 A6 B6 C6
            cases h_bc : L.beF FB FC with
            | false =>
              have Hbc := hid h_bc
              clear h_bc
              have HC := hid (below_any TB.out TC.out _ _ _ B7.out C7.out)
              rw [Hbc.out] at HC
              go_wp2_with fail
              refine (HC.out).mono ?_
              rintro e w8 ⟨rfl, h0⟩
              have X8 := hid (X7.out.trans (h0.mono X7.out.size))
              have A8 := hid ((A7.out.below h0).mono h0.size)
              have B8 := hid ((B7.out.below h0).mono h0.size)
              have C8 := hid ((C7.out.below h0).mono h0.size)
              clear h0 HC X7 A7 B7 C7
              go_wp2
              go_ret
              exact ⟨rfl, X8.out⟩
            | true =>
              have Hbc := hid h_bc
              clear h_bc
              have HC := hid (below_any TB.out TC.out _ _ _ B7.out C7.out)
              rw [Hbc.out] at HC
              go_wp2_with fail
              refine (HC.out).mono ?_
              rintro e w8 ⟨rfl, h0⟩
              have X8 := hid (X7.out.trans (h0.mono X7.out.size))
              have A8 := hid ((A7.out.below h0).mono h0.size)
              have B8 := hid ((B7.out.below h0).mono h0.size)
              have C8 := hid ((C7.out.below h0).mono h0.size)
              clear h0 HC X7 A7 B7 C7
              have HC := hid (below_any TA.out TC.out _ _ _ A8.out C8.out)
              rw [L.be_trans Hab.out Hbc.out] at HC
              go_wp2_with fail
              refine (HC.out).mono ?_
              rintro e w9 ⟨rfl, h0⟩
              have X9 := hid (X8.out.trans (h0.mono X8.out.size))
              have A9 := hid ((A8.out.below h0).mono h0.size)
              have B9 := hid ((B8.out.below h0).mono h0.size)
              have C9 := hid ((C8.out.below h0).mono h0.size)
              clear h0 HC X8 A8 B8 C8
              go_wp2
              go_ret
              exact ⟨rfl, X9.out⟩
          | true =>
            have Hba := hid h_ba
            clear h_ba
            have HC := hid (below_any TB.out TA.out _ _ _ B3.out A3.out)
            rw [Hba.out] at HC
            go_wp2_with fail
            refine (HC.out).mono ?_
            rintro e w4 ⟨rfl, h0⟩
            have X4 := hid (X3.out.trans (h0.mono X3.out.size))
            have A4 := hid ((A3.out.below h0).mono h0.size)
            have B4 := hid ((B3.out.below h0).mono h0.size)
            have C4 := hid ((C3.out.below h0).mono h0.size)
            clear h0 HC X3 A3 B3 C3
            have HC := hid (alive_any w4)
            go_wp2_with fail
            refine (HC.out).mono ?_
            rintro e w5 ⟨rfl, h0⟩
            have X5 := hid (X4.out.trans (h0.mono X4.out.size))
            have A5 := hid ((A4.out.below h0).mono h0.size)
            have B5 := hid ((B4.out.below h0).mono h0.size)
            have C5 := hid ((C4.out.below h0).mono h0.size)
            clear h0 HC X4 A4 B4 C4
            have HSM : Hid (L.sameL la lb = true) := hid (by
              have h := L.be_same TA.out.ok TB.out.ok TA.out.plain TB.out.plain (by rw [L.root_count RA.out, L.root_count RB.out])
              rw [← TA.out.flat, ← TB.out.flat] at h
              rw [← h, Hab.out, Hba.out]
              rfl)
            have HC := hid (refSame_any la lb _ _ _ A5.out B5.out)
            rw [HSM.out] at HC
            go_wp2_with fail
            refine (HC.out).mono ?_
            rintro e w6 ⟨rfl, h0⟩
            have X6 := hid (X5.out.trans (h0.mono X5.out.size))
            have A6 := hid ((A5.out.below h0).mono h0.size)
            have B6 := hid ((B5.out.below h0).mono h0.size)
            have C6 := hid ((C5.out.below h0).mono h0.size)
            clear h0 HC X5 A5 B5 C5
            have HC := hid (below_any TA.out TB.out _ _ _ A6.out B6.out)
            rw [Hab.out] at HC
            go_wp2_with fail
            refine (HC.out).mono ?_
            rintro e w7 ⟨rfl, h0⟩
            have X7 := hid (X6.out.trans (h0.mono X6.out.size))
            have A7 := hid ((A6.out.below h0).mono h0.size)
            have B7 := hid ((B6.out.below h0).mono h0.size)
            have C7 := hid ((C6.out.below h0).mono h0.size)
            clear h0 HC X6 A6 B6 C6
            cases h_bc : L.beF FB FC with
            | false =>
              have Hbc := hid h_bc
              clear h_bc
              have HC := hid (below_any TB.out TC.out _ _ _ B7.out C7.out)
              rw [Hbc.out] at HC
              go_wp2_with fail
              refine (HC.out).mono ?_
              rintro e w8 ⟨rfl, h0⟩
              have X8 := hid (X7.out.trans (h0.mono X7.out.size))
              have A8 := hid ((A7.out.below h0).mono h0.size)
              have B8 := hid ((B7.out.below h0).mono h0.size)
              have C8 := hid ((C7.out.below h0).mono h0.size)
              clear h0 HC X7 A7 B7 C7
              go_wp2
              go_ret
              exact ⟨rfl, X8.out⟩
            | true =>
              have Hbc := hid h_bc
              clear h_bc
              have HC := hid (below_any TB.out TC.out _ _ _ B7.out C7.out)
              rw [Hbc.out] at HC
              go_wp2_with fail
              refine (HC.out).mono ?_
              rintro e w8 ⟨rfl, h0⟩
              have X8 := hid (X7.out.trans (h0.mono X7.out.size))
              have A8 := hid ((A7.out.below h0).mono h0.size)
              have B8 := hid ((B7.out.below h0).mono h0.size)
              have C8 := hid ((C7.out.below h0).mono h0.size)
              clear h0 HC X7 A7 B7 C7
              have HC := hid (below_any TA.out TC.out _ _ _ A8.out C8.out)
              rw [L.be_trans Hab.out Hbc.out] at HC
              go_wp2_with fail
              refine (HC.out).mono ?_
              rintro e w9 ⟨rfl, h0⟩
              have X9 := hid (X8.out.trans (h0.mono X8.out.size))
              have A9 := hid ((A8.out.below h0).mono h0.size)
              have B9 := hid ((B8.out.below h0).mono h0.size)
              have C9 := hid ((C8.out.below h0).mono h0.size)
              clear h0 HC X8 A8 B8 C8
              go_wp2
              go_ret
              exact ⟨rfl, X9.out⟩
    | true =>
      have Hx0 := hid h_x0
      clear h_x0
      have HAA := hid (L.be_refl FA)
      have HAD := hid (root_be RA.out).1
      have HDA := hid ((root_be RA.out).2.trans Hx0.out)
      obtain ⟨x, ks, hfa, hbx⟩ := RA.out
      obtain ⟨A1, c1, hv, -, -, -, hcx⟩ := A1.out
      have hlp : 0 < la.length := by rw [TA.out.flat]; exact fo_pos TA.out.ne
      obtain ⟨b1, o1, rfl, hb1, hcx⟩ := hcx (by rintro rfl; simp at hlp)
      injection hv with hv1 _ hv2
      subst hv1 hv2
      have k0 := (hcx 0 hlp).1
      rw [Nat.zero_mul, Nat.add_zero] at k0
      have hk0 : decide (la[0].kind = 0) = true := by
        have h := Hx0.out
        rwa [root_head TA.out] at h
      have hsz : w1.heap.size ≤ w1.heap.size := Nat.le_refl _
      have HS := hid (fun (W' : World) (h : Below w1.heap.size w1 W') => (h.cell (p := ⟨b1, o1, none⟩) hb1).trans k0)
      generalize la[0] = Y at *
      obtain ⟨xk, xs, xn⟩ := Y
      simp only at hk0
      have hkk : (xk == 0) = true := by simpa using hk0
      have C1 := hid (fun (W' : World) (h : Below w1.heap.size w1 W') => below_any TA.out TA.out (.slice (some ⟨b1, o1, none⟩) la.length ca) (.slice (some ⟨b1, o1, none⟩) la.length ca) W' ((A1.out.below h).mono h.size) ((A1.out.below h).mono h.size))
      have C2 := hid (fun (W' : World) (h : Below w1.heap.size w1 W') => below_any TA.out ty_d (.slice (some ⟨b1, o1, none⟩) la.length ca) (.slice (some ⟨W'.heap.size, 0, none⟩) 1 1) (W'.alloc (.cells #[.int .i64 0, .string ⟨#[]⟩, .int .i64 0] 39)) ((((A1.out.below h).mono h.size).alloc (.cells #[.int .i64 0, .string ⟨#[]⟩, .int .i64 0] 39)).mono (by simp)) (lit1 W' 0 (Nat.zero_le _)).rd)
      have C3 := hid (fun (W' : World) (h : Below w1.heap.size w1 W') => below_any ty_d TA.out (.slice (some ⟨W'.heap.size, 0, none⟩) 1 1) (.slice (some ⟨b1, o1, none⟩) la.length ca) (W'.alloc (.cells #[.int .i64 0, .string ⟨#[]⟩, .int .i64 0] 39)) (lit1 W' 0 (Nat.zero_le _)).rd ((((A1.out.below h).mono h.size).alloc (.cells #[.int .i64 0, .string ⟨#[]⟩, .int .i64 0] 39)).mono (by simp)))
      rw [HAA.out] at C1
      rw [HAD.out] at C2
      rw [HDA.out] at C3
      clear k0 hcx hk0 hfa
      have HD0 := hid (below_drewN (Below.refl w1.heap.size w1) 1)
      go_upto_region 3 with fail
      go_cut [37] from 15 to 45 (fun s37 wx => s37 = .bool false ∧ Below w1.heap.size w1 wx)
      case first =>
        go_region_held3 (fun w' => w'.cell? ⟨b1, o1, none⟩ = some (.int .i64 xk)) (first | exact HS.out _ HQ3.out | exact HS.out _ HQ2.out | exact HS.out _ (HQ2.out.trans ((below_new _).mono HQ2.out.size)) | exact HS.out _ HQ1.out | exact HS.out _ (HQ1.out.trans ((below_new _).mono HQ1.out.size)) | exact HS.out _ HD0.out | exact HS.out _ (Below.refl _ _)) (first
          | (have hq := HQ2.out; go_at_call 17; refine (C3.out _ hq).mono ?_; rintro e wq3 ⟨rfl, hq3⟩; have HQ3 := hid (HQ2.out.trans (((below_new (.cells #[.int .i64 0, .string ⟨#[]⟩, .int .i64 0] 39)).trans (hq3.mono (by simp))).mono HQ2.out.size)); clear hq hq3 HQ2)
          | (have hq := HQ1.out; go_at_call 17; refine (C2.out _ hq).mono ?_; rintro e wq2 ⟨rfl, hq2⟩; have HQ2 := hid (HQ1.out.trans (((below_new (.cells #[.int .i64 0, .string ⟨#[]⟩, .int .i64 0] 39)).trans (hq2.mono (by simp))).mono HQ1.out.size)); clear hq hq2 HQ1)
          | (have hq := HD0.out; go_at_call 17; refine (C1.out _ hq).mono ?_; rintro e wq1 ⟨rfl, hq1⟩; have HQ1 := hid (HD0.out.trans (hq1.mono HD0.out.size)); clear hq hq1 HD0))
        all_goals go_wp2_with fail
        all_goals go_meet
        all_goals exact ⟨rfl, HQ3.out⟩
      case rest =>
        obtain ⟨w2, hw⟩ : ∃ w2, w2 = wc := ⟨_, rfl⟩
        subst hw
        obtain ⟨rfl, h0⟩ := hcut
        have HC := trivial
        clear C1 C2 C3 HS HD0 hsz hb1 hbx hkk
        have X2 := hid (X1.out.trans (h0.mono X1.out.size))
        have A2 := hid ((A1.out.below h0).mono h0.size)
        have B2 := hid ((B1.out.below h0).mono h0.size)
        have C2 := hid ((C1.out.below h0).mono h0.size)
        clear h0 HC X1 A1 B1 C1
        cases h_ab : L.beF FA FB with
        | false =>
          have Hab := hid h_ab
          clear h_ab
          have HC := hid (below_any TA.out TB.out _ _ _ A2.out B2.out)
          rw [Hab.out] at HC
          go_wp2_with fail
          refine (HC.out).mono ?_
          rintro e w3 ⟨rfl, h0⟩
          have X3 := hid (X2.out.trans (h0.mono X2.out.size))
          have A3 := hid ((A2.out.below h0).mono h0.size)
          have B3 := hid ((B2.out.below h0).mono h0.size)
          have C3 := hid ((C2.out.below h0).mono h0.size)
          clear h0 HC X2 A2 B2 C2
          have HC := hid (alive_any w3)
          go_wp2_with fail
          refine (HC.out).mono ?_
          rintro e w4 ⟨rfl, h0⟩
          have X4 := hid (X3.out.trans (h0.mono X3.out.size))
          have A4 := hid ((A3.out.below h0).mono h0.size)
          have B4 := hid ((B3.out.below h0).mono h0.size)
          have C4 := hid ((C3.out.below h0).mono h0.size)
          clear h0 HC X3 A3 B3 C3
          have HSM : Hid (L.sameL la lb = false) := hid (by
            have h := L.be_same TA.out.ok TB.out.ok TA.out.plain TB.out.plain (by rw [L.root_count RA.out, L.root_count RB.out])
            rw [← TA.out.flat, ← TB.out.flat] at h
            rw [← h, Hab.out]
            rfl)
          have HC := hid (refSame_any la lb _ _ _ A4.out B4.out)
          rw [HSM.out] at HC
          go_wp2_with fail
          refine (HC.out).mono ?_
          rintro e w5 ⟨rfl, h0⟩
          have X5 := hid (X4.out.trans (h0.mono X4.out.size))
          have A5 := hid ((A4.out.below h0).mono h0.size)
          have B5 := hid ((B4.out.below h0).mono h0.size)
          have C5 := hid ((C4.out.below h0).mono h0.size)
          clear h0 HC X4 A4 B4 C4
          have HC := hid (below_any TA.out TB.out _ _ _ A5.out B5.out)
          rw [Hab.out] at HC
          go_wp2_with fail
          refine (HC.out).mono ?_
          rintro e w6 ⟨rfl, h0⟩
          have X6 := hid (X5.out.trans (h0.mono X5.out.size))
          have A6 := hid ((A5.out.below h0).mono h0.size)
          have B6 := hid ((B5.out.below h0).mono h0.size)
          have C6 := hid ((C5.out.below h0).mono h0.size)
          clear h0 HC X5 A5 B5 C5
          go_wp2
          go_ret
          exact ⟨rfl, X6.out⟩
        | true =>
          have Hab := hid h_ab
          clear h_ab
          have HC := hid (below_any TA.out TB.out _ _ _ A2.out B2.out)
          rw [Hab.out] at HC
          go_wp2_with fail
          refine (HC.out).mono ?_
          rintro e w3 ⟨rfl, h0⟩
          have X3 := hid (X2.out.trans (h0.mono X2.out.size))
          have A3 := hid ((A2.out.below h0).mono h0.size)
          have B3 := hid ((B2.out.below h0).mono h0.size)
          have C3 := hid ((C2.out.below h0).mono h0.size)
          clear h0 HC X2 A2 B2 C2
          cases h_ba : L.beF FB FA with
          | false =>
            have Hba := hid h_ba
            clear h_ba
            have HC := hid (below_any TB.out TA.out _ _ _ B3.out A3.out)
            rw [Hba.out] at HC
            go_wp2_with fail
            refine (HC.out).mono ?_
            rintro e w4 ⟨rfl, h0⟩
            have X4 := hid (X3.out.trans (h0.mono X3.out.size))
            have A4 := hid ((A3.out.below h0).mono h0.size)
            have B4 := hid ((B3.out.below h0).mono h0.size)
            have C4 := hid ((C3.out.below h0).mono h0.size)
            clear h0 HC X3 A3 B3 C3
            have HC := hid (alive_any w4)
            go_wp2_with fail
            refine (HC.out).mono ?_
            rintro e w5 ⟨rfl, h0⟩
            have X5 := hid (X4.out.trans (h0.mono X4.out.size))
            have A5 := hid ((A4.out.below h0).mono h0.size)
            have B5 := hid ((B4.out.below h0).mono h0.size)
            have C5 := hid ((C4.out.below h0).mono h0.size)
            clear h0 HC X4 A4 B4 C4
            have HSM : Hid (L.sameL la lb = false) := hid (by
              have h := L.be_same TA.out.ok TB.out.ok TA.out.plain TB.out.plain (by rw [L.root_count RA.out, L.root_count RB.out])
              rw [← TA.out.flat, ← TB.out.flat] at h
              rw [← h, Hab.out, Hba.out]
              rfl)
            have HC := hid (refSame_any la lb _ _ _ A5.out B5.out)
            rw [HSM.out] at HC
            go_wp2_with fail
            refine (HC.out).mono ?_
            rintro e w6 ⟨rfl, h0⟩
            have X6 := hid (X5.out.trans (h0.mono X5.out.size))
            have A6 := hid ((A5.out.below h0).mono h0.size)
            have B6 := hid ((B5.out.below h0).mono h0.size)
            have C6 := hid ((C5.out.below h0).mono h0.size)
            clear h0 HC X5 A5 B5 C5
            have HC := hid (below_any TA.out TB.out _ _ _ A6.out B6.out)
            rw [Hab.out] at HC
            go_wp2_with fail
            refine (HC.out).mono ?_
            rintro e w7 ⟨rfl, h0⟩
            have X7 := hid (X6.out.trans (h0.mono X6.out.size))
            have A7 := hid ((A6.out.below h0).mono h0.size)
            have B7 := hid ((B6.out.below h0).mono h0.size)
            have C7 := hid ((C6.out.below h0).mono h0.size)
            clear h0 HC X6 A6 B6 C6
            cases h_bc : L.beF FB FC with
            | false =>
              have Hbc := hid h_bc
              clear h_bc
              have HC := hid (below_any TB.out TC.out _ _ _ B7.out C7.out)
              rw [Hbc.out] at HC
              go_wp2_with fail
              refine (HC.out).mono ?_
              rintro e w8 ⟨rfl, h0⟩
              have X8 := hid (X7.out.trans (h0.mono X7.out.size))
              have A8 := hid ((A7.out.below h0).mono h0.size)
              have B8 := hid ((B7.out.below h0).mono h0.size)
              have C8 := hid ((C7.out.below h0).mono h0.size)
              clear h0 HC X7 A7 B7 C7
              go_wp2
              go_ret
              exact ⟨rfl, X8.out⟩
            | true =>
              have Hbc := hid h_bc
              clear h_bc
              have HC := hid (below_any TB.out TC.out _ _ _ B7.out C7.out)
              rw [Hbc.out] at HC
              go_wp2_with fail
              refine (HC.out).mono ?_
              rintro e w8 ⟨rfl, h0⟩
              have X8 := hid (X7.out.trans (h0.mono X7.out.size))
              have A8 := hid ((A7.out.below h0).mono h0.size)
              have B8 := hid ((B7.out.below h0).mono h0.size)
              have C8 := hid ((C7.out.below h0).mono h0.size)
              clear h0 HC X7 A7 B7 C7
              have HC := hid (below_any TA.out TC.out _ _ _ A8.out C8.out)
              rw [L.be_trans Hab.out Hbc.out] at HC
              go_wp2_with fail
              refine (HC.out).mono ?_
              rintro e w9 ⟨rfl, h0⟩
              have X9 := hid (X8.out.trans (h0.mono X8.out.size))
              have A9 := hid ((A8.out.below h0).mono h0.size)
              have B9 := hid ((B8.out.below h0).mono h0.size)
              have C9 := hid ((C8.out.below h0).mono h0.size)
              clear h0 HC X8 A8 B8 C8
              go_wp2
              go_ret
              exact ⟨rfl, X9.out⟩
          | true =>
            have Hba := hid h_ba
            clear h_ba
            have HC := hid (below_any TB.out TA.out _ _ _ B3.out A3.out)
            rw [Hba.out] at HC
            go_wp2_with fail
            refine (HC.out).mono ?_
            rintro e w4 ⟨rfl, h0⟩
            have X4 := hid (X3.out.trans (h0.mono X3.out.size))
            have A4 := hid ((A3.out.below h0).mono h0.size)
            have B4 := hid ((B3.out.below h0).mono h0.size)
            have C4 := hid ((C3.out.below h0).mono h0.size)
            clear h0 HC X3 A3 B3 C3
            have HC := hid (alive_any w4)
            go_wp2_with fail
            refine (HC.out).mono ?_
            rintro e w5 ⟨rfl, h0⟩
            have X5 := hid (X4.out.trans (h0.mono X4.out.size))
            have A5 := hid ((A4.out.below h0).mono h0.size)
            have B5 := hid ((B4.out.below h0).mono h0.size)
            have C5 := hid ((C4.out.below h0).mono h0.size)
            clear h0 HC X4 A4 B4 C4
            have HSM : Hid (L.sameL la lb = true) := hid (by
              have h := L.be_same TA.out.ok TB.out.ok TA.out.plain TB.out.plain (by rw [L.root_count RA.out, L.root_count RB.out])
              rw [← TA.out.flat, ← TB.out.flat] at h
              rw [← h, Hab.out, Hba.out]
              rfl)
            have HC := hid (refSame_any la lb _ _ _ A5.out B5.out)
            rw [HSM.out] at HC
            go_wp2_with fail
            refine (HC.out).mono ?_
            rintro e w6 ⟨rfl, h0⟩
            have X6 := hid (X5.out.trans (h0.mono X5.out.size))
            have A6 := hid ((A5.out.below h0).mono h0.size)
            have B6 := hid ((B5.out.below h0).mono h0.size)
            have C6 := hid ((C5.out.below h0).mono h0.size)
            clear h0 HC X5 A5 B5 C5
            have HC := hid (below_any TA.out TB.out _ _ _ A6.out B6.out)
            rw [Hab.out] at HC
            go_wp2_with fail
            refine (HC.out).mono ?_
            rintro e w7 ⟨rfl, h0⟩
            have X7 := hid (X6.out.trans (h0.mono X6.out.size))
            have A7 := hid ((A6.out.below h0).mono h0.size)
            have B7 := hid ((B6.out.below h0).mono h0.size)
            have C7 := hid ((C6.out.below h0).mono h0.size)
            clear h0 HC X6 A6 B6 C6
            cases h_bc : L.beF FB FC with
            | false =>
              have Hbc := hid h_bc
              clear h_bc
              have HC := hid (below_any TB.out TC.out _ _ _ B7.out C7.out)
              rw [Hbc.out] at HC
              go_wp2_with fail
              refine (HC.out).mono ?_
              rintro e w8 ⟨rfl, h0⟩
              have X8 := hid (X7.out.trans (h0.mono X7.out.size))
              have A8 := hid ((A7.out.below h0).mono h0.size)
              have B8 := hid ((B7.out.below h0).mono h0.size)
              have C8 := hid ((C7.out.below h0).mono h0.size)
              clear h0 HC X7 A7 B7 C7
              go_wp2
              go_ret
              exact ⟨rfl, X8.out⟩
            | true =>
              have Hbc := hid h_bc
              clear h_bc
              have HC := hid (below_any TB.out TC.out _ _ _ B7.out C7.out)
              rw [Hbc.out] at HC
              go_wp2_with fail
              refine (HC.out).mono ?_
              rintro e w8 ⟨rfl, h0⟩
              have X8 := hid (X7.out.trans (h0.mono X7.out.size))
              have A8 := hid ((A7.out.below h0).mono h0.size)
              have B8 := hid ((B7.out.below h0).mono h0.size)
              have C8 := hid ((C7.out.below h0).mono h0.size)
              clear h0 HC X7 A7 B7 C7
              have HC := hid (below_any TA.out TC.out _ _ _ A8.out C8.out)
              rw [L.be_trans Hab.out Hbc.out] at HC
              go_wp2_with fail
              refine (HC.out).mono ?_
              rintro e w9 ⟨rfl, h0⟩
              have X9 := hid (X8.out.trans (h0.mono X8.out.size))
              have A9 := hid ((A8.out.below h0).mono h0.size)
              have B9 := hid ((B8.out.below h0).mono h0.size)
              have C9 := hid ((C8.out.below h0).mono h0.size)
              clear h0 HC X8 A8 B8 C8
              go_wp2
              go_ret
              exact ⟨rfl, X9.out⟩

set_option maxRecDepth 100000 in
theorem precOrder_lifted (os : Os) (started : os.Started) (H : Type) (enc : TypeId × Value → H) :
    ReturnsInHanded {} Try.checked os 5 .any (Rows.precOrderSpec.pre6 enc Try.prog Try.f5 Rows.precOrderRow.domain false) (Rows.precOrderSpec.post enc Try.prog Try.f5 false true false false) := by
  refine returnsInHanded_of_change (C := Try.checked) own started (by kernel_rfl) Try.func5
    (ChangeSpec.witness6 (enc := enc) (C := Try.checked) false ⟨#[], #[.slice none 0 0, .slice none 0 0, .slice none 0 0], []⟩ 8 (by kernel_rfl) (by kernel_rfl) (by kernel_rfl) (by kernel_rfl)) ?_
  intro W base args ds gs before hval0 hW hcnd _
  have hlts := hW.lt
  have hval : ∀ (j : Nat) t v, Try.f5.params[j]? = some t → args[j]? = some v → Value.okWide Try.prog W .any base t v := hval0
  have hW' := hW
  obtain ⟨p, q, hA0, hV, rfl, hfz, hnd⟩ := hW
  have hA : DataW.TrodAll enc Try.prog W 0 (fun _ => true) true Try.f5.params.toList args.toList ds p := hA0
  rw [Try.params5] at hA hval
  obtain ⟨v0, vs0, d0, ds0, p0, q0, hargs0, rfl, rfl, h0, r0⟩ := trodAll_cons hA
  obtain ⟨v1, vs1, d1, ds1, p1, q1, hargs1, rfl, rfl, h1, r1⟩ := trodAll_cons r0
  obtain ⟨v2, vs2, d2, ds2, p2, q2, hargs2, rfl, rfl, h2, r2⟩ := trodAll_cons r1
  obtain ⟨hn, rfl, rfl⟩ := trodAll_nil r2
  obtain rfl : args = #[v0, v1, v2] := by cases args; simp_all
  obtain ⟨rfl, rfl⟩ := trodVars_none hV
  obtain ⟨sa0, sl0, sc0, hsv0⟩ := okWide_slice Try.underlying23 (hval 0 23 v0 rfl rfl)
  obtain ⟨fuel0, hf0⟩ := h0
  obtain ⟨u0, l0, hu0, hR0, hn0⟩ := rd_of_trod hf0
  obtain rfl : v0 = u0 := by
    rw [hsv0] at hu0
    rw [hsv0]
    simpa [Value.cells] using hu0
  obtain ⟨sa1, sl1, sc1, hsv1⟩ := okWide_slice Try.underlying23 (hval 1 23 v1 rfl rfl)
  obtain ⟨fuel1, hf1⟩ := h1
  obtain ⟨u1, l1, hu1, hR1, hn1⟩ := rd_of_trod hf1
  obtain rfl : v1 = u1 := by
    rw [hsv1] at hu1
    rw [hsv1]
    simpa [Value.cells] using hu1
  obtain ⟨sa2, sl2, sc2, hsv2⟩ := okWide_slice Try.underlying23 (hval 2 23 v2 rfl rfl)
  obtain ⟨fuel2, hf2⟩ := h2
  obtain ⟨u2, l2, hu2, hR2, hn2⟩ := rd_of_trod hf2
  obtain rfl : v2 = u2 := by
    rw [hsv2] at hu2
    rw [hsv2]
    simpa [Value.cells] using hu2
  clear hA0 hval0
  simp only [List.append_nil] at hW' hlts
  refine (order_true v0 l0 hR0 v1 l1 hR1 v2 l2 hR2 (W := W)).mono fun e W' ⟨he, hB⟩ => ?_
  subst he
  refine ⟨_, rfl, _, _, _, [], (p0 ++ (p1 ++ (p2 ++ []))), [], by simpa using hW', ?_, ?_, ?_, hB.frame _, fun h => by cases h⟩
  · exact trodAll_cons_mk (shut_bool Try.underlying4 _) trodAll_mk0
  · exact (trodAll_cons_mk (Below.trod (by kernel_rfl) (by kernel_rfl) (of_decide_eq_true (by kernel_rfl)) ⟨fuel0, hf0⟩ hB (fun x hx => hlts x (by simp [hx]))) (trodAll_cons_mk (Below.trod (by kernel_rfl) (by kernel_rfl) (of_decide_eq_true (by kernel_rfl)) ⟨fuel1, hf1⟩ hB (fun x hx => hlts x (by simp [hx]))) (trodAll_cons_mk (Below.trod (by kernel_rfl) (by kernel_rfl) (of_decide_eq_true (by kernel_rfl)) ⟨fuel2, hf2⟩ hB (fun x hx => hlts x (by simp [hx]))) trodAll_mk0)))
  · rfl

/-- PrecOrder: the given statement. -/
theorem precOrder_holds : Rows.PrecOrderSaid :=
  OpenClaim.holds_of_wide 5 Try.f5 rfl rfl rfl rfl rfl rfl rfl ⟨rfl, rfl, rfl, rfl, rfl⟩ rfl rfl rfl rfl rfl (by kernel_rfl) Try.func5 (by kernel_rfl)
    (of_decide_eq_true (by kernel_rfl)) (by unfold Func.isWrapper; first | (rw [if_pos (by decide +kernel)]; kernel_rfl) | (rw [if_neg (by decide +kernel)]; exact ⟨rfl, rfl⟩))
    (fun os started H enc _ => precOrder_lifted os started H enc)

end Go.Proofs.Ytpndbgdimkpfjaa.precOrder
