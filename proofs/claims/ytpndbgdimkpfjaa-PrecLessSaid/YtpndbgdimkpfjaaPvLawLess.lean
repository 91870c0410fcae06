/-
  PrecLess is true for any three types. No conditions.
-/
import Derived.Test.YtpndbgdimkpfjaaRows
import Derived.Test.YtpndbgdimkpfjaaPvLq
import Derived.Test.YtpndbgdimkpfjaaPvZ
import Derived.ProofKit
import Derived.OpenShut
namespace Go.Proofs.Ytpndbgdimkpfjaa.precLess
open Go.ChangeShapes Go.WideShapes Go.ChangeAt Go.RowKit

theorem own : ownKnob Try.prog.godebug = none := by kernel_rfl

abbrev Post (w : World) (e : Ending) (w' : World) : Prop := e = .returned (.bool true) ∧ Below w.heap.size w w'

set_option maxHeartbeats 4000000 in
set_option maxRecDepth 100000 in
theorem less_true {W : World} (va : Value) (la : List L.Nd) (ha : Rd W W.heap.size va la) (vb : Value) (lb : List L.Nd) (hb : Rd W W.heap.size vb lb) (vc : Value) (lc : List L.Nd) (hc : Rd W W.heap.size vc lc) :
    Calls Try.prog 7 #[va, vb, vc] W (Post W) := by
  have A0 := hid ha
  have B0 := hid hb
  have C0 := hid hc
  have X0 := hid (Below.refl W.heap.size W)
  have HPL := hid (plain3 va vb vc la lb lc W ha hb hc)
  obtain ⟨Aa, ca, rfl, hca, hcm, -⟩ := ha
  obtain ⟨Ab, cb, rfl, hcb, hcm2, -⟩ := hb
  obtain ⟨Ac, cc, rfl, hcc, hcm3, -⟩ := hc
  unfold maxLen at hcm hcm2 hcm3
  cases hg : allG [(Value.slice Aa la.length ca, la), (Value.slice Ab lb.length cb, lb), (Value.slice Ac lc.length cc, lc)] with
  | false =>
    rw [hg] at HPL
    clear hg
    go_enter Try.func7, Try.ntmps7
    go_wp2_with fail
    refine (HPL.out).mono ?_
    rintro e w1 ⟨rfl, h0⟩
    have HC := hid (alive_any w1)
    have X1 := hid h0
    clear h0
    go_wp2_with fail
    refine (HC.out).mono ?_
    rintro e w2 ⟨rfl, h0⟩
    go_wp2
    go_ret
    exact ⟨rfl, X1.out.trans (h0.mono X1.out.size)⟩
  | true =>
    rw [hg] at HPL
    obtain ⟨hga, hgb, hgc⟩ := all3 hg
    obtain ⟨FA, TA, RA, DA, ZA, NA⟩ := good_fo hga
    obtain ⟨FB, TB, RB, DB, ZB, NB⟩ := good_fo hgb
    obtain ⟨FC, TC, RC, DC, ZC, NC⟩ := good_fo hgc
    clear hg hga hgb hgc
    have TA := hid TA
    have TB := hid TB
    have TC := hid TC
    have RA := hid RA
    have RB := hid RB
    have RC := hid RC
    have NA := hid NA
    have NB := hid NB
    have NC := hid NC
    have DA := hid DA
    have DB := hid DB
    have DC := hid DC
    go_enter Try.func7, Try.ntmps7
    go_wp2_with fail
    refine (HPL.out).mono ?_
    rintro e w1 ⟨rfl, h0⟩
    have HC := HPL
    have X1 := hid (X0.out.trans (h0.mono X0.out.size))
    have A1 := hid ((A0.out.below h0).mono h0.size)
    have B1 := hid ((B0.out.below h0).mono h0.size)
    have C1 := hid ((C0.out.below h0).mono h0.size)
    clear h0 HC X0 A0 B0 C0
    clear HPL
    cases h_ab : L.beF FA FB with
    | false =>
      have Hab := hid h_ab
      clear h_ab
      have HC := hid (below_any TA.out TB.out _ _ _ A1.out B1.out)
      rw [Hab.out] at HC
      go_wp2_with fail
      refine (HC.out).mono ?_
      rintro e w2 ⟨rfl, h0⟩
      have X2 := hid (X1.out.trans (h0.mono X1.out.size))
      have A2 := hid ((A1.out.below h0).mono h0.size)
      have B2 := hid ((B1.out.below h0).mono h0.size)
      have C2 := hid ((C1.out.below h0).mono h0.size)
      clear h0 HC X1 A1 B1 C1
      cases h_sa : L.staticL la with
      | false =>
        have Hsa := hid h_sa
        clear h_sa
        have HC := hid (ref_static la _ _ A2.out)
        rw [Hsa.out] at HC
        go_wp2_with fail
        refine (HC.out).mono ?_
        rintro e w3 ⟨rfl, rfl⟩
        have A3 := A2
        have B3 := B2
        have C3 := C2
        have X3 := X2
        clear HC X2 A2 B2 C2
        have HC := hid (alive_any w3)
        go_wp2_with fail
        refine (HC.out).mono ?_
        rintro e w4 ⟨rfl, h0⟩
        have X4 := hid (X3.out.trans (h0.mono X3.out.size))
        have A4 := hid ((A3.out.below h0).mono h0.size)
        have B4 := hid ((B3.out.below h0).mono h0.size)
        have C4 := hid ((C3.out.below h0).mono h0.size)
        clear h0 HC X3 A3 B3 C3
        cases h_g : L.agF FA FB with
        | false =>
          have Hg := hid h_g
          clear h_g
          have HC := hid (agree_any TA.out TB.out _ _ _ A4.out B4.out)
          rw [Hg.out] at HC
          go_wp2_with fail
          refine (HC.out).mono ?_
          rintro e w5 ⟨rfl, h0⟩
          have X5 := hid (X4.out.trans (h0.mono X4.out.size))
          have A5 := hid ((A4.out.below h0).mono h0.size)
          have B5 := hid ((B4.out.below h0).mono h0.size)
          have C5 := hid ((C4.out.below h0).mono h0.size)
          clear h0 HC X4 A4 B4 C4
          have HC := hid (agree_any TB.out TA.out _ _ _ B5.out A5.out)
          rw [L.ag_symm FB FA] at HC
          rw [Hg.out] at HC
          go_wp2_with fail
          refine (HC.out).mono ?_
          rintro e w6 ⟨rfl, h0⟩
          have X6 := hid (X5.out.trans (h0.mono X5.out.size))
          have A6 := hid ((A5.out.below h0).mono h0.size)
          have B6 := hid ((B5.out.below h0).mono h0.size)
          have C6 := hid ((C5.out.below h0).mono h0.size)
          clear h0 HC X5 A5 B5 C5
          have HC := hid (below_any TA.out TB.out _ _ _ A6.out B6.out)
          rw [Hab.out] at HC
          go_wp2_with fail
          refine (HC.out).mono ?_
          rintro e w7 ⟨rfl, h0⟩
          have X7 := hid (X6.out.trans (h0.mono X6.out.size))
          have A7 := hid ((A6.out.below h0).mono h0.size)
          have B7 := hid ((B6.out.below h0).mono h0.size)
          have C7 := hid ((C6.out.below h0).mono h0.size)
          clear h0 HC X6 A6 B6 C6
          go_wp2
          go_ret
          exact ⟨rfl, X7.out⟩
        | true =>
          have Hg := hid h_g
          clear h_g
          have HC := hid (agree_any TA.out TB.out _ _ _ A4.out B4.out)
          rw [Hg.out] at HC
          go_wp2_with fail
          refine (HC.out).mono ?_
          rintro e w5 ⟨rfl, h0⟩
          have X5 := hid (X4.out.trans (h0.mono X4.out.size))
          have A5 := hid ((A4.out.below h0).mono h0.size)
          have B5 := hid ((B4.out.below h0).mono h0.size)
          have C5 := hid ((C4.out.below h0).mono h0.size)
          clear h0 HC X4 A4 B4 C4
          have HC := hid (agree_any TB.out TA.out _ _ _ B5.out A5.out)
          rw [L.ag_symm FB FA] at HC
          rw [Hg.out] at HC
          go_wp2_with fail
          refine (HC.out).mono ?_
          rintro e w6 ⟨rfl, h0⟩
          have X6 := hid (X5.out.trans (h0.mono X5.out.size))
          have A6 := hid ((A5.out.below h0).mono h0.size)
          have B6 := hid ((B5.out.below h0).mono h0.size)
          have C6 := hid ((C5.out.below h0).mono h0.size)
          clear h0 HC X5 A5 B5 C5
          have HC := hid (below_any TA.out TB.out _ _ _ A6.out B6.out)
          rw [Hab.out] at HC
          go_wp2_with fail
          refine (HC.out).mono ?_
          rintro e w7 ⟨rfl, h0⟩
          have X7 := hid (X6.out.trans (h0.mono X6.out.size))
          have A7 := hid ((A6.out.below h0).mono h0.size)
          have B7 := hid ((B6.out.below h0).mono h0.size)
          have C7 := hid ((C6.out.below h0).mono h0.size)
          clear h0 HC X6 A6 B6 C6
          go_wp2
          go_ret
          exact ⟨rfl, X7.out⟩
      | true =>
        have Hsa := hid h_sa
        clear h_sa
        have HC := hid (ref_static la _ _ A2.out)
        rw [Hsa.out] at HC
        go_wp2_with fail
        refine (HC.out).mono ?_
        rintro e w3 ⟨rfl, rfl⟩
        have A3 := A2
        have B3 := B2
        have C3 := C2
        have X3 := X2
        clear HC X2 A2 B2 C2
        cases h_sb : L.staticL lb with
        | false =>
          have Hsb := hid h_sb
          clear h_sb
          have HC := hid (ref_static lb _ _ B3.out)
          rw [Hsb.out] at HC
          go_wp2_with fail
          refine (HC.out).mono ?_
          rintro e w4 ⟨rfl, rfl⟩
          have A4 := A3
          have B4 := B3
          have C4 := C3
          have X4 := X3
          clear HC X3 A3 B3 C3
          have HC := hid (alive_any w4)
          go_wp2_with fail
          refine (HC.out).mono ?_
          rintro e w5 ⟨rfl, h0⟩
          have X5 := hid (X4.out.trans (h0.mono X4.out.size))
          have A5 := hid ((A4.out.below h0).mono h0.size)
          have B5 := hid ((B4.out.below h0).mono h0.size)
          have C5 := hid ((C4.out.below h0).mono h0.size)
          clear h0 HC X4 A4 B4 C4
          cases h_g : L.agF FA FB with
          | false =>
            have Hg := hid h_g
            clear h_g
            have HC := hid (agree_any TA.out TB.out _ _ _ A5.out B5.out)
            rw [Hg.out] at HC
            go_wp2_with fail
            refine (HC.out).mono ?_
            rintro e w6 ⟨rfl, h0⟩
            have X6 := hid (X5.out.trans (h0.mono X5.out.size))
            have A6 := hid ((A5.out.below h0).mono h0.size)
            have B6 := hid ((B5.out.below h0).mono h0.size)
            have C6 := hid ((C5.out.below h0).mono h0.size)
            clear h0 HC X5 A5 B5 C5
            have HC := hid (agree_any TB.out TA.out _ _ _ B6.out A6.out)
            rw [L.ag_symm FB FA] at HC
            rw [Hg.out] at HC
            go_wp2_with fail
            refine (HC.out).mono ?_
            rintro e w7 ⟨rfl, h0⟩
            have X7 := hid (X6.out.trans (h0.mono X6.out.size))
            have A7 := hid ((A6.out.below h0).mono h0.size)
            have B7 := hid ((B6.out.below h0).mono h0.size)
            have C7 := hid ((C6.out.below h0).mono h0.size)
            clear h0 HC X6 A6 B6 C6
            have HC := hid (below_any TA.out TB.out _ _ _ A7.out B7.out)
            rw [Hab.out] at HC
            go_wp2_with fail
            refine (HC.out).mono ?_
            rintro e w8 ⟨rfl, h0⟩
            have X8 := hid (X7.out.trans (h0.mono X7.out.size))
            have A8 := hid ((A7.out.below h0).mono h0.size)
            have B8 := hid ((B7.out.below h0).mono h0.size)
            have C8 := hid ((C7.out.below h0).mono h0.size)
            clear h0 HC X7 A7 B7 C7
            go_wp2
            go_ret
            exact ⟨rfl, X8.out⟩
          | true =>
            have Hg := hid h_g
            clear h_g
            have HC := hid (agree_any TA.out TB.out _ _ _ A5.out B5.out)
            rw [Hg.out] at HC
            go_wp2_with fail
            refine (HC.out).mono ?_
            rintro e w6 ⟨rfl, h0⟩
            have X6 := hid (X5.out.trans (h0.mono X5.out.size))
            have A6 := hid ((A5.out.below h0).mono h0.size)
            have B6 := hid ((B5.out.below h0).mono h0.size)
            have C6 := hid ((C5.out.below h0).mono h0.size)
            clear h0 HC X5 A5 B5 C5
            have HC := hid (agree_any TB.out TA.out _ _ _ B6.out A6.out)
            rw [L.ag_symm FB FA] at HC
            rw [Hg.out] at HC
            go_wp2_with fail
            refine (HC.out).mono ?_
            rintro e w7 ⟨rfl, h0⟩
            have X7 := hid (X6.out.trans (h0.mono X6.out.size))
            have A7 := hid ((A6.out.below h0).mono h0.size)
            have B7 := hid ((B6.out.below h0).mono h0.size)
            have C7 := hid ((C6.out.below h0).mono h0.size)
            clear h0 HC X6 A6 B6 C6
            have HC := hid (below_any TA.out TB.out _ _ _ A7.out B7.out)
            rw [Hab.out] at HC
            go_wp2_with fail
            refine (HC.out).mono ?_
            rintro e w8 ⟨rfl, h0⟩
            have X8 := hid (X7.out.trans (h0.mono X7.out.size))
            have A8 := hid ((A7.out.below h0).mono h0.size)
            have B8 := hid ((B7.out.below h0).mono h0.size)
            have C8 := hid ((C7.out.below h0).mono h0.size)
            clear h0 HC X7 A7 B7 C7
            go_wp2
            go_ret
            exact ⟨rfl, X8.out⟩
        | true =>
          have Hsb := hid h_sb
          clear h_sb
          have HC := hid (ref_static lb _ _ B3.out)
          rw [Hsb.out] at HC
          go_wp2_with fail
          refine (HC.out).mono ?_
          rintro e w4 ⟨rfl, rfl⟩
          have A4 := A3
          have B4 := B3
          have C4 := C3
          have X4 := X3
          clear HC X3 A3 B3 C3
          have HC := hid (alive_any w4)
          go_wp2_with fail
          refine (HC.out).mono ?_
          rintro e w5 ⟨rfl, h0⟩
          have X5 := hid (X4.out.trans (h0.mono X4.out.size))
          have A5 := hid ((A4.out.below h0).mono h0.size)
          have B5 := hid ((B4.out.below h0).mono h0.size)
          have C5 := hid ((C4.out.below h0).mono h0.size)
          clear h0 HC X4 A4 B4 C4
          cases h_g : L.agF FA FB with
          | false =>
            have Hg := hid h_g
            clear h_g
            have HC := hid (agree_any TA.out TB.out _ _ _ A5.out B5.out)
            rw [Hg.out] at HC
            go_wp2_with fail
            refine (HC.out).mono ?_
            rintro e w6 ⟨rfl, h0⟩
            have X6 := hid (X5.out.trans (h0.mono X5.out.size))
            have A6 := hid ((A5.out.below h0).mono h0.size)
            have B6 := hid ((B5.out.below h0).mono h0.size)
            have C6 := hid ((C5.out.below h0).mono h0.size)
            clear h0 HC X5 A5 B5 C5
            have HC := hid (agree_any TB.out TA.out _ _ _ B6.out A6.out)
            rw [L.ag_symm FB FA] at HC
            rw [Hg.out] at HC
            go_wp2_with fail
            refine (HC.out).mono ?_
            rintro e w7 ⟨rfl, h0⟩
            have X7 := hid (X6.out.trans (h0.mono X6.out.size))
            have A7 := hid ((A6.out.below h0).mono h0.size)
            have B7 := hid ((B6.out.below h0).mono h0.size)
            have C7 := hid ((C6.out.below h0).mono h0.size)
            clear h0 HC X6 A6 B6 C6
            have HSM : Hid (L.sameL la lb = false) := hid (by
              have h1 := L.ag_static TA.out.ok TB.out.ok TA.out.plain TB.out.plain (by rw [← TA.out.flat]; exact Hsa.out) (by rw [← TB.out.flat]; exact Hsb.out)
              rw [TA.out.flat, TB.out.flat, L.same_root TA.out.ok TB.out.ok (by rw [L.root_count RA.out, L.root_count RB.out]), ← h1]
              exact Hg.out)
            have HC := hid (agree_any TA.out TB.out _ _ _ A7.out B7.out)
            rw [Hg.out] at HC
            go_wp2_with fail
            refine (HC.out).mono ?_
            rintro e w8 ⟨rfl, h0⟩
            have X8 := hid (X7.out.trans (h0.mono X7.out.size))
            have A8 := hid ((A7.out.below h0).mono h0.size)
            have B8 := hid ((B7.out.below h0).mono h0.size)
            have C8 := hid ((C7.out.below h0).mono h0.size)
            clear h0 HC X7 A7 B7 C7
            have HC := hid (refSame_any la lb _ _ _ A8.out B8.out)
            rw [HSM.out] at HC
            go_wp2_with fail
            refine (HC.out).mono ?_
            rintro e w9 ⟨rfl, h0⟩
            have X9 := hid (X8.out.trans (h0.mono X8.out.size))
            have A9 := hid ((A8.out.below h0).mono h0.size)
            have B9 := hid ((B8.out.below h0).mono h0.size)
            have C9 := hid ((C8.out.below h0).mono h0.size)
            clear h0 HC X8 A8 B8 C8
            have HC := hid (below_any TA.out TB.out _ _ _ A9.out B9.out)
            rw [Hab.out] at HC
            go_wp2_with fail
            refine (HC.out).mono ?_
            rintro e w10 ⟨rfl, h0⟩
            have X10 := hid (X9.out.trans (h0.mono X9.out.size))
            have A10 := hid ((A9.out.below h0).mono h0.size)
            have B10 := hid ((B9.out.below h0).mono h0.size)
            have C10 := hid ((C9.out.below h0).mono h0.size)
            clear h0 HC X9 A9 B9 C9
            go_wp2
            go_ret
            exact ⟨rfl, X10.out⟩
          | true =>
            have Hg := hid h_g
            clear h_g
            have HC := hid (agree_any TA.out TB.out _ _ _ A5.out B5.out)
            rw [Hg.out] at HC
            go_wp2_with fail
            refine (HC.out).mono ?_
            rintro e w6 ⟨rfl, h0⟩
            have X6 := hid (X5.out.trans (h0.mono X5.out.size))
            have A6 := hid ((A5.out.below h0).mono h0.size)
            have B6 := hid ((B5.out.below h0).mono h0.size)
            have C6 := hid ((C5.out.below h0).mono h0.size)
            clear h0 HC X5 A5 B5 C5
            have HC := hid (agree_any TB.out TA.out _ _ _ B6.out A6.out)
            rw [L.ag_symm FB FA] at HC
            rw [Hg.out] at HC
            go_wp2_with fail
            refine (HC.out).mono ?_
            rintro e w7 ⟨rfl, h0⟩
            have X7 := hid (X6.out.trans (h0.mono X6.out.size))
            have A7 := hid ((A6.out.below h0).mono h0.size)
            have B7 := hid ((B6.out.below h0).mono h0.size)
            have C7 := hid ((C6.out.below h0).mono h0.size)
            clear h0 HC X6 A6 B6 C6
            have HSM : Hid (L.sameL la lb = true) := hid (by
              have h1 := L.ag_static TA.out.ok TB.out.ok TA.out.plain TB.out.plain (by rw [← TA.out.flat]; exact Hsa.out) (by rw [← TB.out.flat]; exact Hsb.out)
              rw [TA.out.flat, TB.out.flat, L.same_root TA.out.ok TB.out.ok (by rw [L.root_count RA.out, L.root_count RB.out]), ← h1]
              exact Hg.out)
            have HC := hid (agree_any TA.out TB.out _ _ _ A7.out B7.out)
            rw [Hg.out] at HC
            go_wp2_with fail
            refine (HC.out).mono ?_
            rintro e w8 ⟨rfl, h0⟩
            have X8 := hid (X7.out.trans (h0.mono X7.out.size))
            have A8 := hid ((A7.out.below h0).mono h0.size)
            have B8 := hid ((B7.out.below h0).mono h0.size)
            have C8 := hid ((C7.out.below h0).mono h0.size)
            clear h0 HC X7 A7 B7 C7
            have HC := hid (refSame_any la lb _ _ _ A8.out B8.out)
            rw [HSM.out] at HC
            go_wp2_with fail
            refine (HC.out).mono ?_
            rintro e w9 ⟨rfl, h0⟩
            have X9 := hid (X8.out.trans (h0.mono X8.out.size))
            have A9 := hid ((A8.out.below h0).mono h0.size)
            have B9 := hid ((B8.out.below h0).mono h0.size)
            have C9 := hid ((C8.out.below h0).mono h0.size)
            clear h0 HC X8 A8 B8 C8
            have HC := hid (below_any TA.out TB.out _ _ _ A9.out B9.out)
            rw [Hab.out] at HC
            go_wp2_with fail
            refine (HC.out).mono ?_
            rintro e w10 ⟨rfl, h0⟩
            have X10 := hid (X9.out.trans (h0.mono X9.out.size))
            have A10 := hid ((A9.out.below h0).mono h0.size)
            have B10 := hid ((B9.out.below h0).mono h0.size)
            have C10 := hid ((C9.out.below h0).mono h0.size)
            clear h0 HC X9 A9 B9 C9
            go_wp2
            go_ret
            exact ⟨rfl, X10.out⟩
    | true =>
      have Hab := hid h_ab
      clear h_ab
      have HC := hid (below_any TA.out TB.out _ _ _ A1.out B1.out)
      rw [Hab.out] at HC
      go_wp2_with fail
      refine (HC.out).mono ?_
      rintro e w2 ⟨rfl, h0⟩
      have X2 := hid (X1.out.trans (h0.mono X1.out.size))
      have A2 := hid ((A1.out.below h0).mono h0.size)
      have B2 := hid ((B1.out.below h0).mono h0.size)
      have C2 := hid ((C1.out.below h0).mono h0.size)
      clear h0 HC X1 A1 B1 C1
      cases h_ac : L.agF FA FC with
      | false =>
        have Hac := hid h_ac
        clear h_ac
        have HC := hid (agree_any TA.out TC.out _ _ _ A2.out C2.out)
        rw [Hac.out] at HC
        go_wp2_with fail
        refine (HC.out).mono ?_
        rintro e w3 ⟨rfl, h0⟩
        have X3 := hid (X2.out.trans (h0.mono X2.out.size))
        have A3 := hid ((A2.out.below h0).mono h0.size)
        have B3 := hid ((B2.out.below h0).mono h0.size)
        have C3 := hid ((C2.out.below h0).mono h0.size)
        clear h0 HC X2 A2 B2 C2
        cases h_sa : L.staticL la with
        | false =>
          have Hsa := hid h_sa
          clear h_sa
          have HC := hid (ref_static la _ _ A3.out)
          rw [Hsa.out] at HC
          go_wp2_with fail
          refine (HC.out).mono ?_
          rintro e w4 ⟨rfl, rfl⟩
          have A4 := A3
          have B4 := B3
          have C4 := C3
          have X4 := X3
          clear HC X3 A3 B3 C3
          have HC := hid (alive_any w4)
          go_wp2_with fail
          refine (HC.out).mono ?_
          rintro e w5 ⟨rfl, h0⟩
          have X5 := hid (X4.out.trans (h0.mono X4.out.size))
          have A5 := hid ((A4.out.below h0).mono h0.size)
          have B5 := hid ((B4.out.below h0).mono h0.size)
          have C5 := hid ((C4.out.below h0).mono h0.size)
          clear h0 HC X4 A4 B4 C4
          cases h_g : L.agF FA FB with
          | false =>
            have Hg := hid h_g
            clear h_g
            have HC := hid (agree_any TA.out TB.out _ _ _ A5.out B5.out)
            rw [Hg.out] at HC
            go_wp2_with fail
            refine (HC.out).mono ?_
            rintro e w6 ⟨rfl, h0⟩
            have X6 := hid (X5.out.trans (h0.mono X5.out.size))
            have A6 := hid ((A5.out.below h0).mono h0.size)
            have B6 := hid ((B5.out.below h0).mono h0.size)
            have C6 := hid ((C5.out.below h0).mono h0.size)
            clear h0 HC X5 A5 B5 C5
            have HC := hid (agree_any TB.out TA.out _ _ _ B6.out A6.out)
            rw [L.ag_symm FB FA] at HC
            rw [Hg.out] at HC
            go_wp2_with fail
            refine (HC.out).mono ?_
            rintro e w7 ⟨rfl, h0⟩
            have X7 := hid (X6.out.trans (h0.mono X6.out.size))
            have A7 := hid ((A6.out.below h0).mono h0.size)
            have B7 := hid ((B6.out.below h0).mono h0.size)
            have C7 := hid ((C6.out.below h0).mono h0.size)
            clear h0 HC X6 A6 B6 C6
            have HC := hid (below_any TA.out TB.out _ _ _ A7.out B7.out)
            rw [Hab.out] at HC
            go_wp2_with fail
            refine (HC.out).mono ?_
            rintro e w8 ⟨rfl, h0⟩
            have X8 := hid (X7.out.trans (h0.mono X7.out.size))
            have A8 := hid ((A7.out.below h0).mono h0.size)
            have B8 := hid ((B7.out.below h0).mono h0.size)
            have C8 := hid ((C7.out.below h0).mono h0.size)
            clear h0 HC X7 A7 B7 C7
            exact absurd (L.be_ag Hab.out) (by rw [Hg.out]; simp)
          | true =>
            have Hg := hid h_g
            clear h_g
            have HC := hid (agree_any TA.out TB.out _ _ _ A5.out B5.out)
            rw [Hg.out] at HC
            go_wp2_with fail
            refine (HC.out).mono ?_
            rintro e w6 ⟨rfl, h0⟩
            have X6 := hid (X5.out.trans (h0.mono X5.out.size))
            have A6 := hid ((A5.out.below h0).mono h0.size)
            have B6 := hid ((B5.out.below h0).mono h0.size)
            have C6 := hid ((C5.out.below h0).mono h0.size)
            clear h0 HC X5 A5 B5 C5
            have HC := hid (agree_any TB.out TA.out _ _ _ B6.out A6.out)
            rw [L.ag_symm FB FA] at HC
            rw [Hg.out] at HC
            go_wp2_with fail
            refine (HC.out).mono ?_
            rintro e w7 ⟨rfl, h0⟩
            have X7 := hid (X6.out.trans (h0.mono X6.out.size))
            have A7 := hid ((A6.out.below h0).mono h0.size)
            have B7 := hid ((B6.out.below h0).mono h0.size)
            have C7 := hid ((C6.out.below h0).mono h0.size)
            clear h0 HC X6 A6 B6 C6
            have HC := hid (below_any TA.out TB.out _ _ _ A7.out B7.out)
            rw [Hab.out] at HC
            go_wp2_with fail
            refine (HC.out).mono ?_
            rintro e w8 ⟨rfl, h0⟩
            have X8 := hid (X7.out.trans (h0.mono X7.out.size))
            have A8 := hid ((A7.out.below h0).mono h0.size)
            have B8 := hid ((B7.out.below h0).mono h0.size)
            have C8 := hid ((C7.out.below h0).mono h0.size)
            clear h0 HC X7 A7 B7 C7
            have HC := hid (agree_any TA.out TB.out _ _ _ A8.out B8.out)
            rw [Hg.out] at HC
            go_wp2_with fail
            refine (HC.out).mono ?_
            rintro e w9 ⟨rfl, h0⟩
            have X9 := hid (X8.out.trans (h0.mono X8.out.size))
            have A9 := hid ((A8.out.below h0).mono h0.size)
            have B9 := hid ((B8.out.below h0).mono h0.size)
            have C9 := hid ((C8.out.below h0).mono h0.size)
            clear h0 HC X8 A8 B8 C8
            go_wp2
            go_ret
            exact ⟨rfl, X9.out⟩
        | true =>
          have Hsa := hid h_sa
          clear h_sa
          have HC := hid (ref_static la _ _ A3.out)
          rw [Hsa.out] at HC
          go_wp2_with fail
          refine (HC.out).mono ?_
          rintro e w4 ⟨rfl, rfl⟩
          have A4 := A3
          have B4 := B3
          have C4 := C3
          have X4 := X3
          clear HC X3 A3 B3 C3
          cases h_sb : L.staticL lb with
          | false =>
            have Hsb := hid h_sb
            clear h_sb
            have HC := hid (ref_static lb _ _ B4.out)
            rw [Hsb.out] at HC
            go_wp2_with fail
            refine (HC.out).mono ?_
            rintro e w5 ⟨rfl, rfl⟩
            have A5 := A4
            have B5 := B4
            have C5 := C4
            have X5 := X4
            clear HC X4 A4 B4 C4
            have HC := hid (alive_any w5)
            go_wp2_with fail
            refine (HC.out).mono ?_
            rintro e w6 ⟨rfl, h0⟩
            have X6 := hid (X5.out.trans (h0.mono X5.out.size))
            have A6 := hid ((A5.out.below h0).mono h0.size)
            have B6 := hid ((B5.out.below h0).mono h0.size)
            have C6 := hid ((C5.out.below h0).mono h0.size)
            clear h0 HC X5 A5 B5 C5
            cases h_g : L.agF FA FB with
            | false =>
              have Hg := hid h_g
              clear h_g
              have HC := hid (agree_any TA.out TB.out _ _ _ A6.out B6.out)
              rw [Hg.out] at HC
              go_wp2_with fail
              refine (HC.out).mono ?_
              rintro e w7 ⟨rfl, h0⟩
              have X7 := hid (X6.out.trans (h0.mono X6.out.size))
              have A7 := hid ((A6.out.below h0).mono h0.size)
              have B7 := hid ((B6.out.below h0).mono h0.size)
              have C7 := hid ((C6.out.below h0).mono h0.size)
              clear h0 HC X6 A6 B6 C6
              have HC := hid (agree_any TB.out TA.out _ _ _ B7.out A7.out)
              rw [L.ag_symm FB FA] at HC
              rw [Hg.out] at HC
              go_wp2_with fail
              refine (HC.out).mono ?_
              rintro e w8 ⟨rfl, h0⟩
              have X8 := hid (X7.out.trans (h0.mono X7.out.size))
              have A8 := hid ((A7.out.below h0).mono h0.size)
              have B8 := hid ((B7.out.below h0).mono h0.size)
              have C8 := hid ((C7.out.below h0).mono h0.size)
              clear h0 HC X7 A7 B7 C7
              have HC := hid (below_any TA.out TB.out _ _ _ A8.out B8.out)
              rw [Hab.out] at HC
              go_wp2_with fail
              refine (HC.out).mono ?_
              rintro e w9 ⟨rfl, h0⟩
              have X9 := hid (X8.out.trans (h0.mono X8.out.size))
              have A9 := hid ((A8.out.below h0).mono h0.size)
              have B9 := hid ((B8.out.below h0).mono h0.size)
              have C9 := hid ((C8.out.below h0).mono h0.size)
              clear h0 HC X8 A8 B8 C8
              exact absurd (L.be_ag Hab.out) (by rw [Hg.out]; simp)
            | true =>
              have Hg := hid h_g
              clear h_g
              have HC := hid (agree_any TA.out TB.out _ _ _ A6.out B6.out)
              rw [Hg.out] at HC
              go_wp2_with fail
              refine (HC.out).mono ?_
              rintro e w7 ⟨rfl, h0⟩
              have X7 := hid (X6.out.trans (h0.mono X6.out.size))
              have A7 := hid ((A6.out.below h0).mono h0.size)
              have B7 := hid ((B6.out.below h0).mono h0.size)
              have C7 := hid ((C6.out.below h0).mono h0.size)
              clear h0 HC X6 A6 B6 C6
              have HC := hid (agree_any TB.out TA.out _ _ _ B7.out A7.out)
              rw [L.ag_symm FB FA] at HC
              rw [Hg.out] at HC
              go_wp2_with fail
              refine (HC.out).mono ?_
              rintro e w8 ⟨rfl, h0⟩
              have X8 := hid (X7.out.trans (h0.mono X7.out.size))
              have A8 := hid ((A7.out.below h0).mono h0.size)
              have B8 := hid ((B7.out.below h0).mono h0.size)
              have C8 := hid ((C7.out.below h0).mono h0.size)
              clear h0 HC X7 A7 B7 C7
              have HC := hid (below_any TA.out TB.out _ _ _ A8.out B8.out)
              rw [Hab.out] at HC
              go_wp2_with fail
              refine (HC.out).mono ?_
              rintro e w9 ⟨rfl, h0⟩
              have X9 := hid (X8.out.trans (h0.mono X8.out.size))
              have A9 := hid ((A8.out.below h0).mono h0.size)
              have B9 := hid ((B8.out.below h0).mono h0.size)
              have C9 := hid ((C8.out.below h0).mono h0.size)
              clear h0 HC X8 A8 B8 C8
              have HC := hid (agree_any TA.out TB.out _ _ _ A9.out B9.out)
              rw [Hg.out] at HC
              go_wp2_with fail
              refine (HC.out).mono ?_
              rintro e w10 ⟨rfl, h0⟩
              have X10 := hid (X9.out.trans (h0.mono X9.out.size))
              have A10 := hid ((A9.out.below h0).mono h0.size)
              have B10 := hid ((B9.out.below h0).mono h0.size)
              have C10 := hid ((C9.out.below h0).mono h0.size)
              clear h0 HC X9 A9 B9 C9
              go_wp2
              go_ret
              exact ⟨rfl, X10.out⟩
          | true =>
            have Hsb := hid h_sb
            clear h_sb
            have HC := hid (ref_static lb _ _ B4.out)
            rw [Hsb.out] at HC
            go_wp2_with fail
            refine (HC.out).mono ?_
            rintro e w5 ⟨rfl, rfl⟩
            have A5 := A4
            have B5 := B4
            have C5 := C4
            have X5 := X4
            clear HC X4 A4 B4 C4
            have HC := hid (alive_any w5)
            go_wp2_with fail
            refine (HC.out).mono ?_
            rintro e w6 ⟨rfl, h0⟩
            have X6 := hid (X5.out.trans (h0.mono X5.out.size))
            have A6 := hid ((A5.out.below h0).mono h0.size)
            have B6 := hid ((B5.out.below h0).mono h0.size)
            have C6 := hid ((C5.out.below h0).mono h0.size)
            clear h0 HC X5 A5 B5 C5
            cases h_g : L.agF FA FB with
            | false =>
              have Hg := hid h_g
              clear h_g
              have HC := hid (agree_any TA.out TB.out _ _ _ A6.out B6.out)
              rw [Hg.out] at HC
              go_wp2_with fail
              refine (HC.out).mono ?_
              rintro e w7 ⟨rfl, h0⟩
              have X7 := hid (X6.out.trans (h0.mono X6.out.size))
              have A7 := hid ((A6.out.below h0).mono h0.size)
              have B7 := hid ((B6.out.below h0).mono h0.size)
              have C7 := hid ((C6.out.below h0).mono h0.size)
              clear h0 HC X6 A6 B6 C6
              have HC := hid (agree_any TB.out TA.out _ _ _ B7.out A7.out)
              rw [L.ag_symm FB FA] at HC
              rw [Hg.out] at HC
              go_wp2_with fail
              refine (HC.out).mono ?_
              rintro e w8 ⟨rfl, h0⟩
              have X8 := hid (X7.out.trans (h0.mono X7.out.size))
              have A8 := hid ((A7.out.below h0).mono h0.size)
              have B8 := hid ((B7.out.below h0).mono h0.size)
              have C8 := hid ((C7.out.below h0).mono h0.size)
              clear h0 HC X7 A7 B7 C7
              have HSM : Hid (L.sameL la lb = false) := hid (by
                have h1 := L.ag_static TA.out.ok TB.out.ok TA.out.plain TB.out.plain (by rw [← TA.out.flat]; exact Hsa.out) (by rw [← TB.out.flat]; exact Hsb.out)
                rw [TA.out.flat, TB.out.flat, L.same_root TA.out.ok TB.out.ok (by rw [L.root_count RA.out, L.root_count RB.out]), ← h1]
                exact Hg.out)
              have HC := hid (agree_any TA.out TB.out _ _ _ A8.out B8.out)
              rw [Hg.out] at HC
              go_wp2_with fail
              refine (HC.out).mono ?_
              rintro e w9 ⟨rfl, h0⟩
              have X9 := hid (X8.out.trans (h0.mono X8.out.size))
              have A9 := hid ((A8.out.below h0).mono h0.size)
              have B9 := hid ((B8.out.below h0).mono h0.size)
              have C9 := hid ((C8.out.below h0).mono h0.size)
              clear h0 HC X8 A8 B8 C8
              have HC := hid (refSame_any la lb _ _ _ A9.out B9.out)
              rw [HSM.out] at HC
              go_wp2_with fail
              refine (HC.out).mono ?_
              rintro e w10 ⟨rfl, h0⟩
              have X10 := hid (X9.out.trans (h0.mono X9.out.size))
              have A10 := hid ((A9.out.below h0).mono h0.size)
              have B10 := hid ((B9.out.below h0).mono h0.size)
              have C10 := hid ((C9.out.below h0).mono h0.size)
              clear h0 HC X9 A9 B9 C9
              have HC := hid (below_any TA.out TB.out _ _ _ A10.out B10.out)
              rw [Hab.out] at HC
              go_wp2_with fail
              refine (HC.out).mono ?_
              rintro e w11 ⟨rfl, h0⟩
              have X11 := hid (X10.out.trans (h0.mono X10.out.size))
              have A11 := hid ((A10.out.below h0).mono h0.size)
              have B11 := hid ((B10.out.below h0).mono h0.size)
              have C11 := hid ((C10.out.below h0).mono h0.size)
              clear h0 HC X10 A10 B10 C10
              exact absurd (L.be_ag Hab.out) (by rw [Hg.out]; simp)
            | true =>
              have Hg := hid h_g
              clear h_g
              have HC := hid (agree_any TA.out TB.out _ _ _ A6.out B6.out)
              rw [Hg.out] at HC
              go_wp2_with fail
              refine (HC.out).mono ?_
              rintro e w7 ⟨rfl, h0⟩
              have X7 := hid (X6.out.trans (h0.mono X6.out.size))
              have A7 := hid ((A6.out.below h0).mono h0.size)
              have B7 := hid ((B6.out.below h0).mono h0.size)
              have C7 := hid ((C6.out.below h0).mono h0.size)
              clear h0 HC X6 A6 B6 C6
              have HC := hid (agree_any TB.out TA.out _ _ _ B7.out A7.out)
              rw [L.ag_symm FB FA] at HC
              rw [Hg.out] at HC
              go_wp2_with fail
              refine (HC.out).mono ?_
              rintro e w8 ⟨rfl, h0⟩
              have X8 := hid (X7.out.trans (h0.mono X7.out.size))
              have A8 := hid ((A7.out.below h0).mono h0.size)
              have B8 := hid ((B7.out.below h0).mono h0.size)
              have C8 := hid ((C7.out.below h0).mono h0.size)
              clear h0 HC X7 A7 B7 C7
              have HSM : Hid (L.sameL la lb = true) := hid (by
                have h1 := L.ag_static TA.out.ok TB.out.ok TA.out.plain TB.out.plain (by rw [← TA.out.flat]; exact Hsa.out) (by rw [← TB.out.flat]; exact Hsb.out)
                rw [TA.out.flat, TB.out.flat, L.same_root TA.out.ok TB.out.ok (by rw [L.root_count RA.out, L.root_count RB.out]), ← h1]
                exact Hg.out)
              have HC := hid (agree_any TA.out TB.out _ _ _ A8.out B8.out)
              rw [Hg.out] at HC
              go_wp2_with fail
              refine (HC.out).mono ?_
              rintro e w9 ⟨rfl, h0⟩
              have X9 := hid (X8.out.trans (h0.mono X8.out.size))
              have A9 := hid ((A8.out.below h0).mono h0.size)
              have B9 := hid ((B8.out.below h0).mono h0.size)
              have C9 := hid ((C8.out.below h0).mono h0.size)
              clear h0 HC X8 A8 B8 C8
              have HC := hid (refSame_any la lb _ _ _ A9.out B9.out)
              rw [HSM.out] at HC
              go_wp2_with fail
              refine (HC.out).mono ?_
              rintro e w10 ⟨rfl, h0⟩
              have X10 := hid (X9.out.trans (h0.mono X9.out.size))
              have A10 := hid ((A9.out.below h0).mono h0.size)
              have B10 := hid ((B9.out.below h0).mono h0.size)
              have C10 := hid ((C9.out.below h0).mono h0.size)
              clear h0 HC X9 A9 B9 C9
              have HC := hid (below_any TA.out TB.out _ _ _ A10.out B10.out)
              rw [Hab.out] at HC
              go_wp2_with fail
              refine (HC.out).mono ?_
              rintro e w11 ⟨rfl, h0⟩
              have X11 := hid (X10.out.trans (h0.mono X10.out.size))
              have A11 := hid ((A10.out.below h0).mono h0.size)
              have B11 := hid ((B10.out.below h0).mono h0.size)
              have C11 := hid ((C10.out.below h0).mono h0.size)
              clear h0 HC X10 A10 B10 C10
              have HC := hid (agree_any TA.out TB.out _ _ _ A11.out B11.out)
              rw [Hg.out] at HC
              go_wp2_with fail
              refine (HC.out).mono ?_
              rintro e w12 ⟨rfl, h0⟩
              have X12 := hid (X11.out.trans (h0.mono X11.out.size))
              have A12 := hid ((A11.out.below h0).mono h0.size)
              have B12 := hid ((B11.out.below h0).mono h0.size)
              have C12 := hid ((C11.out.below h0).mono h0.size)
              clear h0 HC X11 A11 B11 C11
              go_wp2
              go_ret
              exact ⟨rfl, X12.out⟩
      | true =>
        have Hac := hid h_ac
        clear h_ac
        have HC := hid (agree_any TA.out TC.out _ _ _ A2.out C2.out)
        rw [Hac.out] at HC
        go_wp2_with fail
        refine (HC.out).mono ?_
        rintro e w3 ⟨rfl, h0⟩
        have X3 := hid (X2.out.trans (h0.mono X2.out.size))
        have A3 := hid ((A2.out.below h0).mono h0.size)
        have B3 := hid ((B2.out.below h0).mono h0.size)
        have C3 := hid ((C2.out.below h0).mono h0.size)
        clear h0 HC X2 A2 B2 C2
        have HC := hid (agree_any TB.out TC.out _ _ _ B3.out C3.out)
        rw [L.be_mono Hab.out Hac.out] at HC
        go_wp2_with fail
        refine (HC.out).mono ?_
        rintro e w4 ⟨rfl, h0⟩
        have X4 := hid (X3.out.trans (h0.mono X3.out.size))
        have A4 := hid ((A3.out.below h0).mono h0.size)
        have B4 := hid ((B3.out.below h0).mono h0.size)
        have C4 := hid ((C3.out.below h0).mono h0.size)
        clear h0 HC X3 A3 B3 C3
        cases h_sa : L.staticL la with
        | false =>
          have Hsa := hid h_sa
          clear h_sa
          have HC := hid (ref_static la _ _ A4.out)
          rw [Hsa.out] at HC
          go_wp2_with fail
          refine (HC.out).mono ?_
          rintro e w5 ⟨rfl, rfl⟩
          have A5 := A4
          have B5 := B4
          have C5 := C4
          have X5 := X4
          clear HC X4 A4 B4 C4
          have HC := hid (alive_any w5)
          go_wp2_with fail
          refine (HC.out).mono ?_
          rintro e w6 ⟨rfl, h0⟩
          have X6 := hid (X5.out.trans (h0.mono X5.out.size))
          have A6 := hid ((A5.out.below h0).mono h0.size)
          have B6 := hid ((B5.out.below h0).mono h0.size)
          have C6 := hid ((C5.out.below h0).mono h0.size)
          clear h0 HC X5 A5 B5 C5
          cases h_g : L.agF FA FB with
          | false =>
            have Hg := hid h_g
            clear h_g
            have HC := hid (agree_any TA.out TB.out _ _ _ A6.out B6.out)
            rw [Hg.out] at HC
            go_wp2_with fail
            refine (HC.out).mono ?_
            rintro e w7 ⟨rfl, h0⟩
            have X7 := hid (X6.out.trans (h0.mono X6.out.size))
            have A7 := hid ((A6.out.below h0).mono h0.size)
            have B7 := hid ((B6.out.below h0).mono h0.size)
            have C7 := hid ((C6.out.below h0).mono h0.size)
            clear h0 HC X6 A6 B6 C6
            have HC := hid (agree_any TB.out TA.out _ _ _ B7.out A7.out)
            rw [L.ag_symm FB FA] at HC
            rw [Hg.out] at HC
            go_wp2_with fail
            refine (HC.out).mono ?_
            rintro e w8 ⟨rfl, h0⟩
            have X8 := hid (X7.out.trans (h0.mono X7.out.size))
            have A8 := hid ((A7.out.below h0).mono h0.size)
            have B8 := hid ((B7.out.below h0).mono h0.size)
            have C8 := hid ((C7.out.below h0).mono h0.size)
            clear h0 HC X7 A7 B7 C7
            have HC := hid (below_any TA.out TB.out _ _ _ A8.out B8.out)
            rw [Hab.out] at HC
            go_wp2_with fail
            refine (HC.out).mono ?_
            rintro e w9 ⟨rfl, h0⟩
            have X9 := hid (X8.out.trans (h0.mono X8.out.size))
            have A9 := hid ((A8.out.below h0).mono h0.size)
            have B9 := hid ((B8.out.below h0).mono h0.size)
            have C9 := hid ((C8.out.below h0).mono h0.size)
            clear h0 HC X8 A8 B8 C8
            exact absurd (L.be_ag Hab.out) (by rw [Hg.out]; simp)
          | true =>
            have Hg := hid h_g
            clear h_g
            have HC := hid (agree_any TA.out TB.out _ _ _ A6.out B6.out)
            rw [Hg.out] at HC
            go_wp2_with fail
            refine (HC.out).mono ?_
            rintro e w7 ⟨rfl, h0⟩
            have X7 := hid (X6.out.trans (h0.mono X6.out.size))
            have A7 := hid ((A6.out.below h0).mono h0.size)
            have B7 := hid ((B6.out.below h0).mono h0.size)
            have C7 := hid ((C6.out.below h0).mono h0.size)
            clear h0 HC X6 A6 B6 C6
            have HC := hid (agree_any TB.out TA.out _ _ _ B7.out A7.out)
            rw [L.ag_symm FB FA] at HC
            rw [Hg.out] at HC
            go_wp2_with fail
            refine (HC.out).mono ?_
            rintro e w8 ⟨rfl, h0⟩
            have X8 := hid (X7.out.trans (h0.mono X7.out.size))
            have A8 := hid ((A7.out.below h0).mono h0.size)
            have B8 := hid ((B7.out.below h0).mono h0.size)
            have C8 := hid ((C7.out.below h0).mono h0.size)
            clear h0 HC X7 A7 B7 C7
            have HC := hid (below_any TA.out TB.out _ _ _ A8.out B8.out)
            rw [Hab.out] at HC
            go_wp2_with fail
            refine (HC.out).mono ?_
            rintro e w9 ⟨rfl, h0⟩
            have X9 := hid (X8.out.trans (h0.mono X8.out.size))
            have A9 := hid ((A8.out.below h0).mono h0.size)
            have B9 := hid ((B8.out.below h0).mono h0.size)
            have C9 := hid ((C8.out.below h0).mono h0.size)
            clear h0 HC X8 A8 B8 C8
            have HC := hid (agree_any TA.out TB.out _ _ _ A9.out B9.out)
            rw [Hg.out] at HC
            go_wp2_with fail
            refine (HC.out).mono ?_
            rintro e w10 ⟨rfl, h0⟩
            have X10 := hid (X9.out.trans (h0.mono X9.out.size))
            have A10 := hid ((A9.out.below h0).mono h0.size)
            have B10 := hid ((B9.out.below h0).mono h0.size)
            have C10 := hid ((C9.out.below h0).mono h0.size)
            clear h0 HC X9 A9 B9 C9
            go_wp2
            go_ret
            exact ⟨rfl, X10.out⟩
        | true =>
          have Hsa := hid h_sa
          clear h_sa
          have HC := hid (ref_static la _ _ A4.out)
          rw [Hsa.out] at HC
          go_wp2_with fail
          refine (HC.out).mono ?_
          rintro e w5 ⟨rfl, rfl⟩
          have A5 := A4
          have B5 := B4
          have C5 := C4
          have X5 := X4
          clear HC X4 A4 B4 C4
          cases h_sb : L.staticL lb with
          | false =>
            have Hsb := hid h_sb
            clear h_sb
            have HC := hid (ref_static lb _ _ B5.out)
            rw [Hsb.out] at HC
            go_wp2_with fail
            refine (HC.out).mono ?_
            rintro e w6 ⟨rfl, rfl⟩
            have A6 := A5
            have B6 := B5
            have C6 := C5
            have X6 := X5
            clear HC X5 A5 B5 C5
            have HC := hid (alive_any w6)
            go_wp2_with fail
            refine (HC.out).mono ?_
            rintro e w7 ⟨rfl, h0⟩
            have X7 := hid (X6.out.trans (h0.mono X6.out.size))
            have A7 := hid ((A6.out.below h0).mono h0.size)
            have B7 := hid ((B6.out.below h0).mono h0.size)
            have C7 := hid ((C6.out.below h0).mono h0.size)
            clear h0 HC X6 A6 B6 C6
            cases h_g : L.agF FA FB with
            | false =>
              have Hg := hid h_g
              clear h_g
              have HC := hid (agree_any TA.out TB.out _ _ _ A7.out B7.out)
              rw [Hg.out] at HC
              go_wp2_with fail
              refine (HC.out).mono ?_
              rintro e w8 ⟨rfl, h0⟩
              have X8 := hid (X7.out.trans (h0.mono X7.out.size))
              have A8 := hid ((A7.out.below h0).mono h0.size)
              have B8 := hid ((B7.out.below h0).mono h0.size)
              have C8 := hid ((C7.out.below h0).mono h0.size)
              clear h0 HC X7 A7 B7 C7
              have HC := hid (agree_any TB.out TA.out _ _ _ B8.out A8.out)
              rw [L.ag_symm FB FA] at HC
              rw [Hg.out] at HC
              go_wp2_with fail
              refine (HC.out).mono ?_
              rintro e w9 ⟨rfl, h0⟩
              have X9 := hid (X8.out.trans (h0.mono X8.out.size))
              have A9 := hid ((A8.out.below h0).mono h0.size)
              have B9 := hid ((B8.out.below h0).mono h0.size)
              have C9 := hid ((C8.out.below h0).mono h0.size)
              clear h0 HC X8 A8 B8 C8
              have HC := hid (below_any TA.out TB.out _ _ _ A9.out B9.out)
              rw [Hab.out] at HC
              go_wp2_with fail
              refine (HC.out).mono ?_
              rintro e w10 ⟨rfl, h0⟩
              have X10 := hid (X9.out.trans (h0.mono X9.out.size))
              have A10 := hid ((A9.out.below h0).mono h0.size)
              have B10 := hid ((B9.out.below h0).mono h0.size)
              have C10 := hid ((C9.out.below h0).mono h0.size)
              clear h0 HC X9 A9 B9 C9
              exact absurd (L.be_ag Hab.out) (by rw [Hg.out]; simp)
            | true =>
              have Hg := hid h_g
              clear h_g
              have HC := hid (agree_any TA.out TB.out _ _ _ A7.out B7.out)
              rw [Hg.out] at HC
              go_wp2_with fail
              refine (HC.out).mono ?_
              rintro e w8 ⟨rfl, h0⟩
              have X8 := hid (X7.out.trans (h0.mono X7.out.size))
              have A8 := hid ((A7.out.below h0).mono h0.size)
              have B8 := hid ((B7.out.below h0).mono h0.size)
              have C8 := hid ((C7.out.below h0).mono h0.size)
              clear h0 HC X7 A7 B7 C7
              have HC := hid (agree_any TB.out TA.out _ _ _ B8.out A8.out)
              rw [L.ag_symm FB FA] at HC
              rw [Hg.out] at HC
              go_wp2_with fail
              refine (HC.out).mono ?_
              rintro e w9 ⟨rfl, h0⟩
              have X9 := hid (X8.out.trans (h0.mono X8.out.size))
              have A9 := hid ((A8.out.below h0).mono h0.size)
              have B9 := hid ((B8.out.below h0).mono h0.size)
              have C9 := hid ((C8.out.below h0).mono h0.size)
              clear h0 HC X8 A8 B8 C8
              have HC := hid (below_any TA.out TB.out _ _ _ A9.out B9.out)
              rw [Hab.out] at HC
              go_wp2_with fail
              refine (HC.out).mono ?_
              rintro e w10 ⟨rfl, h0⟩
              have X10 := hid (X9.out.trans (h0.mono X9.out.size))
              have A10 := hid ((A9.out.below h0).mono h0.size)
              have B10 := hid ((B9.out.below h0).mono h0.size)
              have C10 := hid ((C9.out.below h0).mono h0.size)
              clear h0 HC X9 A9 B9 C9
              have HC := hid (agree_any TA.out TB.out _ _ _ A10.out B10.out)
              rw [Hg.out] at HC
              go_wp2_with fail
              refine (HC.out).mono ?_
              rintro e w11 ⟨rfl, h0⟩
              have X11 := hid (X10.out.trans (h0.mono X10.out.size))
              have A11 := hid ((A10.out.below h0).mono h0.size)
              have B11 := hid ((B10.out.below h0).mono h0.size)
              have C11 := hid ((C10.out.below h0).mono h0.size)
              clear h0 HC X10 A10 B10 C10
              go_wp2
              go_ret
              exact ⟨rfl, X11.out⟩
          | true =>
            have Hsb := hid h_sb
            clear h_sb
            have HC := hid (ref_static lb _ _ B5.out)
            rw [Hsb.out] at HC
            go_wp2_with fail
            refine (HC.out).mono ?_
            rintro e w6 ⟨rfl, rfl⟩
            have A6 := A5
            have B6 := B5
            have C6 := C5
            have X6 := X5
            clear HC X5 A5 B5 C5
            have HC := hid (alive_any w6)
            go_wp2_with fail
            refine (HC.out).mono ?_
            rintro e w7 ⟨rfl, h0⟩
            have X7 := hid (X6.out.trans (h0.mono X6.out.size))
            have A7 := hid ((A6.out.below h0).mono h0.size)
            have B7 := hid ((B6.out.below h0).mono h0.size)
            have C7 := hid ((C6.out.below h0).mono h0.size)
            clear h0 HC X6 A6 B6 C6
            cases h_g : L.agF FA FB with
            | false =>
              have Hg := hid h_g
              clear h_g
              have HC := hid (agree_any TA.out TB.out _ _ _ A7.out B7.out)
              rw [Hg.out] at HC
              go_wp2_with fail
              refine (HC.out).mono ?_
              rintro e w8 ⟨rfl, h0⟩
              have X8 := hid (X7.out.trans (h0.mono X7.out.size))
              have A8 := hid ((A7.out.below h0).mono h0.size)
              have B8 := hid ((B7.out.below h0).mono h0.size)
              have C8 := hid ((C7.out.below h0).mono h0.size)
              clear h0 HC X7 A7 B7 C7
              have HC := hid (agree_any TB.out TA.out _ _ _ B8.out A8.out)
              rw [L.ag_symm FB FA] at HC
              rw [Hg.out] at HC
              go_wp2_with fail
              refine (HC.out).mono ?_
              rintro e w9 ⟨rfl, h0⟩
              have X9 := hid (X8.out.trans (h0.mono X8.out.size))
              have A9 := hid ((A8.out.below h0).mono h0.size)
              have B9 := hid ((B8.out.below h0).mono h0.size)
              have C9 := hid ((C8.out.below h0).mono h0.size)
              clear h0 HC X8 A8 B8 C8
              have HSM : Hid (L.sameL la lb = false) := hid (by
                have h1 := L.ag_static TA.out.ok TB.out.ok TA.out.plain TB.out.plain (by rw [← TA.out.flat]; exact Hsa.out) (by rw [← TB.out.flat]; exact Hsb.out)
                rw [TA.out.flat, TB.out.flat, L.same_root TA.out.ok TB.out.ok (by rw [L.root_count RA.out, L.root_count RB.out]), ← h1]
                exact Hg.out)
              have HC := hid (agree_any TA.out TB.out _ _ _ A9.out B9.out)
              rw [Hg.out] at HC
              go_wp2_with fail
              refine (HC.out).mono ?_
              rintro e w10 ⟨rfl, h0⟩
              have X10 := hid (X9.out.trans (h0.mono X9.out.size))
              have A10 := hid ((A9.out.below h0).mono h0.size)
              have B10 := hid ((B9.out.below h0).mono h0.size)
              have C10 := hid ((C9.out.below h0).mono h0.size)
              clear h0 HC X9 A9 B9 C9
              have HC := hid (refSame_any la lb _ _ _ A10.out B10.out)
              rw [HSM.out] at HC
              go_wp2_with fail
              refine (HC.out).mono ?_
              rintro e w11 ⟨rfl, h0⟩
              have X11 := hid (X10.out.trans (h0.mono X10.out.size))
              have A11 := hid ((A10.out.below h0).mono h0.size)
              have B11 := hid ((B10.out.below h0).mono h0.size)
              have C11 := hid ((C10.out.below h0).mono h0.size)
              clear h0 HC X10 A10 B10 C10
              have HC := hid (below_any TA.out TB.out _ _ _ A11.out B11.out)
              rw [Hab.out] at HC
              go_wp2_with fail
              refine (HC.out).mono ?_
              rintro e w12 ⟨rfl, h0⟩
              have X12 := hid (X11.out.trans (h0.mono X11.out.size))
              have A12 := hid ((A11.out.below h0).mono h0.size)
              have B12 := hid ((B11.out.below h0).mono h0.size)
              have C12 := hid ((C11.out.below h0).mono h0.size)
              clear h0 HC X11 A11 B11 C11
              exact absurd (L.be_ag Hab.out) (by rw [Hg.out]; simp)
            | true =>
              have Hg := hid h_g
              clear h_g
              have HC := hid (agree_any TA.out TB.out _ _ _ A7.out B7.out)
              rw [Hg.out] at HC
              go_wp2_with fail
              refine (HC.out).mono ?_
              rintro e w8 ⟨rfl, h0⟩
              have X8 := hid (X7.out.trans (h0.mono X7.out.size))
              have A8 := hid ((A7.out.below h0).mono h0.size)
              have B8 := hid ((B7.out.below h0).mono h0.size)
              have C8 := hid ((C7.out.below h0).mono h0.size)
              clear h0 HC X7 A7 B7 C7
              have HC := hid (agree_any TB.out TA.out _ _ _ B8.out A8.out)
              rw [L.ag_symm FB FA] at HC
              rw [Hg.out] at HC
              go_wp2_with fail
              refine (HC.out).mono ?_
              rintro e w9 ⟨rfl, h0⟩
              have X9 := hid (X8.out.trans (h0.mono X8.out.size))
              have A9 := hid ((A8.out.below h0).mono h0.size)
              have B9 := hid ((B8.out.below h0).mono h0.size)
              have C9 := hid ((C8.out.below h0).mono h0.size)
              clear h0 HC X8 A8 B8 C8
              have HSM : Hid (L.sameL la lb = true) := hid (by
                have h1 := L.ag_static TA.out.ok TB.out.ok TA.out.plain TB.out.plain (by rw [← TA.out.flat]; exact Hsa.out) (by rw [← TB.out.flat]; exact Hsb.out)
                rw [TA.out.flat, TB.out.flat, L.same_root TA.out.ok TB.out.ok (by rw [L.root_count RA.out, L.root_count RB.out]), ← h1]
                exact Hg.out)
              have HC := hid (agree_any TA.out TB.out _ _ _ A9.out B9.out)
              rw [Hg.out] at HC
              go_wp2_with fail
              refine (HC.out).mono ?_
              rintro e w10 ⟨rfl, h0⟩
              have X10 := hid (X9.out.trans (h0.mono X9.out.size))
              have A10 := hid ((A9.out.below h0).mono h0.size)
              have B10 := hid ((B9.out.below h0).mono h0.size)
              have C10 := hid ((C9.out.below h0).mono h0.size)
              clear h0 HC X9 A9 B9 C9
              have HC := hid (refSame_any la lb _ _ _ A10.out B10.out)
              rw [HSM.out] at HC
              go_wp2_with fail
              refine (HC.out).mono ?_
              rintro e w11 ⟨rfl, h0⟩
              have X11 := hid (X10.out.trans (h0.mono X10.out.size))
              have A11 := hid ((A10.out.below h0).mono h0.size)
              have B11 := hid ((B10.out.below h0).mono h0.size)
              have C11 := hid ((C10.out.below h0).mono h0.size)
              clear h0 HC X10 A10 B10 C10
              have HC := hid (below_any TA.out TB.out _ _ _ A11.out B11.out)
              rw [Hab.out] at HC
              go_wp2_with fail
              refine (HC.out).mono ?_
              rintro e w12 ⟨rfl, h0⟩
              have X12 := hid (X11.out.trans (h0.mono X11.out.size))
              have A12 := hid ((A11.out.below h0).mono h0.size)
              have B12 := hid ((B11.out.below h0).mono h0.size)
              have C12 := hid ((C11.out.below h0).mono h0.size)
              clear h0 HC X11 A11 B11 C11
              have HC := hid (agree_any TA.out TB.out _ _ _ A12.out B12.out)
              rw [Hg.out] at HC
              go_wp2_with fail
              refine (HC.out).mono ?_
              rintro e w13 ⟨rfl, h0⟩
              have X13 := hid (X12.out.trans (h0.mono X12.out.size))
              have A13 := hid ((A12.out.below h0).mono h0.size)
              have B13 := hid ((B12.out.below h0).mono h0.size)
              have C13 := hid ((C12.out.below h0).mono h0.size)
              clear h0 HC X12 A12 B12 C12
              go_wp2
              go_ret
              exact ⟨rfl, X13.out⟩

set_option maxRecDepth 100000 in
theorem precLess_lifted (os : Os) (started : os.Started) (H : Type) (enc : TypeId × Value → H) :
    ReturnsInHanded {} Try.checked os 7 .any (Rows.precLessSpec.pre6 enc Try.prog Try.f7 Rows.precLessRow.domain false) (Rows.precLessSpec.post enc Try.prog Try.f7 false true false false) := by
  refine returnsInHanded_of_change (C := Try.checked) own started (by kernel_rfl) Try.func7
    (ChangeSpec.witness6 (enc := enc) (C := Try.checked) false ⟨#[], #[.slice none 0 0, .slice none 0 0, .slice none 0 0], []⟩ 8 (by kernel_rfl) (by kernel_rfl) (by kernel_rfl) (by kernel_rfl)) ?_
  intro W base args ds gs before hval0 hW hcnd _
  have hlts := hW.lt
  have hval : ∀ (j : Nat) t v, Try.f7.params[j]? = some t → args[j]? = some v → Value.okWide Try.prog W .any base t v := hval0
  have hW' := hW
  obtain ⟨p, q, hA0, hV, rfl, hfz, hnd⟩ := hW
  have hA : DataW.TrodAll enc Try.prog W 0 (fun _ => true) true Try.f7.params.toList args.toList ds p := hA0
  rw [Try.params7] at hA hval
  obtain ⟨v0, vs0, d0, ds0, p0, q0, hargs0, rfl, rfl, h0, r0⟩ := trodAll_cons hA
  obtain ⟨v1, vs1, d1, ds1, p1, q1, hargs1, rfl, rfl, h1, r1⟩ := trodAll_cons r0
  obtain ⟨v2, vs2, d2, ds2, p2, q2, hargs2, rfl, rfl, h2, r2⟩ := trodAll_cons r1
  obtain ⟨hn, rfl, rfl⟩ := trodAll_nil r2
  obtain rfl : args = #[v0, v1, v2] := by cases args; simp_all
  obtain ⟨rfl, rfl⟩ := trodVars_none hV
  obtain ⟨sa0, sl0, sc0, hsv0⟩ := okWide_slice Try.underlying23 (hval 0 23 v0 rfl rfl)
  obtain ⟨fuel0, hf0⟩ := h0
  obtain ⟨u0, l0, hu0, hR0, hn0⟩ := rd_of_trod hf0
  obtain rfl : v0 = u0 := by
    rw [hsv0] at hu0
    rw [hsv0]
    simpa [Value.cells] using hu0
  obtain ⟨sa1, sl1, sc1, hsv1⟩ := okWide_slice Try.underlying23 (hval 1 23 v1 rfl rfl)
  obtain ⟨fuel1, hf1⟩ := h1
  obtain ⟨u1, l1, hu1, hR1, hn1⟩ := rd_of_trod hf1
  obtain rfl : v1 = u1 := by
    rw [hsv1] at hu1
    rw [hsv1]
    simpa [Value.cells] using hu1
  obtain ⟨sa2, sl2, sc2, hsv2⟩ := okWide_slice Try.underlying23 (hval 2 23 v2 rfl rfl)
  obtain ⟨fuel2, hf2⟩ := h2
  obtain ⟨u2, l2, hu2, hR2, hn2⟩ := rd_of_trod hf2
  obtain rfl : v2 = u2 := by
    rw [hsv2] at hu2
    rw [hsv2]
    simpa [Value.cells] using hu2
  clear hA0 hval0
  simp only [List.append_nil] at hW' hlts
  refine (less_true v0 l0 hR0 v1 l1 hR1 v2 l2 hR2 (W := W)).mono fun e W' ⟨he, hB⟩ => ?_
  subst he
  refine ⟨_, rfl, _, _, _, [], (p0 ++ (p1 ++ (p2 ++ []))), [], by simpa using hW', ?_, ?_, ?_, hB.frame _, fun h => by cases h⟩
  · exact trodAll_cons_mk (shut_bool Try.underlying4 _) trodAll_mk0
  · exact (trodAll_cons_mk (Below.trod (by kernel_rfl) (by kernel_rfl) (of_decide_eq_true (by kernel_rfl)) ⟨fuel0, hf0⟩ hB (fun x hx => hlts x (by simp [hx]))) (trodAll_cons_mk (Below.trod (by kernel_rfl) (by kernel_rfl) (of_decide_eq_true (by kernel_rfl)) ⟨fuel1, hf1⟩ hB (fun x hx => hlts x (by simp [hx]))) (trodAll_cons_mk (Below.trod (by kernel_rfl) (by kernel_rfl) (of_decide_eq_true (by kernel_rfl)) ⟨fuel2, hf2⟩ hB (fun x hx => hlts x (by simp [hx]))) trodAll_mk0)))
  · rfl

/-- PrecLess: the given statement. -/
theorem precLess_holds : Rows.PrecLessSaid :=
  OpenClaim.holds_of_wide 7 Try.f7 rfl rfl rfl rfl rfl rfl rfl ⟨rfl, rfl, rfl, rfl, rfl⟩ rfl rfl rfl rfl rfl (by kernel_rfl) Try.func7 (by kernel_rfl)
    (of_decide_eq_true (by kernel_rfl)) (by unfold Func.isWrapper; first | (rw [if_pos (by decide +kernel)]; kernel_rfl) | (rw [if_neg (by decide +kernel)]; exact ⟨rfl, rfl⟩))
    (fun os started H enc _ => precLess_lifted os started H enc)

end Go.Proofs.Ytpndbgdimkpfjaa.precLess
