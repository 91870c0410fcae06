/-
  PrecParts is true for any two types and text. No conditions.
-/
import Derived.Test.YtpndbgdimkpfjaaRows
import Derived.Test.YtpndbgdimkpfjaaPvLq
import Derived.Test.YtpndbgdimkpfjaaPvZ
import Derived.ProofKit
import Derived.OpenShut
import Derived.Test.YtpndbgdimkpfjaaPvG
namespace Go.Proofs.Ytpndbgdimkpfjaa.precParts
open Go.ChangeShapes Go.WideShapes Go.ChangeAt Go.RowKit
open Go.ChangeMaps (open_string shut_string)

theorem own : ownKnob Try.prog.godebug = none := by kernel_rfl

abbrev Post (w : World) (e : Ending) (w' : World) : Prop := e = .returned (.bool true) ∧ Below w.heap.size w w'

set_option maxHeartbeats 4000000 in
set_option maxRecDepth 100000 in
theorem parts_true {W : World} (va : Value) (la : List L.Nd) (ha : Rd W W.heap.size va la) (vb : Value) (lb : List L.Nd) (hb : Rd W W.heap.size vb lb) (s : ByteArray) (hs : s.size ≤ maxLen) :
    Calls Try.prog 8 #[va, vb, .string s] W (Post W) := by
  have A0 := hid ha
  have B0 := hid hb
  have X0 := hid (Below.refl W.heap.size W)
  have HPL := hid (plain2 va vb la lb W ha hb)
  obtain ⟨Aa, ca, rfl, hca, hcm, -⟩ := ha
  obtain ⟨Ab, cb, rfl, hcb, hcm2, -⟩ := hb
  unfold maxLen at hcm hcm2 hs
  cases hg : allG [(Value.slice Aa la.length ca, la), (Value.slice Ab lb.length cb, lb)] with
  | false =>
    rw [hg] at HPL
    clear hg
    go_enter Try.func8, Try.ntmps8
    go_wp2_with fail
    refine (HPL.out).mono ?_
    rintro e w1 ⟨rfl, h0⟩
    have HC := hid (alive_any w1)
    have X1 := hid h0
    clear h0
    go_wp2_with fail
    refine (HC.out).mono ?_
    rintro e w2 ⟨rfl, h0⟩
    go_wp2
    go_ret
    exact ⟨rfl, X1.out.trans (h0.mono X1.out.size)⟩
  | true =>
    rw [hg] at HPL
    obtain ⟨hga, hgb⟩ := all2 hg
    obtain ⟨FA, rfl, GA⟩ := good_gd hga
    obtain ⟨FB, rfl, GB⟩ := good_gd hgb
    have GA := hid GA
    have GB := hid GB
    have TA := hid (GA.out.ty (by omega))
    have TB := hid (GB.out.ty (by omega))
    clear hg hga hgb
    have hpa := fo_pos TA.out.ne
    have hpb := fo_pos TB.out.ne
    by_cases h100 : 100 < s.size
    · go_enter Try.func8, Try.ntmps8
      go_wp2_with fail
      refine (HPL.out).mono ?_
      rintro e w1 ⟨rfl, h0⟩
      have HC := hid (alive_any w1)
      have X1 := hid h0
      clear h0
      go_wp2_with fail
      refine (HC.out).mono ?_
      rintro e w2 ⟨rfl, h0⟩
      go_wp2
      go_ret
      exact ⟨rfl, X1.out.trans (h0.mono X1.out.size)⟩
    have h100' : s.size ≤ 100 := by omega
    clear h100
    go_enter Try.func8, Try.ntmps8
    go_wp2_with fail
    refine (HPL.out).mono ?_
    rintro e w1 ⟨rfl, h0⟩
    have HC := HPL
    have X1 := hid (X0.out.trans (h0.mono X0.out.size))
    have A1 := hid ((A0.out.below h0).mono h0.size)
    have B1 := hid ((B0.out.below h0).mono h0.size)
    clear h0 HC X0 A0 B0
    clear HPL
    cases h_ab : L.beF FA FB with
    | false =>
      have Hab := hid h_ab
      clear h_ab
      have HC := hid (below_any TA.out TB.out _ _ _ A1.out B1.out)
      rw [Hab.out] at HC
      go_wp2_with fail
      refine (HC.out).mono ?_
      rintro e w2 ⟨rfl, h0⟩
      have X2 := hid (X1.out.trans (h0.mono X1.out.size))
      have A2 := hid ((A1.out.below h0).mono h0.size)
      have B2 := hid ((B1.out.below h0).mono h0.size)
      clear h0 HC X1 A1 B1
      have HC := hid (alive_any w2)
      go_wp2_with fail
      refine (HC.out).mono ?_
      rintro e w3 ⟨rfl, h0⟩
      have X3 := hid (X2.out.trans (h0.mono X2.out.size))
      have A3 := hid ((A2.out.below h0).mono h0.size)
      have B3 := hid ((B2.out.below h0).mono h0.size)
      clear h0 HC X2 A2 B2
      go_wp2
      go_ret
      exact ⟨rfl, X3.out⟩
    | true =>
      have Hab := hid h_ab
      clear h_ab
      have HC := hid (below_any TA.out TB.out _ _ _ A1.out B1.out)
      rw [Hab.out] at HC
      go_wp2_with fail
      refine (HC.out).mono ?_
      rintro e w2 ⟨rfl, h0⟩
      have X2 := hid (X1.out.trans (h0.mono X1.out.size))
      have A2 := hid ((A1.out.below h0).mono h0.size)
      have B2 := hid ((B1.out.below h0).mono h0.size)
      clear h0 HC X1 A1 B1
      cases h_ca : L.callF FA with
      | none =>
        have Hca := hid h_ca
        clear h_ca
        have HC := hid (call_no GA.out (by omega) Hca.out _ _ A2.out)
        go_wp2_with fail
        refine (HC.out).mono ?_
        rintro e w3 ⟨rfl, rfl⟩
        have A3 := A2
        have B3 := B2
        have X3 := X2
        clear HC X2 A2 B2
        cases h_cb : L.callF FB with
        | none =>
          have Hcb := hid h_cb
          clear h_cb
          have HC := hid (call_no GB.out (by omega) Hcb.out _ _ B3.out)
          go_wp2_with fail
          refine (HC.out).mono ?_
          rintro e w4 ⟨rfl, rfl⟩
          have A4 := A3
          have B4 := B3
          have X4 := X3
          clear HC X3 A3 B3
          cases h_fa : L.fieldF s FA with
          | none =>
            have Hfa := hid h_fa
            clear h_fa
            have HC := hid (field_no GA.out (by omega) s Hfa.out _ _ A4.out)
            go_wp2_with fail
            refine (HC.out).mono ?_
            rintro e w5 ⟨rfl, h0⟩
            have X5 := hid (X4.out.trans (h0.mono X4.out.size))
            have A5 := hid ((A4.out.below h0).mono h0.size)
            have B5 := hid ((B4.out.below h0).mono h0.size)
            clear h0 HC X4 A4 B4
            cases h_fb : L.fieldF s FB with
            | none =>
              have Hfb := hid h_fb
              clear h_fb
              have HC := hid (field_no GB.out (by omega) s Hfb.out _ _ B5.out)
              go_wp2_with fail
              refine (HC.out).mono ?_
              rintro e w6 ⟨rfl, h0⟩
              have X6 := hid (X5.out.trans (h0.mono X5.out.size))
              have A6 := hid ((A5.out.below h0).mono h0.size)
              have B6 := hid ((B5.out.below h0).mono h0.size)
              clear h0 HC X5 A5 B5
              have HC := hid (alive_any w6)
              go_wp2_with fail
              refine (HC.out).mono ?_
              rintro e w7 ⟨rfl, h0⟩
              have X7 := hid (X6.out.trans (h0.mono X6.out.size))
              have A7 := hid ((A6.out.below h0).mono h0.size)
              have B7 := hid ((B6.out.below h0).mono h0.size)
              clear h0 HC X6 A6 B6
              go_wp2
              go_ret
              exact ⟨rfl, X7.out⟩
            | some FQ =>
              have Hfb := hid h_fb
              clear h_fb
              have HC := hid (field_yes GB.out (by omega) s Hfb.out _ _ B5.out)
              go_wp2_with fail
              refine (HC.out).mono ?_
              rintro e w6 ⟨vq, rfl, oq, h0⟩
              obtain ⟨Aq, cq, rfl, hcq, hmq, -⟩ := oq.rd
              unfold maxLen at hmq
              have q6 := hid oq
              clear oq
              have X6 := hid (X5.out.trans (h0.mono X5.out.size))
              have A6 := hid ((A5.out.below h0).mono h0.size)
              have B6 := hid ((B5.out.below h0).mono h0.size)
              clear h0 HC X5 A5 B5
              have HC := hid (alive_any w6)
              go_wp2_with fail
              refine (HC.out).mono ?_
              rintro e w7 ⟨rfl, h0⟩
              have X7 := hid (X6.out.trans (h0.mono X6.out.size))
              have A7 := hid ((A6.out.below h0).mono h0.size)
              have B7 := hid ((B6.out.below h0).mono h0.size)
              have q7 := hid (q6.out.below h0)
              clear h0 HC X6 A6 B6 q6
              go_wp2
              go_ret
              exact ⟨rfl, X7.out⟩
          | some FP =>
            have Hfa := hid h_fa
            clear h_fa
            obtain ⟨FQ, hfq, hbq⟩ := field_be GA.out GB.out Hab.out Hfa.out
            have Hfb := hid hfq
            have Hbq := hid hbq
            have Gp := hid (field_gd GA.out Hfa.out)
            have Gq := hid (field_gd GB.out Hfb.out)
            have Tp := hid (Gp.out.ty (by omega))
            have Tq := hid (Gq.out.ty (by omega))
            clear hfq hbq
            have HC := hid (field_yes GA.out (by omega) s Hfa.out _ _ A4.out)
            go_wp2_with fail
            refine (HC.out).mono ?_
            rintro e w5 ⟨vp, rfl, op, h0⟩
            obtain ⟨Ap, cp, rfl, hcp, hmp, -⟩ := op.rd
            unfold maxLen at hmp
            have p5 := hid op
            clear op
            have X5 := hid (X4.out.trans (h0.mono X4.out.size))
            have A5 := hid ((A4.out.below h0).mono h0.size)
            have B5 := hid ((B4.out.below h0).mono h0.size)
            clear h0 HC X4 A4 B4
            have HC := hid (field_yes GB.out (by omega) s Hfb.out _ _ B5.out)
            go_wp2_with fail
            refine (HC.out).mono ?_
            rintro e w6 ⟨vq, rfl, oq, h0⟩
            obtain ⟨Aq, cq, rfl, hcq, hmq, -⟩ := oq.rd
            unfold maxLen at hmq
            have q6 := hid oq
            clear oq
            have X6 := hid (X5.out.trans (h0.mono X5.out.size))
            have A6 := hid ((A5.out.below h0).mono h0.size)
            have B6 := hid ((B5.out.below h0).mono h0.size)
            have p6 := hid (p5.out.below h0)
            clear h0 HC X5 A5 B5 p5
            have HC := hid (alive_any w6)
            go_wp2_with fail
            refine (HC.out).mono ?_
            rintro e w7 ⟨rfl, h0⟩
            have X7 := hid (X6.out.trans (h0.mono X6.out.size))
            have A7 := hid ((A6.out.below h0).mono h0.size)
            have B7 := hid ((B6.out.below h0).mono h0.size)
            have p7 := hid (p6.out.below h0)
            have q7 := hid (q6.out.below h0)
            clear h0 HC X6 A6 B6 p6 q6
            have HC := hid (plain2 _ _ _ _ _ p7.out.rd q7.out.rd)
            rw [allG2 Gp.out Gq.out] at HC
            go_wp2_with fail
            refine (HC.out).mono ?_
            rintro e w8 ⟨rfl, h0⟩
            have X8 := hid (X7.out.trans (h0.mono X7.out.size))
            have A8 := hid ((A7.out.below h0).mono h0.size)
            have B8 := hid ((B7.out.below h0).mono h0.size)
            have p8 := hid (p7.out.below h0)
            have q8 := hid (q7.out.below h0)
            clear h0 HC X7 A7 B7 p7 q7
            have HC := hid (below_any Tp.out Tq.out _ _ _ p8.out.rd q8.out.rd)
            rw [Hbq.out] at HC
            go_wp2_with fail
            refine (HC.out).mono ?_
            rintro e w9 ⟨rfl, h0⟩
            have X9 := hid (X8.out.trans (h0.mono X8.out.size))
            have A9 := hid ((A8.out.below h0).mono h0.size)
            have B9 := hid ((B8.out.below h0).mono h0.size)
            have p9 := hid (p8.out.below h0)
            have q9 := hid (q8.out.below h0)
            clear h0 HC X8 A8 B8 p8 q8
            go_wp2
            go_ret
            exact ⟨rfl, X9.out⟩
        | some pq =>
          have Hcb := hid h_cb
          clear h_cb
          obtain ⟨U, V⟩ := pq
          have HC := hid (call_yes GB.out (by omega) Hcb.out _ _ B3.out)
          go_wp2_with fail
          refine (HC.out).mono ?_
          rintro e w4 ⟨vu, vv, rfl, ou, ov, h0⟩
          obtain ⟨Au, cu, rfl, hcu, hmu, -⟩ := ou.rd
          unfold maxLen at hmu
          obtain ⟨Av, cv, rfl, hcv, hmv, -⟩ := ov.rd
          unfold maxLen at hmv
          have u4 := hid ou
          have v4 := hid ov
          clear ou ov
          have X4 := hid (X3.out.trans (h0.mono X3.out.size))
          have A4 := hid ((A3.out.below h0).mono h0.size)
          have B4 := hid ((B3.out.below h0).mono h0.size)
          clear h0 HC X3 A3 B3
          cases h_fa : L.fieldF s FA with
          | none =>
            have Hfa := hid h_fa
            clear h_fa
            have HC := hid (field_no GA.out (by omega) s Hfa.out _ _ A4.out)
            go_wp2_with fail
            refine (HC.out).mono ?_
            rintro e w5 ⟨rfl, h0⟩
            have X5 := hid (X4.out.trans (h0.mono X4.out.size))
            have A5 := hid ((A4.out.below h0).mono h0.size)
            have B5 := hid ((B4.out.below h0).mono h0.size)
            have u5 := hid (u4.out.below h0)
            have v5 := hid (v4.out.below h0)
            clear h0 HC X4 A4 B4 u4 v4
            cases h_fb : L.fieldF s FB with
            | none =>
              have Hfb := hid h_fb
              clear h_fb
              have HC := hid (field_no GB.out (by omega) s Hfb.out _ _ B5.out)
              go_wp2_with fail
              refine (HC.out).mono ?_
              rintro e w6 ⟨rfl, h0⟩
              have X6 := hid (X5.out.trans (h0.mono X5.out.size))
              have A6 := hid ((A5.out.below h0).mono h0.size)
              have B6 := hid ((B5.out.below h0).mono h0.size)
              have u6 := hid (u5.out.below h0)
              have v6 := hid (v5.out.below h0)
              clear h0 HC X5 A5 B5 u5 v5
              have HC := hid (alive_any w6)
              go_wp2_with fail
              refine (HC.out).mono ?_
              rintro e w7 ⟨rfl, h0⟩
              have X7 := hid (X6.out.trans (h0.mono X6.out.size))
              have A7 := hid ((A6.out.below h0).mono h0.size)
              have B7 := hid ((B6.out.below h0).mono h0.size)
              have u7 := hid (u6.out.below h0)
              have v7 := hid (v6.out.below h0)
              clear h0 HC X6 A6 B6 u6 v6
              go_wp2
              go_ret
              exact ⟨rfl, X7.out⟩
            | some FQ =>
              have Hfb := hid h_fb
              clear h_fb
              have HC := hid (field_yes GB.out (by omega) s Hfb.out _ _ B5.out)
              go_wp2_with fail
              refine (HC.out).mono ?_
              rintro e w6 ⟨vq, rfl, oq, h0⟩
              obtain ⟨Aq, cq, rfl, hcq, hmq, -⟩ := oq.rd
              unfold maxLen at hmq
              have q6 := hid oq
              clear oq
              have X6 := hid (X5.out.trans (h0.mono X5.out.size))
              have A6 := hid ((A5.out.below h0).mono h0.size)
              have B6 := hid ((B5.out.below h0).mono h0.size)
              have u6 := hid (u5.out.below h0)
              have v6 := hid (v5.out.below h0)
              clear h0 HC X5 A5 B5 u5 v5
              have HC := hid (alive_any w6)
              go_wp2_with fail
              refine (HC.out).mono ?_
              rintro e w7 ⟨rfl, h0⟩
              have X7 := hid (X6.out.trans (h0.mono X6.out.size))
              have A7 := hid ((A6.out.below h0).mono h0.size)
              have B7 := hid ((B6.out.below h0).mono h0.size)
              have u7 := hid (u6.out.below h0)
              have v7 := hid (v6.out.below h0)
              have q7 := hid (q6.out.below h0)
              clear h0 HC X6 A6 B6 u6 v6 q6
              go_wp2
              go_ret
              exact ⟨rfl, X7.out⟩
          | some FP =>
            have Hfa := hid h_fa
            clear h_fa
            obtain ⟨FQ, hfq, hbq⟩ := field_be GA.out GB.out Hab.out Hfa.out
            have Hfb := hid hfq
            have Hbq := hid hbq
            have Gp := hid (field_gd GA.out Hfa.out)
            have Gq := hid (field_gd GB.out Hfb.out)
            have Tp := hid (Gp.out.ty (by omega))
            have Tq := hid (Gq.out.ty (by omega))
            clear hfq hbq
            have HC := hid (field_yes GA.out (by omega) s Hfa.out _ _ A4.out)
            go_wp2_with fail
            refine (HC.out).mono ?_
            rintro e w5 ⟨vp, rfl, op, h0⟩
            obtain ⟨Ap, cp, rfl, hcp, hmp, -⟩ := op.rd
            unfold maxLen at hmp
            have p5 := hid op
            clear op
            have X5 := hid (X4.out.trans (h0.mono X4.out.size))
            have A5 := hid ((A4.out.below h0).mono h0.size)
            have B5 := hid ((B4.out.below h0).mono h0.size)
            have u5 := hid (u4.out.below h0)
            have v5 := hid (v4.out.below h0)
            clear h0 HC X4 A4 B4 u4 v4
            have HC := hid (field_yes GB.out (by omega) s Hfb.out _ _ B5.out)
            go_wp2_with fail
            refine (HC.out).mono ?_
            rintro e w6 ⟨vq, rfl, oq, h0⟩
            obtain ⟨Aq, cq, rfl, hcq, hmq, -⟩ := oq.rd
            unfold maxLen at hmq
            have q6 := hid oq
            clear oq
            have X6 := hid (X5.out.trans (h0.mono X5.out.size))
            have A6 := hid ((A5.out.below h0).mono h0.size)
            have B6 := hid ((B5.out.below h0).mono h0.size)
            have u6 := hid (u5.out.below h0)
            have v6 := hid (v5.out.below h0)
            have p6 := hid (p5.out.below h0)
            clear h0 HC X5 A5 B5 u5 v5 p5
            have HC := hid (alive_any w6)
            go_wp2_with fail
            refine (HC.out).mono ?_
            rintro e w7 ⟨rfl, h0⟩
            have X7 := hid (X6.out.trans (h0.mono X6.out.size))
            have A7 := hid ((A6.out.below h0).mono h0.size)
            have B7 := hid ((B6.out.below h0).mono h0.size)
            have u7 := hid (u6.out.below h0)
            have v7 := hid (v6.out.below h0)
            have p7 := hid (p6.out.below h0)
            have q7 := hid (q6.out.below h0)
            clear h0 HC X6 A6 B6 u6 v6 p6 q6
            have HC := hid (plain2 _ _ _ _ _ p7.out.rd q7.out.rd)
            rw [allG2 Gp.out Gq.out] at HC
            go_wp2_with fail
            refine (HC.out).mono ?_
            rintro e w8 ⟨rfl, h0⟩
            have X8 := hid (X7.out.trans (h0.mono X7.out.size))
            have A8 := hid ((A7.out.below h0).mono h0.size)
            have B8 := hid ((B7.out.below h0).mono h0.size)
            have u8 := hid (u7.out.below h0)
            have v8 := hid (v7.out.below h0)
            have p8 := hid (p7.out.below h0)
            have q8 := hid (q7.out.below h0)
            clear h0 HC X7 A7 B7 u7 v7 p7 q7
            have HC := hid (below_any Tp.out Tq.out _ _ _ p8.out.rd q8.out.rd)
            rw [Hbq.out] at HC
            go_wp2_with fail
            refine (HC.out).mono ?_
            rintro e w9 ⟨rfl, h0⟩
            have X9 := hid (X8.out.trans (h0.mono X8.out.size))
            have A9 := hid ((A8.out.below h0).mono h0.size)
            have B9 := hid ((B8.out.below h0).mono h0.size)
            have u9 := hid (u8.out.below h0)
            have v9 := hid (v8.out.below h0)
            have p9 := hid (p8.out.below h0)
            have q9 := hid (q8.out.below h0)
            clear h0 HC X8 A8 B8 u8 v8 p8 q8
            go_wp2
            go_ret
            exact ⟨rfl, X9.out⟩
      | some pq =>
        have Hca := hid h_ca
        clear h_ca
        obtain ⟨FX, FY⟩ := pq
        obtain ⟨FU, FV, hcb, hb1, hb2⟩ := call_be GA.out GB.out Hab.out Hca.out
        have Hcb := hid hcb
        have Hb1 := hid hb1
        have Hb2 := hid hb2
        have Gx := hid (call_gd GA.out Hca.out).1
        have Gy := hid (call_gd GA.out Hca.out).2
        have Gu := hid (call_gd GB.out Hcb.out).1
        have Gv := hid (call_gd GB.out Hcb.out).2
        have Tx := hid (Gx.out.ty (by omega))
        have Ty := hid (Gy.out.ty (by omega))
        have Tu := hid (Gu.out.ty (by omega))
        have Tv := hid (Gv.out.ty (by omega))
        clear hcb hb1 hb2
        have HC := hid (call_yes GA.out (by omega) Hca.out _ _ A2.out)
        go_wp2_with fail
        refine (HC.out).mono ?_
        rintro e w3 ⟨vx, vy, rfl, ox, oy, h0⟩
        obtain ⟨Ax, cx, rfl, hcx, hmx, -⟩ := ox.rd
        unfold maxLen at hmx
        obtain ⟨Ay, cy, rfl, hcy, hmy, -⟩ := oy.rd
        unfold maxLen at hmy
        have x3 := hid ox
        have y3 := hid oy
        clear ox oy
        have X3 := hid (X2.out.trans (h0.mono X2.out.size))
        have A3 := hid ((A2.out.below h0).mono h0.size)
        have B3 := hid ((B2.out.below h0).mono h0.size)
        clear h0 HC X2 A2 B2
        have HC := hid (call_yes GB.out (by omega) Hcb.out _ _ B3.out)
        go_wp2_with fail
        refine (HC.out).mono ?_
        rintro e w4 ⟨vu, vv, rfl, ou, ov, h0⟩
        obtain ⟨Au, cu, rfl, hcu, hmu, -⟩ := ou.rd
        unfold maxLen at hmu
        obtain ⟨Av, cv, rfl, hcv, hmv, -⟩ := ov.rd
        unfold maxLen at hmv
        have u4 := hid ou
        have v4 := hid ov
        clear ou ov
        have X4 := hid (X3.out.trans (h0.mono X3.out.size))
        have A4 := hid ((A3.out.below h0).mono h0.size)
        have B4 := hid ((B3.out.below h0).mono h0.size)
        have x4 := hid (x3.out.below h0)
        have y4 := hid (y3.out.below h0)
        clear h0 HC X3 A3 B3 x3 y3
        have HC := hid (plain4 _ _ _ _ _ _ _ _ _ x4.out.rd y4.out.rd u4.out.rd v4.out.rd)
        rw [allG4 Gx.out Gy.out Gu.out Gv.out] at HC
        go_wp2_with fail
        refine (HC.out).mono ?_
        rintro e w5 ⟨rfl, h0⟩
        have X5 := hid (X4.out.trans (h0.mono X4.out.size))
        have A5 := hid ((A4.out.below h0).mono h0.size)
        have B5 := hid ((B4.out.below h0).mono h0.size)
        have x5 := hid (x4.out.below h0)
        have y5 := hid (y4.out.below h0)
        have u5 := hid (u4.out.below h0)
        have v5 := hid (v4.out.below h0)
        clear h0 HC X4 A4 B4 x4 y4 u4 v4
        have HC := hid (below_any Tx.out Tu.out _ _ _ x5.out.rd u5.out.rd)
        rw [Hb1.out] at HC
        go_wp2_with fail
        refine (HC.out).mono ?_
        rintro e w6 ⟨rfl, h0⟩
        have X6 := hid (X5.out.trans (h0.mono X5.out.size))
        have A6 := hid ((A5.out.below h0).mono h0.size)
        have B6 := hid ((B5.out.below h0).mono h0.size)
        have x6 := hid (x5.out.below h0)
        have y6 := hid (y5.out.below h0)
        have u6 := hid (u5.out.below h0)
        have v6 := hid (v5.out.below h0)
        clear h0 HC X5 A5 B5 x5 y5 u5 v5
        have HC := hid (below_any Ty.out Tv.out _ _ _ y6.out.rd v6.out.rd)
        rw [Hb2.out] at HC
        go_wp2_with fail
        refine (HC.out).mono ?_
        rintro e w7 ⟨rfl, h0⟩
        have X7 := hid (X6.out.trans (h0.mono X6.out.size))
        have A7 := hid ((A6.out.below h0).mono h0.size)
        have B7 := hid ((B6.out.below h0).mono h0.size)
        have x7 := hid (x6.out.below h0)
        have y7 := hid (y6.out.below h0)
        have u7 := hid (u6.out.below h0)
        have v7 := hid (v6.out.below h0)
        clear h0 HC X6 A6 B6 x6 y6 u6 v6
        clear x7 y7 u7 v7
        cases h_fa : L.fieldF s FA with
        | none =>
          have Hfa := hid h_fa
          clear h_fa
          have HC := hid (field_no GA.out (by omega) s Hfa.out _ _ A7.out)
          go_wp2_with fail
          refine (HC.out).mono ?_
          rintro e w8 ⟨rfl, h0⟩
          have X8 := hid (X7.out.trans (h0.mono X7.out.size))
          have A8 := hid ((A7.out.below h0).mono h0.size)
          have B8 := hid ((B7.out.below h0).mono h0.size)
          clear h0 HC X7 A7 B7
          cases h_fb : L.fieldF s FB with
          | none =>
            have Hfb := hid h_fb
            clear h_fb
            have HC := hid (field_no GB.out (by omega) s Hfb.out _ _ B8.out)
            go_wp2_with fail
            refine (HC.out).mono ?_
            rintro e w9 ⟨rfl, h0⟩
            have X9 := hid (X8.out.trans (h0.mono X8.out.size))
            have A9 := hid ((A8.out.below h0).mono h0.size)
            have B9 := hid ((B8.out.below h0).mono h0.size)
            clear h0 HC X8 A8 B8
            have HC := hid (alive_any w9)
            go_wp2_with fail
            refine (HC.out).mono ?_
            rintro e w10 ⟨rfl, h0⟩
            have X10 := hid (X9.out.trans (h0.mono X9.out.size))
            have A10 := hid ((A9.out.below h0).mono h0.size)
            have B10 := hid ((B9.out.below h0).mono h0.size)
            clear h0 HC X9 A9 B9
            go_wp2
            go_ret
            exact ⟨rfl, X10.out⟩
          | some FQ =>
            have Hfb := hid h_fb
            clear h_fb
            have HC := hid (field_yes GB.out (by omega) s Hfb.out _ _ B8.out)
            go_wp2_with fail
            refine (HC.out).mono ?_
            rintro e w9 ⟨vq, rfl, oq, h0⟩
            obtain ⟨Aq, cq, rfl, hcq, hmq, -⟩ := oq.rd
            unfold maxLen at hmq
            have q9 := hid oq
            clear oq
            have X9 := hid (X8.out.trans (h0.mono X8.out.size))
            have A9 := hid ((A8.out.below h0).mono h0.size)
            have B9 := hid ((B8.out.below h0).mono h0.size)
            clear h0 HC X8 A8 B8
            have HC := hid (alive_any w9)
            go_wp2_with fail
            refine (HC.out).mono ?_
            rintro e w10 ⟨rfl, h0⟩
            have X10 := hid (X9.out.trans (h0.mono X9.out.size))
            have A10 := hid ((A9.out.below h0).mono h0.size)
            have B10 := hid ((B9.out.below h0).mono h0.size)
            have q10 := hid (q9.out.below h0)
            clear h0 HC X9 A9 B9 q9
            go_wp2
            go_ret
            exact ⟨rfl, X10.out⟩
        | some FP =>
          have Hfa := hid h_fa
          clear h_fa
          obtain ⟨FQ, hfq, hbq⟩ := field_be GA.out GB.out Hab.out Hfa.out
          have Hfb := hid hfq
          have Hbq := hid hbq
          have Gp := hid (field_gd GA.out Hfa.out)
          have Gq := hid (field_gd GB.out Hfb.out)
          have Tp := hid (Gp.out.ty (by omega))
          have Tq := hid (Gq.out.ty (by omega))
          clear hfq hbq
          have HC := hid (field_yes GA.out (by omega) s Hfa.out _ _ A7.out)
          go_wp2_with fail
          refine (HC.out).mono ?_
          rintro e w8 ⟨vp, rfl, op, h0⟩
          obtain ⟨Ap, cp, rfl, hcp, hmp, -⟩ := op.rd
          unfold maxLen at hmp
          have p8 := hid op
          clear op
          have X8 := hid (X7.out.trans (h0.mono X7.out.size))
          have A8 := hid ((A7.out.below h0).mono h0.size)
          have B8 := hid ((B7.out.below h0).mono h0.size)
          clear h0 HC X7 A7 B7
          have HC := hid (field_yes GB.out (by omega) s Hfb.out _ _ B8.out)
          go_wp2_with fail
          refine (HC.out).mono ?_
          rintro e w9 ⟨vq, rfl, oq, h0⟩
          obtain ⟨Aq, cq, rfl, hcq, hmq, -⟩ := oq.rd
          unfold maxLen at hmq
          have q9 := hid oq
          clear oq
          have X9 := hid (X8.out.trans (h0.mono X8.out.size))
          have A9 := hid ((A8.out.below h0).mono h0.size)
          have B9 := hid ((B8.out.below h0).mono h0.size)
          have p9 := hid (p8.out.below h0)
          clear h0 HC X8 A8 B8 p8
          have HC := hid (alive_any w9)
          go_wp2_with fail
          refine (HC.out).mono ?_
          rintro e w10 ⟨rfl, h0⟩
          have X10 := hid (X9.out.trans (h0.mono X9.out.size))
          have A10 := hid ((A9.out.below h0).mono h0.size)
          have B10 := hid ((B9.out.below h0).mono h0.size)
          have p10 := hid (p9.out.below h0)
          have q10 := hid (q9.out.below h0)
          clear h0 HC X9 A9 B9 p9 q9
          have HC := hid (plain2 _ _ _ _ _ p10.out.rd q10.out.rd)
          rw [allG2 Gp.out Gq.out] at HC
          go_wp2_with fail
          refine (HC.out).mono ?_
          rintro e w11 ⟨rfl, h0⟩
          have X11 := hid (X10.out.trans (h0.mono X10.out.size))
          have A11 := hid ((A10.out.below h0).mono h0.size)
          have B11 := hid ((B10.out.below h0).mono h0.size)
          have p11 := hid (p10.out.below h0)
          have q11 := hid (q10.out.below h0)
          clear h0 HC X10 A10 B10 p10 q10
          have HC := hid (below_any Tp.out Tq.out _ _ _ p11.out.rd q11.out.rd)
          rw [Hbq.out] at HC
          go_wp2_with fail
          refine (HC.out).mono ?_
          rintro e w12 ⟨rfl, h0⟩
          have X12 := hid (X11.out.trans (h0.mono X11.out.size))
          have A12 := hid ((A11.out.below h0).mono h0.size)
          have B12 := hid ((B11.out.below h0).mono h0.size)
          have p12 := hid (p11.out.below h0)
          have q12 := hid (q11.out.below h0)
          clear h0 HC X11 A11 B11 p11 q11
          go_wp2
          go_ret
          exact ⟨rfl, X12.out⟩

set_option maxRecDepth 100000 in
theorem precParts_lifted (os : Os) (started : os.Started) (H : Type) (enc : TypeId × Value → H) :
    ReturnsInHanded {} Try.checked os 8 .any (Rows.precPartsSpec.pre6 enc Try.prog Try.f8 Rows.precPartsRow.domain false) (Rows.precPartsSpec.post enc Try.prog Try.f8 false true false false) := by
  refine returnsInHanded_of_change (C := Try.checked) own started (by kernel_rfl) Try.func8
    (ChangeSpec.witness6 (enc := enc) (C := Try.checked) false ⟨#[], #[.slice none 0 0, .slice none 0 0, .string ⟨#[]⟩], []⟩ 8 (by kernel_rfl) (by kernel_rfl) (by kernel_rfl) (by kernel_rfl)) ?_
  intro W base args ds gs before hval0 hW hcnd _
  have hlts := hW.lt
  have hval : ∀ (j : Nat) t v, Try.f8.params[j]? = some t → args[j]? = some v → Value.okWide Try.prog W .any base t v := hval0
  have hW' := hW
  obtain ⟨p, q, hA0, hV, rfl, hfz, hnd⟩ := hW
  have hA : DataW.TrodAll enc Try.prog W 0 (fun _ => true) true Try.f8.params.toList args.toList ds p := hA0
  rw [Try.params8] at hA hval
  obtain ⟨v0, vs0, d0, ds0, p0, q0, hargs0, rfl, rfl, h0, r0⟩ := trodAll_cons hA
  obtain ⟨v1, vs1, d1, ds1, p1, q1, hargs1, rfl, rfl, h1, r1⟩ := trodAll_cons r0
  obtain ⟨v2, vs2, d2, ds2, p2, q2, hargs2, rfl, rfl, h2, r2⟩ := trodAll_cons r1
  obtain ⟨hn, rfl, rfl⟩ := trodAll_nil r2
  obtain rfl : args = #[v0, v1, v2] := by cases args; simp_all
  obtain ⟨rfl, rfl⟩ := trodVars_none hV
  obtain ⟨sa0, sl0, sc0, hsv0⟩ := okWide_slice Try.underlying23 (hval 0 23 v0 rfl rfl)
  obtain ⟨fuel0, hf0⟩ := h0
  obtain ⟨u0, l0, hu0, hR0, hn0⟩ := rd_of_trod hf0
  obtain rfl : v0 = u0 := by
    rw [hsv0] at hu0
    rw [hsv0]
    simpa [Value.cells] using hu0
  obtain ⟨sa1, sl1, sc1, hsv1⟩ := okWide_slice Try.underlying23 (hval 1 23 v1 rfl rfl)
  obtain ⟨fuel1, hf1⟩ := h1
  obtain ⟨u1, l1, hu1, hR1, hn1⟩ := rd_of_trod hf1
  obtain rfl : v1 = u1 := by
    rw [hsv1] at hu1
    rw [hsv1]
    simpa [Value.cells] using hu1
  obtain ⟨a2, rfl, rfl, rfl, w2⟩ := open_string Try.underlying9 (hval 2 9 v2 rfl rfl) h2
  clear hA0 hval0
  simp only [List.append_nil] at hW' hlts
  refine (parts_true v0 l0 hR0 v1 l1 hR1 a2 w2 (W := W)).mono fun e W' ⟨he, hB⟩ => ?_
  subst he
  refine ⟨_, rfl, _, _, _, [], (p0 ++ (p1 ++ ([] ++ []))), [], by simpa using hW', ?_, ?_, ?_, hB.frame _, fun h => by cases h⟩
  · exact trodAll_cons_mk (shut_bool Try.underlying4 _) trodAll_mk0
  · exact (trodAll_cons_mk (Below.trod (by kernel_rfl) (by kernel_rfl) (of_decide_eq_true (by kernel_rfl)) ⟨fuel0, hf0⟩ hB (fun x hx => hlts x (by simp [hx]))) (trodAll_cons_mk (Below.trod (by kernel_rfl) (by kernel_rfl) (of_decide_eq_true (by kernel_rfl)) ⟨fuel1, hf1⟩ hB (fun x hx => hlts x (by simp [hx]))) (trodAll_cons_mk (shut_string Try.underlying9 w2) trodAll_mk0)))
  · rfl

/-- PrecParts: the given statement. -/
theorem precParts_holds : Rows.PrecPartsSaid :=
  OpenClaim.holds_of_wide 8 Try.f8 rfl rfl rfl rfl rfl rfl rfl ⟨rfl, rfl, rfl, rfl, rfl⟩ rfl rfl rfl rfl rfl (by kernel_rfl) Try.func8 (by kernel_rfl)
    (of_decide_eq_true (by kernel_rfl)) (by unfold Func.isWrapper; first | (rw [if_pos (by decide +kernel)]; kernel_rfl) | (rw [if_neg (by decide +kernel)]; exact ⟨rfl, rfl⟩))
    (fun os started H enc _ => precParts_lifted os started H enc)

end Go.Proofs.Ytpndbgdimkpfjaa.precParts
