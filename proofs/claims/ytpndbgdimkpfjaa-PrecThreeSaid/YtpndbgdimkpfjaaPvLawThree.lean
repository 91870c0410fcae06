/-
  PrecThree is true for any three types. No conditions.
-/
import Derived.Test.YtpndbgdimkpfjaaRows
import Derived.Test.YtpndbgdimkpfjaaPvLq
import Derived.Test.YtpndbgdimkpfjaaPvZ
import Derived.ProofKit
import Derived.OpenShut
import Derived.Test.YtpndbgdimkpfjaaPvY
namespace Go.Proofs.Ytpndbgdimkpfjaa.precThree
open Go.ChangeShapes Go.WideShapes Go.ChangeAt Go.RowKit

theorem own : ownKnob Try.prog.godebug = none := by kernel_rfl

abbrev Post (w : World) (e : Ending) (w' : World) : Prop := e = .returned (.bool true) ∧ Below w.heap.size w w'

set_option maxHeartbeats 4000000 in
set_option maxRecDepth 100000 in
theorem three_true {W : World} (va : Value) (la : List L.Nd) (ha : Rd W W.heap.size va la) (vb : Value) (lb : List L.Nd) (hb : Rd W W.heap.size vb lb) (vc : Value) (lc : List L.Nd) (hc : Rd W W.heap.size vc lc) :
    Calls Try.prog 9 #[va, vb, vc] W (Post W) := by
  have A0 := hid ha
  have B0 := hid hb
  have C0 := hid hc
  have X0 := hid (Below.refl W.heap.size W)
  have HPL := hid (plain3 va vb vc la lb lc W ha hb hc)
  obtain ⟨Aa, ca, rfl, hca, hcm, -⟩ := ha
  obtain ⟨Ab, cb, rfl, hcb, hcm2, -⟩ := hb
  obtain ⟨Ac, cc, rfl, hcc, hcm3, -⟩ := hc
  unfold maxLen at hcm hcm2 hcm3
  cases hg : allG [(Value.slice Aa la.length ca, la), (Value.slice Ab lb.length cb, lb), (Value.slice Ac lc.length cc, lc)] with
  | false =>
    rw [hg] at HPL
    clear hg
    go_enter Try.func9, Try.ntmps9
    go_wp2_with fail
    refine (HPL.out).mono ?_
    rintro e w1 ⟨rfl, h0⟩
    have HC := hid (alive_any w1)
    have X1 := hid h0
    clear h0
    go_wp2_with fail
    refine (HC.out).mono ?_
    rintro e w2 ⟨rfl, h0⟩
    go_wp2
    go_ret
    exact ⟨rfl, X1.out.trans (h0.mono X1.out.size)⟩
  | true =>
    rw [hg] at HPL
    obtain ⟨hga, hgb, hgc⟩ := all3 hg
    obtain ⟨FA, TA, RA, DA, ZA, NA⟩ := good_fo hga
    obtain ⟨FB, TB, RB, DB, ZB, NB⟩ := good_fo hgb
    obtain ⟨FC, TC, RC, DC, ZC, NC⟩ := good_fo hgc
    clear hg hga hgb hgc
    have TA := hid TA
    have TB := hid TB
    have TC := hid TC
    have RA := hid RA
    have RB := hid RB
    have RC := hid RC
    have NA := hid NA
    have NB := hid NB
    have NC := hid NC
    have DA := hid DA
    have DB := hid DB
    have DC := hid DC
    go_enter Try.func9, Try.ntmps9
    go_wp2_with fail
    refine (HPL.out).mono ?_
    rintro e w1 ⟨rfl, h0⟩
    have HC := HPL
    have X1 := hid (X0.out.trans (h0.mono X0.out.size))
    have A1 := hid ((A0.out.below h0).mono h0.size)
    have B1 := hid ((B0.out.below h0).mono h0.size)
    have C1 := hid ((C0.out.below h0).mono h0.size)
    clear h0 HC X0 A0 B0 C0
    clear HPL
    have HOg := hid (L.be_ag (L.be_refl FA))
    have HC := hid (meet_yes TA.out TA.out _ _ _ A1.out A1.out HOg.out)
    rw [L.me_self FA, ← TA.out.flat] at HC
    go_wp2_with fail
    refine (HC.out).mono ?_
    rintro e w2 ⟨vO, rfl, ho, h0⟩
    obtain ⟨AO, cO, rfl, hcO, hmO, -⟩ := ho.rd
    unfold maxLen at hmO
    have O2 := hid ho
    clear ho
    have X2 := hid (X1.out.trans (h0.mono X1.out.size))
    have A2 := hid ((A1.out.below h0).mono h0.size)
    have B2 := hid ((B1.out.below h0).mono h0.size)
    have C2 := hid ((C1.out.below h0).mono h0.size)
    clear h0 HC X1 A1 B1 C1
    have HDg := hid (root_dyn RA.out).1
    have HDm := hid (root_dyn RA.out).2
    have HC := hid (meet_yes TA.out ty_d _ (.slice (some ⟨w2.heap.size, 0, none⟩) 1 1) (w2.alloc (.cells #[.int .i64 0, .string ⟨#[]⟩, .int .i64 0] 39)) ((A2.out.alloc (.cells #[.int .i64 0, .string ⟨#[]⟩, .int .i64 0] 39)).mono (by simp)) (lit1 w2 0 (Nat.zero_le _)).rd HDg.out)
    rw [HDm.out, ← TA.out.flat] at HC
    go_wp2_with fail
    refine (HC.out).mono ?_
    rintro e w3 ⟨vD, rfl, ho, h0⟩
    have h0 := (below_new (.cells #[.int .i64 0, .string ⟨#[]⟩, .int .i64 0] 39)).trans (h0.mono (by simp))
    obtain ⟨AD, cD, rfl, hcD, hmD, -⟩ := ho.rd
    unfold maxLen at hmD
    have D3 := hid ho
    clear ho
    have X3 := hid (X2.out.trans (h0.mono X2.out.size))
    have A3 := hid ((A2.out.below h0).mono h0.size)
    have B3 := hid ((B2.out.below h0).mono h0.size)
    have C3 := hid ((C2.out.below h0).mono h0.size)
    have O3 := hid (O2.out.below h0)
    clear h0 HC X2 A2 B2 C2 O2
    have HC := hid (one_any la la _ _ _ O3.out.rd A3.out)
    rw [decide_eq_true (rfl : la = la)] at HC
    go_wp2_with fail
    refine (HC.out).mono ?_
    rintro e w4 ⟨rfl, h0⟩
    have X4 := hid (X3.out.trans (h0.mono X3.out.size))
    have A4 := hid ((A3.out.below h0).mono h0.size)
    have B4 := hid ((B3.out.below h0).mono h0.size)
    have C4 := hid ((C3.out.below h0).mono h0.size)
    have O4 := hid (O3.out.below h0)
    have D4 := hid (D3.out.below h0)
    clear h0 HC X3 A3 B3 C3 O3 D3
    have HC := hid (one_any la la _ _ _ D4.out.rd A4.out)
    rw [decide_eq_true (rfl : la = la)] at HC
    go_wp2_with fail
    refine (HC.out).mono ?_
    rintro e w5 ⟨rfl, h0⟩
    have X5 := hid (X4.out.trans (h0.mono X4.out.size))
    have A5 := hid ((A4.out.below h0).mono h0.size)
    have B5 := hid ((B4.out.below h0).mono h0.size)
    have C5 := hid ((C4.out.below h0).mono h0.size)
    have O5 := hid (O4.out.below h0)
    have D5 := hid (D4.out.below h0)
    clear h0 HC X4 A4 B4 C4 O4 D4
    clear O5 D5
    cases h_p : L.agF FA FB with
    | false =>
      have Hp := hid h_p
      clear h_p
      have HPg := Hp
      have HC := hid (meet_no TA.out TB.out _ _ _ A5.out B5.out HPg.out)
      go_wp2_with fail
      refine (HC.out).mono ?_
      rintro e w6 ⟨rfl, h0⟩
      have X6 := hid (X5.out.trans (h0.mono X5.out.size))
      have A6 := hid ((A5.out.below h0).mono h0.size)
      have B6 := hid ((B5.out.below h0).mono h0.size)
      have C6 := hid ((C5.out.below h0).mono h0.size)
      clear h0 HC X5 A5 B5 C5
      cases h_q : L.agF FB FC with
      | false =>
        have Hq := hid h_q
        clear h_q
        have HQg := Hq
        have HC := hid (meet_no TB.out TC.out _ _ _ B6.out C6.out HQg.out)
        go_wp2_with fail
        refine (HC.out).mono ?_
        rintro e w7 ⟨rfl, h0⟩
        have X7 := hid (X6.out.trans (h0.mono X6.out.size))
        have A7 := hid ((A6.out.below h0).mono h0.size)
        have B7 := hid ((B6.out.below h0).mono h0.size)
        have C7 := hid ((C6.out.below h0).mono h0.size)
        clear h0 HC X6 A6 B6 C6
        have HC := hid (alive_any w7)
        go_wp2_with fail
        refine (HC.out).mono ?_
        rintro e w8 ⟨rfl, h0⟩
        have X8 := hid (X7.out.trans (h0.mono X7.out.size))
        have A8 := hid ((A7.out.below h0).mono h0.size)
        have B8 := hid ((B7.out.below h0).mono h0.size)
        have C8 := hid ((C7.out.below h0).mono h0.size)
        clear h0 HC X7 A7 B7 C7
        go_wp2
        go_ret
        exact ⟨rfl, X8.out⟩
      | true =>
        have Hq := hid h_q
        clear h_q
        have HQg := Hq
        have HC := hid (meet_yes TB.out TC.out _ _ _ B6.out C6.out HQg.out)
        go_wp2_with fail
        refine (HC.out).mono ?_
        rintro e w7 ⟨vQ, rfl, ho, h0⟩
        have TQ := hid (meet_ty TB.out TC.out RB.out RC.out HQg.out NB.out NC.out DB.out DC.out (by omega) (by omega))
        obtain ⟨AQ, cQ, rfl, hcQ, hmQ, -⟩ := ho.rd
        unfold maxLen at hmQ
        have Q7 := hid ho
        clear ho
        have X7 := hid (X6.out.trans (h0.mono X6.out.size))
        have A7 := hid ((A6.out.below h0).mono h0.size)
        have B7 := hid ((B6.out.below h0).mono h0.size)
        have C7 := hid ((C6.out.below h0).mono h0.size)
        clear h0 HC X6 A6 B6 C6
        have HC := hid (alive_any w7)
        go_wp2_with fail
        refine (HC.out).mono ?_
        rintro e w8 ⟨rfl, h0⟩
        have X8 := hid (X7.out.trans (h0.mono X7.out.size))
        have A8 := hid ((A7.out.below h0).mono h0.size)
        have B8 := hid ((B7.out.below h0).mono h0.size)
        have C8 := hid ((C7.out.below h0).mono h0.size)
        have Q8 := hid (Q7.out.below h0)
        clear h0 HC X7 A7 B7 C7 Q7
        go_wp2
        go_ret
        exact ⟨rfl, X8.out⟩
    | true =>
      have Hp := hid h_p
      clear h_p
      have HPg := Hp
      have HC := hid (meet_yes TA.out TB.out _ _ _ A5.out B5.out HPg.out)
      go_wp2_with fail
      refine (HC.out).mono ?_
      rintro e w6 ⟨vP, rfl, ho, h0⟩
      have TP := hid (meet_ty TA.out TB.out RA.out RB.out HPg.out NA.out NB.out DA.out DB.out (by omega) (by omega))
      obtain ⟨AP, cP, rfl, hcP, hmP, -⟩ := ho.rd
      unfold maxLen at hmP
      have P6 := hid ho
      clear ho
      have X6 := hid (X5.out.trans (h0.mono X5.out.size))
      have A6 := hid ((A5.out.below h0).mono h0.size)
      have B6 := hid ((B5.out.below h0).mono h0.size)
      have C6 := hid ((C5.out.below h0).mono h0.size)
      clear h0 HC X5 A5 B5 C5
      cases h_q : L.agF FB FC with
      | false =>
        have Hq := hid h_q
        clear h_q
        have HQg := Hq
        have HC := hid (meet_no TB.out TC.out _ _ _ B6.out C6.out HQg.out)
        go_wp2_with fail
        refine (HC.out).mono ?_
        rintro e w7 ⟨rfl, h0⟩
        have X7 := hid (X6.out.trans (h0.mono X6.out.size))
        have A7 := hid ((A6.out.below h0).mono h0.size)
        have B7 := hid ((B6.out.below h0).mono h0.size)
        have C7 := hid ((C6.out.below h0).mono h0.size)
        have P7 := hid (P6.out.below h0)
        clear h0 HC X6 A6 B6 C6 P6
        have HC := hid (alive_any w7)
        go_wp2_with fail
        refine (HC.out).mono ?_
        rintro e w8 ⟨rfl, h0⟩
        have X8 := hid (X7.out.trans (h0.mono X7.out.size))
        have A8 := hid ((A7.out.below h0).mono h0.size)
        have B8 := hid ((B7.out.below h0).mono h0.size)
        have C8 := hid ((C7.out.below h0).mono h0.size)
        have P8 := hid (P7.out.below h0)
        clear h0 HC X7 A7 B7 C7 P7
        go_wp2
        go_ret
        exact ⟨rfl, X8.out⟩
      | true =>
        have Hq := hid h_q
        clear h_q
        have HQg := Hq
        have HC := hid (meet_yes TB.out TC.out _ _ _ B6.out C6.out HQg.out)
        go_wp2_with fail
        refine (HC.out).mono ?_
        rintro e w7 ⟨vQ, rfl, ho, h0⟩
        have TQ := hid (meet_ty TB.out TC.out RB.out RC.out HQg.out NB.out NC.out DB.out DC.out (by omega) (by omega))
        obtain ⟨AQ, cQ, rfl, hcQ, hmQ, -⟩ := ho.rd
        unfold maxLen at hmQ
        have Q7 := hid ho
        clear ho
        have X7 := hid (X6.out.trans (h0.mono X6.out.size))
        have A7 := hid ((A6.out.below h0).mono h0.size)
        have B7 := hid ((B6.out.below h0).mono h0.size)
        have C7 := hid ((C6.out.below h0).mono h0.size)
        have P7 := hid (P6.out.below h0)
        clear h0 HC X6 A6 B6 C6 P6
        have HPL : Hid (0 < (L.meF FA FB).flat.length) := hid (fo_pos TP.out.1.ne)
        have HQL : Hid (0 < (L.meF FB FC).flat.length) := hid (fo_pos TQ.out.1.ne)
        have hp0 : ((((L.meF FA FB).flat.length : Nat) : Int) == 0) = false := beq_eq_false_iff_ne.2 (by have := HPL.out; omega)
        have hq0 : ((((L.meF FB FC).flat.length : Nat) : Int) == 0) = false := beq_eq_false_iff_ne.2 (by have := HQL.out; omega)
        have HT3 := hid (L.ag_three Hp.out Hq.out)
        cases h_r : L.agF (L.meF FA FB) FC with
        | false =>
          have Hr := hid h_r
          clear h_r
          have HLP := hid TP.out.2.2.2.2.2
          have HLQ := hid TQ.out.2.2.2.2.2
          have HC := hid (meet_no TP.out.1 TC.out _ _ _ P7.out.rd C7.out Hr.out)
          go_wp2_with fail
          refine (HC.out).mono ?_
          rintro e w8 ⟨rfl, h0⟩
          clear hp0 hq0
          have X8 := hid (X7.out.trans (h0.mono X7.out.size))
          have A8 := hid ((A7.out.below h0).mono h0.size)
          have B8 := hid ((B7.out.below h0).mono h0.size)
          have C8 := hid ((C7.out.below h0).mono h0.size)
          have P8 := hid (P7.out.below h0)
          have Q8 := hid (Q7.out.below h0)
          clear h0 HC X7 A7 B7 C7 P7 Q7
          have HR2 := hid (HT3.out.symm.trans Hr.out)
          have HC := hid (meet_no TA.out TQ.out.1 _ _ _ A8.out Q8.out.rd HR2.out)
          go_wp2_with fail
          refine (HC.out).mono ?_
          rintro e w9 ⟨rfl, h0⟩
          have X9 := hid (X8.out.trans (h0.mono X8.out.size))
          have A9 := hid ((A8.out.below h0).mono h0.size)
          have B9 := hid ((B8.out.below h0).mono h0.size)
          have C9 := hid ((C8.out.below h0).mono h0.size)
          have P9 := hid (P8.out.below h0)
          have Q9 := hid (Q8.out.below h0)
          clear h0 HC X8 A8 B8 C8 P8 Q8
          have HC := hid (alive_any w9)
          go_wp2_with fail
          refine (HC.out).mono ?_
          rintro e w10 ⟨rfl, h0⟩
          have X10 := hid (X9.out.trans (h0.mono X9.out.size))
          have A10 := hid ((A9.out.below h0).mono h0.size)
          have B10 := hid ((B9.out.below h0).mono h0.size)
          have C10 := hid ((C9.out.below h0).mono h0.size)
          have P10 := hid (P9.out.below h0)
          have Q10 := hid (Q9.out.below h0)
          clear h0 HC X9 A9 B9 C9 P9 Q9
          have HC := hid (refSame_any [] [] (.slice none 0 0) (.slice none 0 0) w10 (rd_nil7 _) (rd_nil7 _))
          rw [show L.sameL [] [] = true from rfl] at HC
          go_wp2_with fail
          refine (HC.out).mono ?_
          rintro e w11 ⟨rfl, h0⟩
          have X11 := hid (X10.out.trans (h0.mono X10.out.size))
          have A11 := hid ((A10.out.below h0).mono h0.size)
          have B11 := hid ((B10.out.below h0).mono h0.size)
          have C11 := hid ((C10.out.below h0).mono h0.size)
          have P11 := hid (P10.out.below h0)
          have Q11 := hid (Q10.out.below h0)
          clear h0 HC X10 A10 B10 C10 P10 Q10
          go_wp2
          go_ret
          exact ⟨rfl, X11.out⟩
        | true =>
          have Hr := hid h_r
          clear h_r
          have HLP := hid TP.out.2.2.2.2.2
          have HLQ := hid TQ.out.2.2.2.2.2
          have HC := hid (meet_yes TP.out.1 TC.out _ _ _ P7.out.rd C7.out Hr.out)
          go_wp2_with fail
          refine (HC.out).mono ?_
          rintro e w8 ⟨vU, rfl, ho, h0⟩
          obtain ⟨AU, cU, rfl, hcU, hmU, -⟩ := ho.rd
          unfold maxLen at hmU
          have U8 := hid ho
          clear ho hp0 hq0
          have X8 := hid (X7.out.trans (h0.mono X7.out.size))
          have A8 := hid ((A7.out.below h0).mono h0.size)
          have B8 := hid ((B7.out.below h0).mono h0.size)
          have C8 := hid ((C7.out.below h0).mono h0.size)
          have P8 := hid (P7.out.below h0)
          have Q8 := hid (Q7.out.below h0)
          clear h0 HC X7 A7 B7 C7 P7 Q7
          have HR2 := hid (HT3.out.symm.trans Hr.out)
          have HC := hid (meet_yes TA.out TQ.out.1 _ _ _ A8.out Q8.out.rd HR2.out)
          go_wp2_with fail
          refine (HC.out).mono ?_
          rintro e w9 ⟨vV, rfl, ho, h0⟩
          obtain ⟨AV, cV, rfl, hcV, hmV, -⟩ := ho.rd
          unfold maxLen at hmV
          have V9 := hid ho
          clear ho
          have X9 := hid (X8.out.trans (h0.mono X8.out.size))
          have A9 := hid ((A8.out.below h0).mono h0.size)
          have B9 := hid ((B8.out.below h0).mono h0.size)
          have C9 := hid ((C8.out.below h0).mono h0.size)
          have P9 := hid (P8.out.below h0)
          have Q9 := hid (Q8.out.below h0)
          have U9 := hid (U8.out.below h0)
          clear h0 HC X8 A8 B8 C8 P8 Q8 U8
          have HC := hid (alive_any w9)
          go_wp2_with fail
          refine (HC.out).mono ?_
          rintro e w10 ⟨rfl, h0⟩
          have X10 := hid (X9.out.trans (h0.mono X9.out.size))
          have A10 := hid ((A9.out.below h0).mono h0.size)
          have B10 := hid ((B9.out.below h0).mono h0.size)
          have C10 := hid ((C9.out.below h0).mono h0.size)
          have P10 := hid (P9.out.below h0)
          have Q10 := hid (Q9.out.below h0)
          have U10 := hid (U9.out.below h0)
          have V10 := hid (V9.out.below h0)
          clear h0 HC X9 A9 B9 C9 P9 Q9 U9 V9
          have HC := hid (refSame_any (L.meF (L.meF FA FB) FC).flat (L.meF FA (L.meF FB FC)).flat _ _ _ U10.out.rd V10.out.rd)
          rw [three_same TA.out TC.out RA.out RC.out Hp.out Hq.out Hr.out HR2.out TP.out.1 TQ.out.1 TP.out.2.2.1 TQ.out.2.2.1] at HC
          go_wp2_with fail
          refine (HC.out).mono ?_
          rintro e w11 ⟨rfl, h0⟩
          have X11 := hid (X10.out.trans (h0.mono X10.out.size))
          have A11 := hid ((A10.out.below h0).mono h0.size)
          have B11 := hid ((B10.out.below h0).mono h0.size)
          have C11 := hid ((C10.out.below h0).mono h0.size)
          have P11 := hid (P10.out.below h0)
          have Q11 := hid (Q10.out.below h0)
          have U11 := hid (U10.out.below h0)
          have V11 := hid (V10.out.below h0)
          clear h0 HC X10 A10 B10 C10 P10 Q10 U10 V10
          go_wp2
          go_ret
          exact ⟨rfl, X11.out⟩

set_option maxRecDepth 100000 in
theorem precThree_lifted (os : Os) (started : os.Started) (H : Type) (enc : TypeId × Value → H) :
    ReturnsInHanded {} Try.checked os 9 .any (Rows.precThreeSpec.pre6 enc Try.prog Try.f9 Rows.precThreeRow.domain false) (Rows.precThreeSpec.post enc Try.prog Try.f9 false true false false) := by
  refine returnsInHanded_of_change (C := Try.checked) own started (by kernel_rfl) Try.func9
    (ChangeSpec.witness6 (enc := enc) (C := Try.checked) false ⟨#[], #[.slice none 0 0, .slice none 0 0, .slice none 0 0], []⟩ 8 (by kernel_rfl) (by kernel_rfl) (by kernel_rfl) (by kernel_rfl)) ?_
  intro W base args ds gs before hval0 hW hcnd _
  have hlts := hW.lt
  have hval : ∀ (j : Nat) t v, Try.f9.params[j]? = some t → args[j]? = some v → Value.okWide Try.prog W .any base t v := hval0
  have hW' := hW
  obtain ⟨p, q, hA0, hV, rfl, hfz, hnd⟩ := hW
  have hA : DataW.TrodAll enc Try.prog W 0 (fun _ => true) true Try.f9.params.toList args.toList ds p := hA0
  rw [Try.params9] at hA hval
  obtain ⟨v0, vs0, d0, ds0, p0, q0, hargs0, rfl, rfl, h0, r0⟩ := trodAll_cons hA
  obtain ⟨v1, vs1, d1, ds1, p1, q1, hargs1, rfl, rfl, h1, r1⟩ := trodAll_cons r0
  obtain ⟨v2, vs2, d2, ds2, p2, q2, hargs2, rfl, rfl, h2, r2⟩ := trodAll_cons r1
  obtain ⟨hn, rfl, rfl⟩ := trodAll_nil r2
  obtain rfl : args = #[v0, v1, v2] := by cases args; simp_all
  obtain ⟨rfl, rfl⟩ := trodVars_none hV
  obtain ⟨sa0, sl0, sc0, hsv0⟩ := okWide_slice Try.underlying23 (hval 0 23 v0 rfl rfl)
  obtain ⟨fuel0, hf0⟩ := h0
  obtain ⟨u0, l0, hu0, hR0, hn0⟩ := rd_of_trod hf0
  obtain rfl : v0 = u0 := by
    rw [hsv0] at hu0
    rw [hsv0]
    simpa [Value.cells] using hu0
  obtain ⟨sa1, sl1, sc1, hsv1⟩ := okWide_slice Try.underlying23 (hval 1 23 v1 rfl rfl)
  obtain ⟨fuel1, hf1⟩ := h1
  obtain ⟨u1, l1, hu1, hR1, hn1⟩ := rd_of_trod hf1
  obtain rfl : v1 = u1 := by
    rw [hsv1] at hu1
    rw [hsv1]
    simpa [Value.cells] using hu1
  obtain ⟨sa2, sl2, sc2, hsv2⟩ := okWide_slice Try.underlying23 (hval 2 23 v2 rfl rfl)
  obtain ⟨fuel2, hf2⟩ := h2
  obtain ⟨u2, l2, hu2, hR2, hn2⟩ := rd_of_trod hf2
  obtain rfl : v2 = u2 := by
    rw [hsv2] at hu2
    rw [hsv2]
    simpa [Value.cells] using hu2
  clear hA0 hval0
  simp only [List.append_nil] at hW' hlts
  refine (three_true v0 l0 hR0 v1 l1 hR1 v2 l2 hR2 (W := W)).mono fun e W' ⟨he, hB⟩ => ?_
  subst he
  refine ⟨_, rfl, _, _, _, [], (p0 ++ (p1 ++ (p2 ++ []))), [], by simpa using hW', ?_, ?_, ?_, hB.frame _, fun h => by cases h⟩
  · exact trodAll_cons_mk (shut_bool Try.underlying4 _) trodAll_mk0
  · exact (trodAll_cons_mk (Below.trod (by kernel_rfl) (by kernel_rfl) (of_decide_eq_true (by kernel_rfl)) ⟨fuel0, hf0⟩ hB (fun x hx => hlts x (by simp [hx]))) (trodAll_cons_mk (Below.trod (by kernel_rfl) (by kernel_rfl) (of_decide_eq_true (by kernel_rfl)) ⟨fuel1, hf1⟩ hB (fun x hx => hlts x (by simp [hx]))) (trodAll_cons_mk (Below.trod (by kernel_rfl) (by kernel_rfl) (of_decide_eq_true (by kernel_rfl)) ⟨fuel2, hf2⟩ hB (fun x hx => hlts x (by simp [hx]))) trodAll_mk0)))
  · rfl

/-- PrecThree: the given statement. -/
theorem precThree_holds : Rows.PrecThreeSaid :=
  OpenClaim.holds_of_wide 9 Try.f9 rfl rfl rfl rfl rfl rfl rfl ⟨rfl, rfl, rfl, rfl, rfl⟩ rfl rfl rfl rfl rfl (by kernel_rfl) Try.func9 (by kernel_rfl)
    (of_decide_eq_true (by kernel_rfl)) (by unfold Func.isWrapper; first | (rw [if_pos (by decide +kernel)]; kernel_rfl) | (rw [if_neg (by decide +kernel)]; exact ⟨rfl, rfl⟩))
    (fun os started H enc _ => precThree_lifted os started H enc)

end Go.Proofs.Ytpndbgdimkpfjaa.precThree
