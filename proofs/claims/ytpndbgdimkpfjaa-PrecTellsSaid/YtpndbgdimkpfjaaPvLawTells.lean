/-
  PrecTells is true for any two types. No conditions.
-/
import Derived.Test.YtpndbgdimkpfjaaRows
import Derived.Test.YtpndbgdimkpfjaaPvLq
import Derived.Test.YtpndbgdimkpfjaaPvZ
import Derived.ProofKit
import Derived.OpenShut
import Derived.Test.YtpndbgdimkpfjaaPvO
namespace Go.Proofs.Ytpndbgdimkpfjaa.precTells
open Go.ChangeShapes Go.WideShapes Go.ChangeAt Go.RowKit

theorem own : ownKnob Try.prog.godebug = none := by kernel_rfl

abbrev Post (w : World) (e : Ending) (w' : World) : Prop := e = .returned (.bool true) ∧ Below w.heap.size w w'

set_option maxHeartbeats 4000000 in
set_option maxRecDepth 100000 in
theorem tells_true {W : World} (va : Value) (la : List L.Nd) (ha : Rd W W.heap.size va la) (vb : Value) (lb : List L.Nd) (hb : Rd W W.heap.size vb lb) :
    Calls Try.prog 3 #[va, vb] W (Post W) := by
  have A0 := hid ha
  have B0 := hid hb
  have X0 := hid (Below.refl W.heap.size W)
  have HPL := hid (plain2 va vb la lb W ha hb)
  obtain ⟨Aa, ca, rfl, hca, hcm, -⟩ := ha
  obtain ⟨Ab, cb, rfl, hcb, hcm2, -⟩ := hb
  unfold maxLen at hcm hcm2
  cases hg : allG [(Value.slice Aa la.length ca, la), (Value.slice Ab lb.length cb, lb)] with
  | false =>
    rw [hg] at HPL
    clear hg
    go_enter Try.func3, Try.ntmps3
    go_wp2_with fail
    refine (HPL.out).mono ?_
    rintro e w1 ⟨rfl, h0⟩
    have HC := hid (alive_any w1)
    have X1 := hid h0
    clear h0
    go_wp2_with fail
    refine (HC.out).mono ?_
    rintro e w2 ⟨rfl, h0⟩
    go_wp2
    go_ret
    exact ⟨rfl, X1.out.trans (h0.mono X1.out.size)⟩
  | true =>
    rw [hg] at HPL
    obtain ⟨hga, hgb⟩ := all2 hg
    obtain ⟨FA, rfl, GA⟩ := good_gd hga
    obtain ⟨FB, rfl, GB⟩ := good_gd hgb
    have GA := hid GA
    have GB := hid GB
    have TA := hid (GA.out.ty (by omega))
    have TB := hid (GB.out.ty (by omega))
    clear hg hga hgb
    have hpa := fo_pos TA.out.ne
    have hpb := fo_pos TB.out.ne
    go_enter Try.func3, Try.ntmps3
    go_wp2_with fail
    refine (HPL.out).mono ?_
    rintro e w1 ⟨rfl, h0⟩
    have HC := HPL
    have X1 := hid (X0.out.trans (h0.mono X0.out.size))
    have A1 := hid ((A0.out.below h0).mono h0.size)
    have B1 := hid ((B0.out.below h0).mono h0.size)
    clear h0 HC X0 A0 B0
    clear HPL
    cases h_g : L.agF FA FB with
    | false =>
      have Hg := hid h_g
      clear h_g
      have HC := hid (meet_no TA.out TB.out _ _ _ A1.out B1.out Hg.out)
      go_wp2_with fail
      refine (HC.out).mono ?_
      rintro e w2 ⟨rfl, h0⟩
      have X2 := hid (X1.out.trans (h0.mono X1.out.size))
      have A2 := hid ((A1.out.below h0).mono h0.size)
      have B2 := hid ((B1.out.below h0).mono h0.size)
      clear h0 HC X1 A1 B1
      have HC := hid (refmt_no GA.out GB.out Hg.out _ _ _ A2.out B2.out)
      go_wp2_with fail
      refine (HC.out).mono ?_
      rintro e w3 ⟨rfl, h0⟩
      have X3 := hid (X2.out.trans (h0.mono X2.out.size))
      have A3 := hid ((A2.out.below h0).mono h0.size)
      have B3 := hid ((B2.out.below h0).mono h0.size)
      clear h0 HC X2 A2 B2
      have HC := hid (alive_any w3)
      go_wp2_with fail
      refine (HC.out).mono ?_
      rintro e w4 ⟨rfl, h0⟩
      have X4 := hid (X3.out.trans (h0.mono X3.out.size))
      have A4 := hid ((A3.out.below h0).mono h0.size)
      have B4 := hid ((B3.out.below h0).mono h0.size)
      clear h0 HC X3 A3 B3
      have HC := hid (agree_any TA.out TB.out _ _ _ A4.out B4.out)
      rw [Hg.out] at HC
      go_wp2_with fail
      refine (HC.out).mono ?_
      rintro e w5 ⟨rfl, h0⟩
      have X5 := hid (X4.out.trans (h0.mono X4.out.size))
      have A5 := hid ((A4.out.below h0).mono h0.size)
      have B5 := hid ((B4.out.below h0).mono h0.size)
      clear h0 HC X4 A4 B4
      have HC := hid (refag GA.out GB.out _ _ _ A5.out B5.out)
      rw [Hg.out] at HC
      go_wp2_with fail
      refine (HC.out).mono ?_
      rintro e w6 ⟨rfl, h0⟩
      have X6 := hid (X5.out.trans (h0.mono X5.out.size))
      have A6 := hid ((A5.out.below h0).mono h0.size)
      have B6 := hid ((B5.out.below h0).mono h0.size)
      clear h0 HC X5 A5 B5
      cases h_b : L.beF FA FB with
      | false =>
        have Hb := hid h_b
        clear h_b
        have HC := hid (below_any TA.out TB.out _ _ _ A6.out B6.out)
        rw [Hb.out] at HC
        go_wp2_with fail
        refine (HC.out).mono ?_
        rintro e w7 ⟨rfl, h0⟩
        have X7 := hid (X6.out.trans (h0.mono X6.out.size))
        have A7 := hid ((A6.out.below h0).mono h0.size)
        have B7 := hid ((B6.out.below h0).mono h0.size)
        clear h0 HC X6 A6 B6
        have HC := hid (refbe GA.out GB.out _ _ _ A7.out B7.out)
        rw [Hb.out] at HC
        go_wp2_with fail
        refine (HC.out).mono ?_
        rintro e w8 ⟨rfl, h0⟩
        have X8 := hid (X7.out.trans (h0.mono X7.out.size))
        have A8 := hid ((A7.out.below h0).mono h0.size)
        have B8 := hid ((B7.out.below h0).mono h0.size)
        clear h0 HC X7 A7 B7
        have HC := hid (one_any [] [] (.slice none 0 0) (.slice none 0 0) w8 (rd_nil7 _) (rd_nil7 _))
        rw [decide_eq_true (rfl : ([] : List L.Nd) = [])] at HC
        go_wp2_with fail
        refine (HC.out).mono ?_
        rintro e w9 ⟨rfl, h0⟩
        have X9 := hid (X8.out.trans (h0.mono X8.out.size))
        have A9 := hid ((A8.out.below h0).mono h0.size)
        have B9 := hid ((B8.out.below h0).mono h0.size)
        clear h0 HC X8 A8 B8
        go_wp2
        go_ret
        exact ⟨rfl, X9.out⟩
      | true =>
        have Hb := hid h_b
        clear h_b
        have HC := hid (below_any TA.out TB.out _ _ _ A6.out B6.out)
        rw [Hb.out] at HC
        go_wp2_with fail
        refine (HC.out).mono ?_
        rintro e w7 ⟨rfl, h0⟩
        have X7 := hid (X6.out.trans (h0.mono X6.out.size))
        have A7 := hid ((A6.out.below h0).mono h0.size)
        have B7 := hid ((B6.out.below h0).mono h0.size)
        clear h0 HC X6 A6 B6
        have HC := hid (refbe GA.out GB.out _ _ _ A7.out B7.out)
        rw [Hb.out] at HC
        go_wp2_with fail
        refine (HC.out).mono ?_
        rintro e w8 ⟨rfl, h0⟩
        have X8 := hid (X7.out.trans (h0.mono X7.out.size))
        have A8 := hid ((A7.out.below h0).mono h0.size)
        have B8 := hid ((B7.out.below h0).mono h0.size)
        clear h0 HC X7 A7 B7
        have HC := hid (one_any [] [] (.slice none 0 0) (.slice none 0 0) w8 (rd_nil7 _) (rd_nil7 _))
        rw [decide_eq_true (rfl : ([] : List L.Nd) = [])] at HC
        go_wp2_with fail
        refine (HC.out).mono ?_
        rintro e w9 ⟨rfl, h0⟩
        have X9 := hid (X8.out.trans (h0.mono X8.out.size))
        have A9 := hid ((A8.out.below h0).mono h0.size)
        have B9 := hid ((B8.out.below h0).mono h0.size)
        clear h0 HC X8 A8 B8
        go_wp2
        go_ret
        exact ⟨rfl, X9.out⟩
    | true =>
      have Hg := hid h_g
      clear h_g
      have HC := hid (meet_yes TA.out TB.out _ _ _ A1.out B1.out Hg.out)
      go_wp2_with fail
      refine (HC.out).mono ?_
      rintro e w2 ⟨vM, rfl, oM, h0⟩
      obtain ⟨AM, cM, rfl, hcM, hmM, -⟩ := oM.rd
      unfold maxLen at hmM
      have M2 := hid oM
      clear oM
      have X2 := hid (X1.out.trans (h0.mono X1.out.size))
      have A2 := hid ((A1.out.below h0).mono h0.size)
      have B2 := hid ((B1.out.below h0).mono h0.size)
      clear h0 HC X1 A1 B1
      have HC := hid (refmt_yes GA.out GB.out Hg.out _ _ _ A2.out B2.out)
      go_wp2_with fail
      refine (HC.out).mono ?_
      rintro e w3 ⟨vN, rfl, oN, h0⟩
      obtain ⟨AN, cN, rfl, hcN, hmN, -⟩ := oN.rd
      unfold maxLen at hmN
      have N3 := hid oN
      clear oN
      have X3 := hid (X2.out.trans (h0.mono X2.out.size))
      have A3 := hid ((A2.out.below h0).mono h0.size)
      have B3 := hid ((B2.out.below h0).mono h0.size)
      have M3 := hid (M2.out.below h0)
      clear h0 HC X2 A2 B2 M2
      have HC := hid (alive_any w3)
      go_wp2_with fail
      refine (HC.out).mono ?_
      rintro e w4 ⟨rfl, h0⟩
      have X4 := hid (X3.out.trans (h0.mono X3.out.size))
      have A4 := hid ((A3.out.below h0).mono h0.size)
      have B4 := hid ((B3.out.below h0).mono h0.size)
      have M4 := hid (M3.out.below h0)
      have N4 := hid (N3.out.below h0)
      clear h0 HC X3 A3 B3 M3 N3
      have HC := hid (agree_any TA.out TB.out _ _ _ A4.out B4.out)
      rw [Hg.out] at HC
      go_wp2_with fail
      refine (HC.out).mono ?_
      rintro e w5 ⟨rfl, h0⟩
      have X5 := hid (X4.out.trans (h0.mono X4.out.size))
      have A5 := hid ((A4.out.below h0).mono h0.size)
      have B5 := hid ((B4.out.below h0).mono h0.size)
      have M5 := hid (M4.out.below h0)
      have N5 := hid (N4.out.below h0)
      clear h0 HC X4 A4 B4 M4 N4
      have HC := hid (refag GA.out GB.out _ _ _ A5.out B5.out)
      rw [Hg.out] at HC
      go_wp2_with fail
      refine (HC.out).mono ?_
      rintro e w6 ⟨rfl, h0⟩
      have X6 := hid (X5.out.trans (h0.mono X5.out.size))
      have A6 := hid ((A5.out.below h0).mono h0.size)
      have B6 := hid ((B5.out.below h0).mono h0.size)
      have M6 := hid (M5.out.below h0)
      have N6 := hid (N5.out.below h0)
      clear h0 HC X5 A5 B5 M5 N5
      cases h_b : L.beF FA FB with
      | false =>
        have Hb := hid h_b
        clear h_b
        have HC := hid (below_any TA.out TB.out _ _ _ A6.out B6.out)
        rw [Hb.out] at HC
        go_wp2_with fail
        refine (HC.out).mono ?_
        rintro e w7 ⟨rfl, h0⟩
        have X7 := hid (X6.out.trans (h0.mono X6.out.size))
        have A7 := hid ((A6.out.below h0).mono h0.size)
        have B7 := hid ((B6.out.below h0).mono h0.size)
        have M7 := hid (M6.out.below h0)
        have N7 := hid (N6.out.below h0)
        clear h0 HC X6 A6 B6 M6 N6
        have HC := hid (refbe GA.out GB.out _ _ _ A7.out B7.out)
        rw [Hb.out] at HC
        go_wp2_with fail
        refine (HC.out).mono ?_
        rintro e w8 ⟨rfl, h0⟩
        have X8 := hid (X7.out.trans (h0.mono X7.out.size))
        have A8 := hid ((A7.out.below h0).mono h0.size)
        have B8 := hid ((B7.out.below h0).mono h0.size)
        have M8 := hid (M7.out.below h0)
        have N8 := hid (N7.out.below h0)
        clear h0 HC X7 A7 B7 M7 N7
        have HC := hid (one_any (L.meF FA FB).flat (L.meF FA FB).flat _ _ _ M8.out.rd N8.out.rd)
        rw [decide_eq_true (rfl : (L.meF FA FB).flat = (L.meF FA FB).flat)] at HC
        go_wp2_with fail
        refine (HC.out).mono ?_
        rintro e w9 ⟨rfl, h0⟩
        have X9 := hid (X8.out.trans (h0.mono X8.out.size))
        have A9 := hid ((A8.out.below h0).mono h0.size)
        have B9 := hid ((B8.out.below h0).mono h0.size)
        have M9 := hid (M8.out.below h0)
        have N9 := hid (N8.out.below h0)
        clear h0 HC X8 A8 B8 M8 N8
        go_wp2
        go_ret
        exact ⟨rfl, X9.out⟩
      | true =>
        have Hb := hid h_b
        clear h_b
        have HC := hid (below_any TA.out TB.out _ _ _ A6.out B6.out)
        rw [Hb.out] at HC
        go_wp2_with fail
        refine (HC.out).mono ?_
        rintro e w7 ⟨rfl, h0⟩
        have X7 := hid (X6.out.trans (h0.mono X6.out.size))
        have A7 := hid ((A6.out.below h0).mono h0.size)
        have B7 := hid ((B6.out.below h0).mono h0.size)
        have M7 := hid (M6.out.below h0)
        have N7 := hid (N6.out.below h0)
        clear h0 HC X6 A6 B6 M6 N6
        have HC := hid (refbe GA.out GB.out _ _ _ A7.out B7.out)
        rw [Hb.out] at HC
        go_wp2_with fail
        refine (HC.out).mono ?_
        rintro e w8 ⟨rfl, h0⟩
        have X8 := hid (X7.out.trans (h0.mono X7.out.size))
        have A8 := hid ((A7.out.below h0).mono h0.size)
        have B8 := hid ((B7.out.below h0).mono h0.size)
        have M8 := hid (M7.out.below h0)
        have N8 := hid (N7.out.below h0)
        clear h0 HC X7 A7 B7 M7 N7
        have HC := hid (one_any (L.meF FA FB).flat (L.meF FA FB).flat _ _ _ M8.out.rd N8.out.rd)
        rw [decide_eq_true (rfl : (L.meF FA FB).flat = (L.meF FA FB).flat)] at HC
        go_wp2_with fail
        refine (HC.out).mono ?_
        rintro e w9 ⟨rfl, h0⟩
        have X9 := hid (X8.out.trans (h0.mono X8.out.size))
        have A9 := hid ((A8.out.below h0).mono h0.size)
        have B9 := hid ((B8.out.below h0).mono h0.size)
        have M9 := hid (M8.out.below h0)
        have N9 := hid (N8.out.below h0)
        clear h0 HC X8 A8 B8 M8 N8
        go_wp2
        go_ret
        exact ⟨rfl, X9.out⟩

set_option maxRecDepth 100000 in
theorem precTells_lifted (os : Os) (started : os.Started) (H : Type) (enc : TypeId × Value → H) :
    ReturnsInHanded {} Try.checked os 3 .any (Rows.precTellsSpec.pre6 enc Try.prog Try.f3 Rows.precTellsRow.domain false) (Rows.precTellsSpec.post enc Try.prog Try.f3 false true false false) := by
  refine returnsInHanded_of_change (C := Try.checked) own started (by kernel_rfl) Try.func3
    (ChangeSpec.witness6 (enc := enc) (C := Try.checked) false ⟨#[], #[.slice none 0 0, .slice none 0 0], []⟩ 8 (by kernel_rfl) (by kernel_rfl) (by kernel_rfl) (by kernel_rfl)) ?_
  intro W base args ds gs before hval0 hW hcnd _
  have hlts := hW.lt
  have hval : ∀ (j : Nat) t v, Try.f3.params[j]? = some t → args[j]? = some v → Value.okWide Try.prog W .any base t v := hval0
  have hW' := hW
  obtain ⟨p, q, hA0, hV, rfl, hfz, hnd⟩ := hW
  have hA : DataW.TrodAll enc Try.prog W 0 (fun _ => true) true Try.f3.params.toList args.toList ds p := hA0
  rw [Try.params3] at hA hval
  obtain ⟨v0, vs0, d0, ds0, p0, q0, hargs0, rfl, rfl, h0, r0⟩ := trodAll_cons hA
  obtain ⟨v1, vs1, d1, ds1, p1, q1, hargs1, rfl, rfl, h1, r1⟩ := trodAll_cons r0
  obtain ⟨hn, rfl, rfl⟩ := trodAll_nil r1
  obtain rfl : args = #[v0, v1] := by cases args; simp_all
  obtain ⟨rfl, rfl⟩ := trodVars_none hV
  obtain ⟨sa0, sl0, sc0, hsv0⟩ := okWide_slice Try.underlying23 (hval 0 23 v0 rfl rfl)
  obtain ⟨fuel0, hf0⟩ := h0
  obtain ⟨u0, l0, hu0, hR0, hn0⟩ := rd_of_trod hf0
  obtain rfl : v0 = u0 := by
    rw [hsv0] at hu0
    rw [hsv0]
    simpa [Value.cells] using hu0
  obtain ⟨sa1, sl1, sc1, hsv1⟩ := okWide_slice Try.underlying23 (hval 1 23 v1 rfl rfl)
  obtain ⟨fuel1, hf1⟩ := h1
  obtain ⟨u1, l1, hu1, hR1, hn1⟩ := rd_of_trod hf1
  obtain rfl : v1 = u1 := by
    rw [hsv1] at hu1
    rw [hsv1]
    simpa [Value.cells] using hu1
  clear hA0 hval0
  simp only [List.append_nil] at hW' hlts
  refine (tells_true v0 l0 hR0 v1 l1 hR1 (W := W)).mono fun e W' ⟨he, hB⟩ => ?_
  subst he
  refine ⟨_, rfl, _, _, _, [], (p0 ++ (p1 ++ [])), [], by simpa using hW', ?_, ?_, ?_, hB.frame _, fun h => by cases h⟩
  · exact trodAll_cons_mk (shut_bool Try.underlying4 _) trodAll_mk0
  · exact (trodAll_cons_mk (Below.trod (by kernel_rfl) (by kernel_rfl) (of_decide_eq_true (by kernel_rfl)) ⟨fuel0, hf0⟩ hB (fun x hx => hlts x (by simp [hx]))) (trodAll_cons_mk (Below.trod (by kernel_rfl) (by kernel_rfl) (of_decide_eq_true (by kernel_rfl)) ⟨fuel1, hf1⟩ hB (fun x hx => hlts x (by simp [hx]))) trodAll_mk0))
  · rfl

/-- PrecTells: the given statement. -/
theorem precTells_holds : Rows.PrecTellsSaid :=
  OpenClaim.holds_of_wide 3 Try.f3 rfl rfl rfl rfl rfl rfl rfl ⟨rfl, rfl, rfl, rfl, rfl⟩ rfl rfl rfl rfl rfl (by kernel_rfl) Try.func3 (by kernel_rfl)
    (of_decide_eq_true (by kernel_rfl)) (by unfold Func.isWrapper; first | (rw [if_pos (by decide +kernel)]; kernel_rfl) | (rw [if_neg (by decide +kernel)]; exact ⟨rfl, rfl⟩))
    (fun os started H enc _ => precTells_lifted os started H enc)

end Go.Proofs.Ytpndbgdimkpfjaa.precTells
