/-
  AssignTypes is true for any type, any expression, any choices. No conditions.
-/
import Derived.Test.YtmcdggjcpfkchaaRows
import Derived.Test.YtmcdggjcpfkchaaAgF
import Derived.Test.YtmcdggjcpfkchaaAgLq
import Derived.Test.YtmcdggjcpfkchaaAgZ
namespace Go.Proofs.Ytmcdggjcpfkchaa.assignTypes
open Go.ChangeShapes Go.WideShapes Go.ChangeAt Go.RowKit

theorem own : ownKnob Try.prog.godebug = none := by kernel_rfl

abbrev Post (w : World) (e : Ending) (w' : World) : Prop := e = .returned (.bool true) ∧ Below w.heap.size w w'

set_option maxHeartbeats 16000000 in
set_option maxRecDepth 1000000 in
theorem types_true {W : World} (v0 : Value) (t : List L.Nd) (hx : Rd W W.heap.size v0 t) (hn0 : ∀ y ∈ t, y.n ≤ 9223372036854775807 ∧ y.name.size ≤ 9223372036854775807) (v1 : Value) (l : List E.Pt) (hx1 : RdP W W.heap.size v1 l) (hn1 : ∀ y ∈ l, NumP y) (v2 : Value) (cs : List L.Ch) (hc : RdC W W.heap.size v2 cs) (hn2 : ∀ c ∈ cs, c.site ≤ 9223372036854775807 ∧ ∀ y ∈ c.t, y.n ≤ 9223372036854775807 ∧ y.name.size ≤ 9223372036854775807) :
    Calls Try.prog 4 #[v0, v1, v2] W (Post W) := by
  obtain ⟨i0, hi0, hz0, hz1, hz2⟩ := info_parts infoPart
  have HX := hid hx
  have HX1 := hid hx1
  have HC := hid hc
  have HN0 := hid hn0
  have HN1 := hid hn1
  have HN2 := hid hn2
  have HAL := hid (fun w => alive_any w)
  have HP : Hid (Calls Try.prog 10 #[v0, .int .i64 60] W fun e w' => e = .returned (.bool (L.good 60 t)) ∧ Below W.heap.size W w') := hid (plain7_any t 60 (by omega) v0 W hx)
  obtain ⟨A, cap, rfl, -⟩ := hx
  obtain ⟨A1, cap1, rfl, -⟩ := hx1
  obtain ⟨A2, cap2, rfl, -⟩ := hc
  clear hn0 hn1 hn2
  go_enter Try.func4, Try.ntmps4
  go_wp2_with fail
  refine (HP.out).mono ?_
  rintro e w1 ⟨rfl, h0⟩
  have X1 := hid h0
  have HF : Hid (Calls Try.prog 11 #[.slice A2 cs.length cap2, .int .i64 20] w1 fun e w' => e = .returned (.bool (L.fewC 20 cs)) ∧ Below w1.heap.size w1 w') := hid (fewC_any cs 20 (by omega) _ w1 ((HC.out.below h0).mono h0.size))
  clear h0 HP
  obtain ⟨b1, hb1⟩ : ∃ b, L.good 60 t = b := ⟨_, rfl⟩
  have V1 := hid hb1
  rw [hb1]
  clear hb1
  cases b1 with
  | false =>
    go_wp2_with fail
    refine (HAL.out _).mono ?_
    rintro e w2 ⟨rfl, h0⟩
    have X2 := hid (X1.out.trans (h0.mono X1.out.size))
    clear h0
    go_wp2_with fail
    go_ret
    exact ⟨rfl, X2.out⟩
  | true =>
    go_wp2_with fail
    refine (HF.out).mono ?_
    rintro e w2 ⟨rfl, h0⟩
    have X2 := hid (X1.out.trans (h0.mono X1.out.size))
    have HG : Hid (Calls Try.prog 12 #[.slice A1 l.length cap1, .int .i64 60] w2 fun e w' => e = .returned (.bool (E.fewL l 60)) ∧ w' = w2) := hid (rfew_any l 60 (by omega) _ w2 (rdp_below HX1.out X2.out))
    clear h0 HF X1
    obtain ⟨b2, hb2⟩ : ∃ b, L.fewC 20 cs = b := ⟨_, rfl⟩
    have V2 := hid hb2
    rw [hb2]
    clear hb2
    cases b2 with
    | false =>
      go_wp2_with fail
      refine (HAL.out _).mono ?_
      rintro e w3 ⟨rfl, h0⟩
      have X3 := hid (X2.out.trans (h0.mono X2.out.size))
      clear h0
      go_wp2_with fail
      go_ret
      exact ⟨rfl, X3.out⟩
    | true =>
      go_wp2_with fail
      refine (HG.out).mono ?_
      rintro e w9 ⟨rfl, rfl⟩
      clear HG
      obtain ⟨b3, hb3⟩ : ∃ b, E.fewL l 60 = b := ⟨_, rfl⟩
      have V3 := hid hb3
      rw [hb3]
      clear hb3
      cases b3 with
      | false =>
        go_wp2_with fail
        refine (HAL.out _).mono ?_
        rintro e w3 ⟨rfl, h0⟩
        have X3 := hid (X2.out.trans (h0.mono X2.out.size))
        clear h0
        go_wp2_with fail
        go_ret
        exact ⟨rfl, X3.out⟩
      | true =>
        obtain ⟨hll, hfew⟩ := fewL_parts V3.out
        have HR := hid (raright_any l (fun x hx => E.small_of_few (hfew x hx)) _ w9 (rdp_below HX1.out X2.out))
        have HFEW := hid hfew
        clear hfew
        go_wp2_with fail
        refine (HR.out).mono ?_
        rintro e w3 ⟨rfl, h0⟩
        have X3 := hid (X2.out.trans (h0.mono X2.out.size))
        clear h0 HR X2
        obtain ⟨b4, hb4⟩ : ∃ b, E.rightL l = b := ⟨_, rfl⟩
        have V4 := hid hb4
        rw [hb4]
        clear hb4
        cases b4 with
        | false =>
          go_wp2_with fail
          refine (HAL.out _).mono ?_
          rintro e w4 ⟨rfl, h0⟩
          have X4 := hid (X3.out.trans (h0.mono X3.out.size))
          clear h0
          go_wp2_with fail
          go_ret
          exact ⟨rfl, X4.out⟩
        | true =>
          obtain ⟨hasg, -, -⟩ := few_asg V2.out (by omega) (fun c hc => (HN2.out c hc).1)
          obtain ⟨hg1, hg2, hg3, -⟩ := good_parts V1.out
          have HASG := hid hasg
          have HWF := hid (show Wf t from fun x hx => by
            have h1 := L.n_pos (L.numbered_right hg3 x hx)
            exact ⟨by omega, (HN0.out x hx).1⟩)
          have hlne : l ≠ [] := by
            intro e
            have := V4.out
            rw [e] at this
            cases this
          have hlt5 : ∀ p ∈ l, p.t.length ≤ 5000 ∧ p.u.length ≤ 5000 := by
            intro p hp
            have := few_types (HFEW.out p hp)
            omega
          have HEX := hid (show ExOk l from ⟨hlne, by omega, hlt5, fun p hp => HN1.out p hp⟩)
          clear hlne hlt5
          obtain ⟨ys, b, o, cap', hm, hy, hv, hb, -, -, hcell⟩ := HX1.out.pick HEX.out.ne
          simp only [Value.slice.injEq, true_and] at hv
          obtain ⟨rfl, rfl⟩ := hv
          have HY := hid hy
          have HM := hid hm
          have hyl := lenY hm
          have HC1 := hid (cellsP_one hy)
          have HL8 := hid (show (cellsP ys).length = l.length * 8 from by rw [cellsP_len, hyl])
          have HYN := hid (show ys ≠ [] from by intro e; rw [e] at hyl; exact HEX.out.ne (List.eq_nil_of_length_eq_zero hyl.symm))
          have HS := hid (fun (V : World) (hV : Below W.heap.size W V) j u (hj : (cellsP ys)[j]? = some u) => show (V.alloc (.cells #[] 49)).cell? ((⟨b, o, none⟩ : Addr).add j) = some u from by
            have e : (⟨b, o, none⟩ : Addr).add j = ⟨b, o + j, none⟩ := by simp [Addr.add]
            rw [e]
            exact ((below_new _).cell (p := ⟨b, o + j, none⟩) (by have := hV.size; show b < V.heap.size; omega)).trans ((hV.cell (p := ⟨b, o + j, none⟩) hb).trans (hcell j u hj)))
          have HXT := hid (((HX.out.low X3.out).mono X3.out.size).alloc (.cells #[] 29)).size
          have hs3 := X3.out.size
          clear hasg hg2 hg3 hm hy hcell HN0 HN1 HN2
          go_wp2_with (first
            | (at_builtin
               refine wpList_app2 rfl _ _ rfl rfl w3.heap.size _ _ [] t rfl (World.ownsRow_made w3 #[] 0 (Nat.le_refl _) (Nat.zero_le _) (by simp)) rfl HXT.out (by simp; omega) (by simp) ?_
               intro v3 w4 hown hgrow
               rw [List.nil_append] at hown
               have HB4 := hid (show Below w3.heap.size w3 w4 from (below_new _).grown hgrow (by simp) (fun k hk => own_new hk))
               obtain ⟨A3, c3, rfl, -⟩ := hown.rd
               have WAS := hid hown
               have X4 := hid (X3.out.trans (HB4.out.mono hs3))
               clear hown hgrow)
            | (at_builtin
               refine wpList_append_own _ rfl _ _ 32 rfl w4.heap.size 49 i0 (.agg #[.int .i64 0, .string ⟨#[]⟩, .string ⟨#[]⟩, .string ⟨#[]⟩, .int .i64 0, .int .i64 0, .slice none 0 0, .slice none 0 0]) 8 120 Try.underlying32 hi0 hz0 hz1 hz2 rfl (by decide) _ _ _ rfl (World.ownsRow_made w4 #[] 0 (Nat.le_refl _) (Nat.zero_le _) (by simp)) ⟨b, o, none⟩ l.length cap1 (cellsP ys) rfl HL8.out (HS.out w4 X4.out) HC1.out (by unfold maxLen; omega) (by omega) (by simp) ?_
               intro v4 w5 hown hgrow hnil
               have hO : OwnP w4.heap.size v4 ys w5 := by
                 unfold OwnP
                 rw [hyl]
                 simpa using hown
               have HB5 := hid (show Below w4.heap.size w4 w5 from (below_new _).grown hgrow (by simp) (fun k hk => own_new hk))
               obtain ⟨g, cap3, rfl, -⟩ := hO.form HYN.out
               have X5 := hid (X4.out.trans (HB5.out.mono X4.out.size))
               have HAD := hid (show RdP w5 w5.heap.size (.slice (some ⟨g, 0, none⟩) l.length cap3) l from by
                 have h := (rowE_of hO HY.out X5.out X4.out.size).rdp HYN.out
                 rw [HM.out, hyl] at h
                 exact h)
               have WAS5 := hid (WAS.out.below HB5.out)
               rw [hyl]
               clear hO hown hgrow hnil))
          have hX5 := X5.out
          have HT1 := hid (type_any cs HASG.out t (by omega) HWF.out _ _ w5 ((HX.out.low hX5).mono hX5.size) ((HC.out.below hX5).mono hX5.size))
          clear hX5 HXT HS HC1 HL8 HY HM WAS HB4 HB5 X4
          refine (HT1.out).mono ?_
          rintro e w6 ⟨u1, rfl, hO1, h0⟩
          have X6 := hid (X5.out.trans (h0.mono X5.out.size))
          obtain ⟨B1, d1, rfl, -⟩ := hO1.rd
          have U1 := hid hO1
          have WAS6 := hid (WAS5.out.below h0)
          have HAD6 := hid (rdp_below HAD.out h0)
          have HT2 := hid (refType_any cs HASG.out t (by omega) _ _ w6 ((HX.out.low X6.out).mono X6.out.size) ((HC.out.below X6.out).mono X6.out.size))
          clear h0 hO1 HT1 WAS5 HAD X5
          go_wp2_with fail
          refine (HT2.out).mono ?_
          rintro e w7 ⟨u2, rfl, hO2, h0⟩
          have X7 := hid (X6.out.trans (h0.mono X6.out.size))
          obtain ⟨B2, d2, rfl, -⟩ := hO2.rd
          have WAS7 := hid (WAS6.out.below h0)
          have HAD7 := hid (rdp_below HAD6.out h0)
          have HO := hid (one_any (L.fillL cs t) (L.fillL cs t) _ _ w7 (U1.out.below h0).rd hO2.rd)
          rw [show decide (L.fillL cs t = L.fillL cs t) = true from decide_eq_true rfl] at HO
          clear h0 hO2 HT2 WAS6 HAD6 X6 U1
          go_wp2_with fail
          refine (HO.out).mono ?_
          rintro e w8 ⟨rfl, h0⟩
          have X8 := hid (X7.out.trans (h0.mono X7.out.size))
          have WAS8 := hid (WAS7.out.below h0)
          have HAD8 := hid (rdp_below HAD7.out h0)
          have HE1 := hid (expr_any cs HASG.out l HEX.out _ _ w8 (rdp_below HX1.out X8.out) ((HC.out.below X8.out).mono X8.out.size))
          clear h0 HO WAS7 HAD7 X7
          go_wp2_with fail
          refine (HE1.out).mono ?_
          rintro e w10 ⟨g1, k1, z1, rfl, hZ1, hz1l, hR1, h0⟩
          have X10 := hid (X8.out.trans (h0.mono X8.out.size))
          have WAS10 := hid (WAS8.out.below h0)
          have HAD10 := hid (rdp_below HAD8.out h0)
          have hz1n : z1 ≠ [] := by intro e; rw [e] at hz1l; exact HEX.out.ne (List.eq_nil_of_length_eq_zero hz1l.symm)
          have E1 := hR1.rdp hz1n
          rw [hZ1, hz1l] at E1
          have E1 := hid E1
          have HE2 := hid (refExpr_any cs HASG.out l HEX.out _ _ w10 (rdp_below HX1.out X10.out) ((HC.out.below X10.out).mono X10.out.size))
          clear h0 HE1 WAS8 HAD8 X8 hR1 hZ1 hz1l hz1n
          go_wp2_with fail
          refine (HE2.out).mono ?_
          rintro e w11 ⟨g2, k2, z2, rfl, hZ2, hz2l, hR2, h0⟩
          have X11 := hid (X10.out.trans (h0.mono X10.out.size))
          have WAS11 := hid (WAS10.out.below h0)
          have HAD11 := hid (rdp_below HAD10.out h0)
          have hz2n : z2 ≠ [] := by intro e; rw [e] at hz2l; exact HEX.out.ne (List.eq_nil_of_length_eq_zero hz2l.symm)
          have E2 := hR2.rdp hz2n
          rw [hZ2, hz2l] at E2
          have HO := hid (refaone_any (E.fillE cs l) (E.fillE cs l) _ _ w11 (rdp_below E1.out h0) E2)
          rw [show decide (E.fillE cs l = E.fillE cs l) = true from decide_eq_true rfl] at HO
          clear h0 HE2 WAS10 HAD10 X10 hR2 hZ2 hz2l hz2n E1 E2
          go_wp2_with fail
          refine (HO.out).mono ?_
          rintro e w12 ⟨rfl, h0⟩
          have X12 := hid (X11.out.trans (h0.mono X11.out.size))
          have WAS12 := hid (WAS11.out.below h0)
          have HAD12 := hid (rdp_below HAD11.out h0)
          clear h0 HO WAS11 HAD11 X11
          go_wp2_with fail
          refine (HAL.out _).mono ?_
          rintro e w13 ⟨rfl, h0⟩
          have X13 := hid (X12.out.trans (h0.mono X12.out.size))
          have WAS13 := hid (WAS12.out.below h0)
          have HAD13 := hid (rdp_below HAD12.out h0)
          have HO := hid (one_any t t _ _ w13 ((HX.out.low X13.out).mono X13.out.size) WAS13.out.rd)
          rw [show decide (t = t) = true from decide_eq_true rfl] at HO
          clear h0 WAS12 HAD12 X12 HAL
          go_wp2_with fail
          refine (HO.out).mono ?_
          rintro e w14 ⟨rfl, h0⟩
          have X14 := hid (X13.out.trans (h0.mono X13.out.size))
          have HAD14 := hid (rdp_below HAD13.out h0)
          have HO2 := hid (refaone_any l l _ _ w14 (rdp_below HX1.out X14.out) HAD14.out)
          rw [show decide (l = l) = true from decide_eq_true rfl] at HO2
          clear h0 HAD13 X13 HO
          go_wp2_with fail
          refine (HO2.out).mono ?_
          rintro e w15 ⟨rfl, h0⟩
          have X15 := hid (X14.out.trans (h0.mono X14.out.size))
          clear h0 HO2
          go_wp2_with fail
          go_ret
          exact ⟨rfl, X15.out⟩

set_option maxRecDepth 100000 in
theorem assignTypes_lifted (os : Os) (started : os.Started) (H : Type) (enc : TypeId × Value → H) :
    ReturnsInHanded {} Try.checked os 4 .any (Rows.assignTypesSpec.pre6 enc Try.prog Try.f4 Rows.assignTypesRow.domain false) (Rows.assignTypesSpec.post enc Try.prog Try.f4 false true false false) := by
  refine returnsInHanded_of_change (C := Try.checked) own started (by kernel_rfl) Try.func4
    (ChangeSpec.witness6 (enc := enc) (C := Try.checked) false ⟨#[], #[.slice none 0 0, .slice none 0 0, .slice none 0 0], []⟩ 8 (by kernel_rfl) (by kernel_rfl) (by kernel_rfl) (by kernel_rfl)) ?_
  intro W base args ds gs before hval0 hW hcnd _
  have hlts := hW.lt
  have hval : ∀ (j : Nat) t v, Try.f4.params[j]? = some t → args[j]? = some v → Value.okWide Try.prog W .any base t v := hval0
  have hW' := hW
  obtain ⟨p, q, hA0, hV, rfl, hfz, hnd⟩ := hW
  have hA : DataW.TrodAll enc Try.prog W 0 (fun _ => true) true Try.f4.params.toList args.toList ds p := hA0
  rw [Try.params4] at hA hval
  obtain ⟨v0, vs0, d0, ds0, p0, q0, hargs0, rfl, rfl, h0, r0⟩ := trodAll_cons hA
  obtain ⟨v1, vs1, d1, ds1, p1, q1, hargs1, rfl, rfl, h1, r1⟩ := trodAll_cons r0
  obtain ⟨v2, vs2, d2, ds2, p2, q2, hargs2, rfl, rfl, h2, r2⟩ := trodAll_cons r1
  obtain ⟨hn, rfl, rfl⟩ := trodAll_nil r2
  obtain rfl : args = #[v0, v1, v2] := by cases args; simp_all
  obtain ⟨rfl, rfl⟩ := trodVars_none hV
  obtain ⟨sa0, sl0, sc0, hsv0⟩ := okWide_slice Try.underlying25 (hval 0 25 v0 rfl rfl)
  obtain ⟨fuel0, hf0⟩ := h0
  obtain ⟨u0, l0, hu0, hR0, hn0⟩ := rd_of_trod hf0
  obtain rfl : v0 = u0 := by
    rw [hsv0] at hu0
    rw [hsv0]
    simpa [Value.cells] using hu0
  obtain ⟨sa1, sl1, sc1, hsv1⟩ := okWide_slice Try.underlying32 (hval 1 32 v1 rfl rfl)
  obtain ⟨fuel1, hf1⟩ := h1
  obtain ⟨u1, l1, hu1, hR1, hn1⟩ := rdp_of_trod hf1
  obtain rfl : v1 = u1 := by
    rw [hsv1] at hu1
    rw [hsv1]
    simpa [Value.cells] using hu1
  obtain ⟨sa2, sl2, sc2, hsv2⟩ := okWide_slice Try.underlying22 (hval 2 22 v2 rfl rfl)
  obtain ⟨fuel2, hf2⟩ := h2
  obtain ⟨u2, l2, hu2, hR2, hn2⟩ := rdc_of_trod hf2
  obtain rfl : v2 = u2 := by
    rw [hsv2] at hu2
    rw [hsv2]
    simpa [Value.cells] using hu2
  clear hA0 hval0
  simp only [List.append_nil] at hW' hlts
  refine (types_true v0 l0 hR0 hn0 v1 l1 hR1 hn1 v2 l2 hR2 hn2 (W := W)).mono fun e W' ⟨he, hB⟩ => ?_
  subst he
  refine ⟨_, rfl, _, _, _, [], (p0 ++ (p1 ++ (p2 ++ []))), [], by simpa using hW', ?_, ?_, ?_, hB.frame _, fun h => by cases h⟩
  · exact trodAll_cons_mk (shut_bool Try.underlying4 _) trodAll_mk0
  · exact (trodAll_cons_mk (Below.trod (by kernel_rfl) (by kernel_rfl) (of_decide_eq_true (by kernel_rfl)) ⟨fuel0, hf0⟩ hB (fun x hx => hlts x (by simp [hx]))) (trodAll_cons_mk (Below.trod (by kernel_rfl) (by kernel_rfl) (of_decide_eq_true (by kernel_rfl)) ⟨fuel1, hf1⟩ hB (fun x hx => hlts x (by simp [hx]))) (trodAll_cons_mk (Below.trod (by kernel_rfl) (by kernel_rfl) (of_decide_eq_true (by kernel_rfl)) ⟨fuel2, hf2⟩ hB (fun x hx => hlts x (by simp [hx]))) trodAll_mk0)))
  · rfl

/-- AssignTypes: the given statement. -/
theorem assignTypes_holds : Rows.AssignTypesSaid :=
  OpenClaim.holds_of_wide 4 Try.f4 rfl rfl rfl rfl rfl rfl rfl ⟨rfl, rfl, rfl, rfl, rfl⟩ rfl rfl rfl rfl rfl (by kernel_rfl) Try.func4 (by kernel_rfl)
    (of_decide_eq_true (by kernel_rfl)) (by unfold Func.isWrapper; first | (rw [if_pos (by decide +kernel)]; kernel_rfl) | (rw [if_neg (by decide +kernel)]; exact ⟨rfl, rfl⟩))
    (fun os started H enc _ => assignTypes_lifted os started H enc)

end Go.Proofs.Ytmcdggjcpfkchaa.assignTypes
