/-
  CoreBad is true for any numbers, any rows of numbers, any numbers. No conditions.
-/
import Derived.Test.YtnhjiappmblnmaaRows
import Derived.Test.YtnhjiappmblnmaaCrJ
namespace Go.Proofs.Ytnhjiappmblnmaa.coreBad
open Go.ChangeShapes Go.WideShapes Go.ChangeAt Go.RowKit

theorem own : ownKnob Try.prog.godebug = none := by kernel_rfl

abbrev Post (w : World) (e : Ending) (w' : World) : Prop := e = .returned (.bool true) ∧ Below w.heap.size w w'

set_option maxHeartbeats 16000000 in
set_option maxRecDepth 1000000 in
theorem corebad_true {W : World} (v_s : Value) (s : List Int) (h_s : RdZ W W.heap.size v_s s) (v_bad : Value) (bad : List (List Int)) (h_bad : RdZZ W W.heap.size v_bad bad) (v_more : Value) (more : List Int) (h_more : RdZ W W.heap.size v_more more) :
    Calls Try.prog 6 #[v_s, v_bad, v_more] W (Post W) := by
  obtain ⟨i0, hi, hz0, hz1, hz2⟩ := info_parts info_int
  obtain ⟨iy, hiy, hy0, hy1, hy2⟩ := info_parts info_ints
  have R_s := hid h_s
  obtain ⟨A_s, c_s, rfl, k_s, m_s⟩ := h_s.val
  unfold maxLen at m_s
  have R_bad := hid h_bad
  obtain ⟨A_bad, c_bad, rfl, k_bad, m_bad⟩ := h_bad.val
  unfold maxLen at m_bad
  have R_more := hid h_more
  obtain ⟨A_more, c_more, rfl, k_more, m_more⟩ := h_more.val
  unfold maxLen at m_more
  have BW := hid (Below.refl W.heap.size W)
  obtain ⟨m, hm⟩ : ∃ m, mayB s more bad = m := ⟨_, rfl⟩
  have HM := hid hm
  have HMA := hid (may_any s more bad _ _ _ W R_s.out R_more.out R_bad.out)
  rw [hm] at HMA
  clear hm h_s h_bad h_more
  go_enter Try.func6, Try.ntmps6
  go_wp2_with fail
  refine (HMA.out).mono ?_
  rintro e w1 ⟨he, hb⟩
  subst he
  have HB := hid hb
  clear hb
  have R_s := hid (R_s.out.to HB.out)
  have R_bad := hid (R_bad.out.to HB.out)
  have R_more := hid (R_more.out.to HB.out)
  have BW := hid (BW.out.trans (HB.out.mono BW.out.size))
  clear HB
  clear HMA
  cases m with
  | false =>
    go_wp2_with fail
    refine (law_alive w1).mono ?_
    rintro e w2 ⟨he, hb⟩
    subst he
    have HB := hid hb
    clear hb
    have R_s := hid (R_s.out.to HB.out)
    have R_bad := hid (R_bad.out.to HB.out)
    have R_more := hid (R_more.out.to HB.out)
    have BW := hid (BW.out.trans (HB.out.mono BW.out.size))
    clear HB
    go_wp2_with fail
    go_ret
    exact ⟨rfl, BW.out⟩
  | true =>
    have M := hid (mayB_yes (s := s) (all := more) (bad := bad) HM.out)
    have hsl := M.out.sl
    have hal := M.out.al
    have hbl := M.out.bn
    clear HM
    obtain ⟨b, hfb⟩ : ∃ b, Cr.fitsB bad s = b := ⟨_, rfl⟩
    have HFB := hid hfb
    clear hfb
    go_wp2_with fail
    go_loop [7, 8] (fun v7 v8 => ∃ (i : Nat) (q : Bool), v7 = .bool q ∧ v8 = .int .i64 i ∧ i ≤ bad.length ∧ Hid (q = Cr.fitsB (bad.take i) s)) (fun _ v8 => bad.length - (intOf v8).toNat)
    case atStart => exact ⟨0, true, rfl, rfl, by omega, hid rfl⟩
    case round =>
      obtain ⟨i, q, rfl, rfl, hi2, hQ⟩ := hrel
      by_cases hlt : i < bad.length
      · have hiz : (i : Int) < (bad.length : Int) := by omega
        have HTK := hid (show Cr.fitsB (bad.take (i + 1)) s = (Cr.fitsB (bad.take i) s && !Cr.subB bad[i] s) by rw [List.take_succ_eq_append_getElem hlt, Cr.fitsB_snoc])
        obtain ⟨b1, o1, A1, c1, rfl, -, x1, r1⟩ := R_bad.out.atv (Below.refl _ _) hlt
        obtain ⟨t, ht⟩ : ∃ t, bad[i] = t := ⟨_, rfl⟩
        rw [ht] at x1 r1 HTK
        have HP := hid (part_any t s _ _ w1 r1 R_s.out)
        obtain ⟨p, hp⟩ : ∃ p, Cr.subB t s = p := ⟨_, rfl⟩
        rw [hp] at HP HTK
        clear ht hp r1
        cases q with
        | true =>
          go_wp2_with fail
          refine (HP.out).mono ?_
          rintro e w9 ⟨rfl, rfl⟩
          have HQ2 := hid (show (!p) = Cr.fitsB (bad.take (i + 1)) s by rw [HTK.out, ← hQ.out]; simp)
          clear hQ HP x1
          go_wp2_with fail
          go_round
          case rel => exact ⟨i + 1, !p, rfl, by go_num, by omega, HQ2⟩
          case measure => simp [intOf]; omega
        | false =>
          have HQ2 := hid (show false = Cr.fitsB (bad.take (i + 1)) s by rw [HTK.out, ← hQ.out]; simp)
          clear hQ HP x1
          go_wp2_with fail
          go_round
          case rel => exact ⟨i + 1, false, rfl, by go_num, by omega, HQ2⟩
          case measure => simp [intOf]; omega
      · have hiz : ¬ (i : Int) < (bad.length : Int) := by omega
        have hqb : q = b := by
          have := hQ.out
          rw [List.take_of_length_le (by omega)] at this
          exact this.trans HFB.out
        subst hqb
        clear hQ
        obtain ⟨d, hd⟩ : ∃ d, Cr.shrinkL s bad = d := ⟨_, rfl⟩
        have HD := hid hd
        have HIN := hid (show q = false → d ∈ bad from fun h => hd ▸ Cr.shrinkL_one M.out.ss M.out.bs (HFB.out.trans h))
        have hdl : d.length ≤ 20 := by have := Cr.shrinkL_len s bad; rw [hd] at this; omega
        clear hd
        go_wp2_with fail
        refine (coreShrink_any s bad M.out.ss (by omega) M.out.few _ _ w1 R_s.out R_bad.out).mono ?_
        rintro e w2 ⟨v_a, he, hr, hb⟩
        rw [HFB.out] at he
        replace he : e = .returned (.tuple #[v_a, .bool (!q)]) := he
        rw [HD.out] at hr
        subst he
        have HB := hid hb
        clear hb
        have R_s := hid (R_s.out.to HB.out)
        have R_bad := hid (R_bad.out.to HB.out)
        have R_more := hid (R_more.out.to HB.out)
        have BW := hid (BW.out.trans (HB.out.mono BW.out.size))
        clear HB
        have R_a := hid hr
        obtain ⟨A_a, c_a, rfl, k_a, m_a⟩ := hr.val
        unfold maxLen at m_a
        clear hr
        go_wp2_with fail
        go_loopw [11, 12] (fun v11 v12 wr => ∃ (j : Nat) (p : Bool), v11 = .bool p ∧ v12 = .int .i64 j ∧ j ≤ bad.length ∧ Hid (p = decide (d ∈ bad.take j)) ∧ Hid (Below w2.heap.size w2 wr)) (fun _ v12 _ => bad.length - (intOf v12).toNat)
        case atStart => exact ⟨0, false, rfl, rfl, by omega, hid (by simp), hid (Below.refl _ _)⟩
        case round =>
          obtain ⟨j, p, rfl, rfl, hj2, hQ, hB⟩ := hrel
          obtain ⟨wo, hwo⟩ : ∃ wo : World, wo = wr := ⟨_, rfl⟩
          subst hwo
          by_cases hjt : j < bad.length
          · have hjz : (j : Int) < (bad.length : Int) := by omega
            have HTK := hid (show decide (d ∈ bad.take (j + 1)) = (decide (d ∈ bad.take j) || decide (bad[j] = d)) by
              rw [List.take_succ_eq_append_getElem hjt, Bool.eq_iff_iff]
              simp only [decide_eq_true_eq, Bool.or_eq_true, List.mem_append, List.mem_singleton]
              exact or_congr Iff.rfl ⟨Eq.symm, Eq.symm⟩)
            have hbl2 := M.out.bl bad[j] (List.getElem_mem hjt)
            obtain ⟨b1, o1, A1, c1, rfl, -, x1, r1⟩ := R_bad.out.atv hB.out hjt
            have hsz := hB.out.size
            obtain ⟨t, ht⟩ : ∃ t, bad[j] = t := ⟨_, rfl⟩
            rw [ht] at x1 r1 HTK hbl2
            have HP := hid (ints_any t d (by omega) _ _ wo (r1.mono hsz) (R_a.out.to hB.out))
            obtain ⟨p2, hp⟩ : ∃ p2, decide (t = d) = p2 := ⟨_, rfl⟩
            rw [hp] at HP HTK
            clear ht hp r1
            cases p with
            | false =>
              go_wp2_with fail
              refine (HP.out).mono ?_
              rintro e w9 ⟨rfl, b9⟩
              have B9 := hid (hB.out.trans (b9.mono hsz))
              have HQ2 := hid (show p2 = decide (d ∈ bad.take (j + 1)) by rw [HTK.out, ← hQ.out]; simp)
              clear hQ HP x1 b9 hB
              go_wp2_with fail
              go_roundw
              case rel => exact ⟨j + 1, p2, rfl, by go_num, by omega, HQ2, B9⟩
              case measure => simp [intOf]; omega
            | true =>
              have HQ2 := hid (show true = decide (d ∈ bad.take (j + 1)) by rw [HTK.out, ← hQ.out]; simp)
              clear hQ HP x1
              go_wp2_with fail
              go_roundw
              case rel => exact ⟨j + 1, true, rfl, by go_num, by omega, HQ2, hB⟩
              case measure => simp [intOf]; omega
          · have hjz : ¬ (j : Int) < (bad.length : Int) := by omega
            have HPI := hid (show p = decide (d ∈ bad) by
              have := hQ.out
              rw [List.take_of_length_le (by omega)] at this
              exact this)
            clear hQ
            have R_s := hid (R_s.out.to hB.out)
            have R_bad := hid (R_bad.out.to hB.out)
            have R_more := hid (R_more.out.to hB.out)
            have R_a := hid (R_a.out.to hB.out)
            have BW := hid (BW.out.trans (hB.out.mono BW.out.size))
            clear hB
            have HMD := hid (OwnY.made wo)
            have HB0 := hid (below_new (w := wo) (.cells #[] 22))
            have HRB := hid (R_bad.out.below HB0.out)
            have HRM := hid (R_more.out.below HB0.out)
            have HMR : Hid ((wo.alloc (.cells #[] 22)).ownsRow wo.heap.size 22 1 (.slice (some ⟨wo.heap.size, 0, none⟩) 0 0) 0 []) := hid (World.ownsRow_made wo #[] 0 (Nat.le_refl _) (Nat.zero_le _) (by simp))
            go_wp2_with (first
              | (at_builtin; refine wpList_appY rfl _ _ rfl rfl wo.heap.size wo.heap.size 0 A_bad bad.length c_bad bad rfl HMR.out rfl HRB.out (by omega) (by simp) ?_; intro v_o wp op bp; have BP := hid (HB0.out.trans bp); have OP := hid op; obtain ⟨A_o, c_o, rfl, k_o, m_o⟩ := op.val; unfold maxLen at m_o; have hszp := BP.out.size; clear op bp; obtain ⟨us, hul, huo, hur⟩ := OP.out; have HOA := hid (show (wp.alloc (.cells #[.slice A_more more.length c_more] 22)).ownsRow wo.heap.size 22 1 (.slice A_o bad.length c_o) bad.length us from World.ownsRow.alloc huo _); have HUL := hid hul; have HUR := hid hur; clear hul huo hur)
              | (at_builtin; refine wpList_append_own _ rfl _ _ 23 rfl wo.heap.size 22 iy (.slice none 0 0) 1 24 Try.underlying23 hiy hy0 hy1 hy2 rfl (by decide) _ _ _ rfl HOA.out ⟨wp.heap.size, 0, none⟩ 1 1 [.slice A_more more.length c_more] rfl rfl (cell_one_new _ _ _) (by intro u hu; simp at hu; subst hu; rfl) (by unfold maxLen; omega) (by omega) (by simp; omega) ?_; intro v_p wq ow gw _; obtain ⟨A_p, c_p, rfl⟩ : ∃ A c, v_p = .slice A (bad.length + 1) c := (by rcases ow.2 with ⟨_, h0⟩ | ⟨g, cap, cur, h, _⟩; exact absurd h0 (by omega); exact ⟨_, _, h⟩)))
            have BQ := hid ((BP.out.alloc hszp (.cells #[.slice A_more more.length c_more] 22)).grown gw (by simp; omega) (fun k hk => (World.ownsRow.lt HOA.out k hk).1))
            have BPQ := hid (show Below wo.heap.size wp wq from ((Below.refl wo.heap.size wp).alloc hszp (.cells #[.slice A_more more.length c_more] 22)).grown gw (by simp; omega) (fun k hk => (World.ownsRow.lt HOA.out k hk).1))
            have OQ := hid (show OwnY wo.heap.size (.slice A_p (bad.length + 1) c_p) (bad ++ [more]) wq from by
              refine ⟨us ++ [.slice A_more more.length c_more], by simp [HUL.out], by rw [List.length_append]; exact ow, fun i a b => ?_⟩
              by_cases hi3 : i < us.length
              · rw [List.getElem_append_left hi3, List.getElem_append_left (by have := HUL.out; omega)]
                exact (HUR.out i hi3 (by have := HUL.out; omega)).below BPQ.out
              · have hie : i = us.length := by simp at a; omega
                subst hie
                have e1 : (us ++ [Value.slice A_more more.length c_more])[us.length]'a = .slice A_more more.length c_more := by simp
                have e2 : (bad ++ [more])[us.length]'b = more := by rw [List.getElem_append_right (by have := HUL.out; omega)]; simp [HUL.out]
                rw [e1, e2]
                exact R_more.out.below BQ.out)
            have ho := OQ.out.rdzz BQ.out.size
            have R_o := hid ho
            clear ho ow gw HOA HUL HUR OQ BPQ OP BP HB0 HMR HMD HRB HRM hszp
            have R_s := hid (R_s.out.to BQ.out)
            have R_bad := hid (R_bad.out.to BQ.out)
            have R_more := hid (R_more.out.to BQ.out)
            have R_a := hid (R_a.out.to BQ.out)
            have BW := hid (BW.out.trans (BQ.out.mono BW.out.size))
            clear BQ
            have FW := hid (show Cr.Few (bad ++ [more]) from ⟨by simp; omega, fun b hb => by
              rcases List.mem_append.1 hb with h | h
              · have := M.out.bl b h; omega
              · rw [List.mem_singleton] at h; rw [h]; omega, fun b hb => by
              rcases List.mem_append.1 hb with h | h
              · exact (M.out.bs b h).nodup
              · rw [List.mem_singleton] at h; rw [h]; exact M.out.sa.nodup⟩)
            have HFO := hid (show Cr.fitsB (bad ++ [more]) s = (q && !Cr.subB more s) by rw [Cr.fitsB_snoc, HFB.out])
            obtain ⟨pm, hpm⟩ : ∃ pm, Cr.subB more s = pm := ⟨_, rfl⟩
            have HPM := hid hpm
            rw [hpm] at HFO
            clear hpm
            refine (law_alive wq).mono ?_
            rintro e w3 ⟨he, hb⟩
            subst he
            have HB := hid hb
            clear hb
            have R_s := hid (R_s.out.to HB.out)
            have R_bad := hid (R_bad.out.to HB.out)
            have R_more := hid (R_more.out.to HB.out)
            have R_a := hid (R_a.out.to HB.out)
            have R_o := hid (R_o.out.to HB.out)
            have BW := hid (BW.out.trans (HB.out.mono BW.out.size))
            clear HB
            go_wp2_with fail
            refine (coreFits_any s bad M.out.ss (by omega) M.out.few _ _ w3 R_s.out R_bad.out).mono ?_
            rintro e w4 ⟨he, hb⟩
            rw [HFB.out] at he
            subst he
            have HB := hid hb
            clear hb
            have R_s := hid (R_s.out.to HB.out)
            have R_bad := hid (R_bad.out.to HB.out)
            have R_more := hid (R_more.out.to HB.out)
            have R_a := hid (R_a.out.to HB.out)
            have R_o := hid (R_o.out.to HB.out)
            have BW := hid (BW.out.trans (HB.out.mono BW.out.size))
            clear HB
            cases q with
            | true =>
              have HFO2 := hid (show Cr.fitsB (bad ++ [more]) s = !pm from HFO.out)
              go_wp2_with fail
              refine (coreFits_any s (bad ++ [more]) M.out.ss (by omega) FW.out _ _ w4 R_s.out R_o.out).mono ?_
              rintro e w5 ⟨he, hb⟩
              rw [HFO2.out] at he
              subst he
              have HB := hid hb
              clear hb
              have R_s := hid (R_s.out.to HB.out)
              have R_bad := hid (R_bad.out.to HB.out)
              have R_more := hid (R_more.out.to HB.out)
              have R_a := hid (R_a.out.to HB.out)
              have R_o := hid (R_o.out.to HB.out)
              have BW := hid (BW.out.trans (HB.out.mono BW.out.size))
              clear HB
              go_wp2_with fail
              refine (part_any more s _ _ w5 R_more.out R_s.out).mono ?_
              rintro e w6 ⟨he, rfl⟩
              rw [HPM.out] at he
              subst he
              go_wp2_with fail
              go_ret
              exact ⟨by simp, BW.out⟩
            | false =>
              have hpt : p = true := by rw [HPI.out]; exact decide_eq_true (HIN.out rfl)
              subst hpt
              have HFO2 := hid (show Cr.fitsB (bad ++ [more]) s = false from HFO.out)
              go_wp2_with fail
              refine (coreFits_any s (bad ++ [more]) M.out.ss (by omega) FW.out _ _ w4 R_s.out R_o.out).mono ?_
              rintro e w5 ⟨he, hb⟩
              rw [HFO2.out] at he
              subst he
              have HB := hid hb
              clear hb
              have R_s := hid (R_s.out.to HB.out)
              have R_bad := hid (R_bad.out.to HB.out)
              have R_more := hid (R_more.out.to HB.out)
              have R_a := hid (R_a.out.to HB.out)
              have R_o := hid (R_o.out.to HB.out)
              have BW := hid (BW.out.trans (HB.out.mono BW.out.size))
              clear HB
              go_wp2_with fail
              refine (coreFits_any s (bad ++ [more]) M.out.ss (by omega) FW.out _ _ w5 R_s.out R_o.out).mono ?_
              rintro e w6 ⟨he, hb⟩
              rw [HFO2.out] at he
              subst he
              have HB := hid hb
              clear hb
              have R_s := hid (R_s.out.to HB.out)
              have R_bad := hid (R_bad.out.to HB.out)
              have R_more := hid (R_more.out.to HB.out)
              have R_a := hid (R_a.out.to HB.out)
              have R_o := hid (R_o.out.to HB.out)
              have BW := hid (BW.out.trans (HB.out.mono BW.out.size))
              clear HB
              go_wp2_with fail
              go_ret
              exact ⟨rfl, BW.out⟩

set_option maxRecDepth 100000 in
theorem coreBad_lifted (os : Os) (started : os.Started) (H : Type) (enc : TypeId × Value → H) :
    ReturnsInHanded {} Try.checked os 6 .any (Rows.coreBadSpec.pre6 enc Try.prog Try.f6 Rows.coreBadRow.domain false) (Rows.coreBadSpec.post enc Try.prog Try.f6 false true false false) := by
  refine returnsInHanded_of_change (C := Try.checked) own started (by kernel_rfl) Try.func6
    (ChangeSpec.witness6 (enc := enc) (C := Try.checked) false ⟨#[], #[.slice none 0 0, .slice none 0 0, .slice none 0 0], []⟩ 8 (by kernel_rfl) (by kernel_rfl) (by kernel_rfl) (by kernel_rfl)) ?_
  intro W base args ds gs before hval0 hW hcnd _
  have hlts := hW.lt
  have hval : ∀ (j : Nat) t v, Try.f6.params[j]? = some t → args[j]? = some v → Value.okWide Try.prog W .any base t v := hval0
  have hW' := hW
  obtain ⟨p, q, hA0, hV, rfl, hfz, hnd⟩ := hW
  have hA : DataW.TrodAll enc Try.prog W 0 (fun _ => true) true Try.f6.params.toList args.toList ds p := hA0
  rw [Try.params6] at hA hval
  obtain ⟨v0, vs0, d0, ds0, p0, q0, hargs0, rfl, rfl, h0, r0⟩ := trodAll_cons hA
  obtain ⟨v1, vs1, d1, ds1, p1, q1, hargs1, rfl, rfl, h1, r1⟩ := trodAll_cons r0
  obtain ⟨v2, vs2, d2, ds2, p2, q2, hargs2, rfl, rfl, h2, r2⟩ := trodAll_cons r1
  obtain ⟨hn, rfl, rfl⟩ := trodAll_nil r2
  obtain rfl : args = #[v0, v1, v2] := by cases args; simp_all
  obtain ⟨rfl, rfl⟩ := trodVars_none hV
  obtain ⟨sa0, sl0, sc0, hsv0⟩ := okWide_slice Try.underlying22 (hval 0 22 v0 rfl rfl)
  obtain ⟨fuel0, hf0⟩ := h0
  obtain ⟨u0, l0, hu0, hR0⟩ := rdz_of_trod hf0
  obtain rfl : v0 = u0 := by
    rw [hsv0] at hu0
    rw [hsv0]
    simpa [Value.cells] using hu0
  obtain ⟨sa1, sl1, sc1, hsv1⟩ := okWide_slice Try.underlying23 (hval 1 23 v1 rfl rfl)
  obtain ⟨fuel1, hf1⟩ := h1
  obtain ⟨u1, l1, hu1, hR1⟩ := rdzz_of_trod hf1
  obtain rfl : v1 = u1 := by
    rw [hsv1] at hu1
    rw [hsv1]
    simpa [Value.cells] using hu1
  obtain ⟨sa2, sl2, sc2, hsv2⟩ := okWide_slice Try.underlying22 (hval 2 22 v2 rfl rfl)
  obtain ⟨fuel2, hf2⟩ := h2
  obtain ⟨u2, l2, hu2, hR2⟩ := rdz_of_trod hf2
  obtain rfl : v2 = u2 := by
    rw [hsv2] at hu2
    rw [hsv2]
    simpa [Value.cells] using hu2
  clear hA0 hval0
  simp only [List.append_nil] at hW' hlts
  refine (corebad_true v0 l0 hR0 v1 l1 hR1 v2 l2 hR2 (W := W)).mono fun e W' ⟨he, hB⟩ => ?_
  subst he
  refine ⟨_, rfl, _, _, _, [], (p0 ++ (p1 ++ (p2 ++ []))), [], by simpa using hW', ?_, ?_, ?_, hB.frame _, fun h => by cases h⟩
  · exact trodAll_cons_mk (shut_bool Try.underlying4 _) trodAll_mk0
  · exact (trodAll_cons_mk (Below.trod (by kernel_rfl) (by kernel_rfl) (of_decide_eq_true (by kernel_rfl)) ⟨fuel0, hf0⟩ hB (fun x hx => hlts x (by simp [hx]))) (trodAll_cons_mk (Below.trod (by kernel_rfl) (by kernel_rfl) (of_decide_eq_true (by kernel_rfl)) ⟨fuel1, hf1⟩ hB (fun x hx => hlts x (by simp [hx]))) (trodAll_cons_mk (Below.trod (by kernel_rfl) (by kernel_rfl) (of_decide_eq_true (by kernel_rfl)) ⟨fuel2, hf2⟩ hB (fun x hx => hlts x (by simp [hx]))) trodAll_mk0)))
  · rfl

/-- CoreBad: the given statement. -/
theorem coreBad_holds : Rows.CoreBadSaid :=
  OpenClaim.holds_of_wide 6 Try.f6 rfl rfl rfl rfl rfl rfl rfl ⟨rfl, rfl, rfl, rfl, rfl⟩ rfl rfl rfl rfl rfl (by kernel_rfl) Try.func6 (by kernel_rfl)
    (of_decide_eq_true (by kernel_rfl)) (by unfold Func.isWrapper; first | (rw [if_pos (by decide +kernel)]; kernel_rfl) | (rw [if_neg (by decide +kernel)]; exact ⟨rfl, rfl⟩))
    (fun os started H enc _ => coreBad_lifted os started H enc)

end Go.Proofs.Ytnhjiappmblnmaa.coreBad
