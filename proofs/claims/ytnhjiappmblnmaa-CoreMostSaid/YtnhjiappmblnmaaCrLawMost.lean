/-
  CoreMost is true for any numbers, any numbers, any rows of numbers. No conditions.
-/
import Derived.Test.YtnhjiappmblnmaaRows
import Derived.Test.YtnhjiappmblnmaaCrJ
namespace Go.Proofs.Ytnhjiappmblnmaa.coreMost
open Go.ChangeShapes Go.WideShapes Go.ChangeAt Go.RowKit

theorem own : ownKnob Try.prog.godebug = none := by kernel_rfl

abbrev Post (w : World) (e : Ending) (w' : World) : Prop := e = .returned (.bool true) ∧ Below w.heap.size w w'

set_option maxHeartbeats 16000000 in
set_option maxRecDepth 1000000 in
theorem coremost_true {W : World} (v_s : Value) (s : List Int) (h_s : RdZ W W.heap.size v_s s) (v_all : Value) (all : List Int) (h_all : RdZ W W.heap.size v_all all) (v_bad : Value) (bad : List (List Int)) (h_bad : RdZZ W W.heap.size v_bad bad) :
    Calls Try.prog 5 #[v_s, v_all, v_bad] W (Post W) := by
  obtain ⟨i0, hi, hz0, hz1, hz2⟩ := info_parts info_int
  obtain ⟨iy, hiy, hy0, hy1, hy2⟩ := info_parts info_ints
  have R_s := hid h_s
  obtain ⟨A_s, c_s, rfl, k_s, m_s⟩ := h_s.val
  unfold maxLen at m_s
  have R_all := hid h_all
  obtain ⟨A_all, c_all, rfl, k_all, m_all⟩ := h_all.val
  unfold maxLen at m_all
  have R_bad := hid h_bad
  obtain ⟨A_bad, c_bad, rfl, k_bad, m_bad⟩ := h_bad.val
  unfold maxLen at m_bad
  have BW := hid (Below.refl W.heap.size W)
  obtain ⟨m, hm⟩ : ∃ m, mayB s all bad = m := ⟨_, rfl⟩
  have HM := hid hm
  have HMA := hid (may_any s all bad _ _ _ W R_s.out R_all.out R_bad.out)
  rw [hm] at HMA
  clear hm h_s h_all h_bad
  go_enter Try.func5, Try.ntmps5
  go_wp2_with fail
  refine (HMA.out).mono ?_
  rintro e w1 ⟨he, hb⟩
  subst he
  have HB := hid hb
  clear hb
  have R_s := hid (R_s.out.to HB.out)
  have R_all := hid (R_all.out.to HB.out)
  have R_bad := hid (R_bad.out.to HB.out)
  have BW := hid (BW.out.trans (HB.out.mono BW.out.size))
  clear HB
  clear HMA
  cases m with
  | false =>
    go_wp2_with fail
    refine (law_alive w1).mono ?_
    rintro e w2 ⟨he, hb⟩
    subst he
    have HB := hid hb
    clear hb
    have R_s := hid (R_s.out.to HB.out)
    have R_all := hid (R_all.out.to HB.out)
    have R_bad := hid (R_bad.out.to HB.out)
    have BW := hid (BW.out.trans (HB.out.mono BW.out.size))
    clear HB
    go_wp2_with fail
    go_ret
    exact ⟨rfl, BW.out⟩
  | true =>
    have M := hid (mayB_yes (s := s) (all := all) (bad := bad) HM.out)
    have hsl := M.out.sl
    have hal := M.out.al
    have hbl := M.out.bn
    clear HM
    obtain ⟨b, hfb⟩ : ∃ b, Cr.fitsB bad s = b := ⟨_, rfl⟩
    have HFB := hid hfb
    clear hfb
    go_wp2_with fail
    cases b with
    | false =>
      refine (coreGrow_any s all bad M.out.ss (by omega) M.out.sa (by omega) M.out.few _ _ _ w1 R_s.out R_all.out R_bad.out).mono ?_
      rintro e w2 ⟨v_a, he, hr, hb⟩
      rw [HFB.out] at he
      replace he : e = .returned (.tuple #[v_a, .bool false]) := he
      rw [Cr.growL_no HFB.out] at hr
      subst he
      have HB := hid hb
      clear hb
      have R_s := hid (R_s.out.to HB.out)
      have R_all := hid (R_all.out.to HB.out)
      have R_bad := hid (R_bad.out.to HB.out)
      have BW := hid (BW.out.trans (HB.out.mono BW.out.size))
      clear HB
      have R_a := hid hr
      obtain ⟨A_a, c_a, rfl, k_a, m_a⟩ := hr.val
      unfold maxLen at m_a
      clear hr
      go_wp2_with fail
      refine (coreFits_any s bad M.out.ss (by omega) M.out.few _ _ w2 R_s.out R_bad.out).mono ?_
      rintro e w3 ⟨he, hb⟩
      rw [HFB.out] at he
      subst he
      have HB := hid hb
      clear hb
      have R_s := hid (R_s.out.to HB.out)
      have R_all := hid (R_all.out.to HB.out)
      have R_bad := hid (R_bad.out.to HB.out)
      have R_a := hid (R_a.out.to HB.out)
      have BW := hid (BW.out.trans (HB.out.mono BW.out.size))
      clear HB
      go_wp2_with fail
      refine (law_alive w3).mono ?_
      rintro e w4 ⟨he, hb⟩
      subst he
      have HB := hid hb
      clear hb
      have R_s := hid (R_s.out.to HB.out)
      have R_all := hid (R_all.out.to HB.out)
      have R_bad := hid (R_bad.out.to HB.out)
      have R_a := hid (R_a.out.to HB.out)
      have BW := hid (BW.out.trans (HB.out.mono BW.out.size))
      clear HB
      go_wp2_with fail
      go_ret
      exact ⟨rfl, BW.out⟩
    | true =>
      obtain ⟨d, hd⟩ : ∃ d, Cr.growL s all bad = d := ⟨_, rfl⟩
      have HD := hid hd
      have hd2 : Cr.growR bad s all = d := by rw [← Cr.growL_yes HFB.out]; exact hd
      have HSET := hid (show Cr.isSet d from hd ▸ Cr.growL_set M.out.ss all bad)
      have HFD := hid (show Cr.fitsB bad d = true from hd2 ▸ Cr.grow_fits bad all s HFB.out)
      have HMO := hid (show ∀ n ∈ all, n ∉ d → Cr.fitsB bad (Cr.withL d n) = false from hd2 ▸ Cr.grow_most bad all s)
      have HAG := hid (show Cr.growL d all bad = d from hd ▸ Cr.growL_again HFB.out)
      have HSUB := hid (show Cr.subB s d = true from (Cr.subB_iff _ _).2 (hd2 ▸ Cr.grow_has bad all s))
      have HMB := hid (show Cr.mostB d all bad = true from hd ▸ Cr.growL_mostB HFB.out)
      have hdl : d.length ≤ 40 := by have := Cr.growL_len s all bad; rw [hd] at this; omega
      have HSB := hid ((Cr.setB_iff d).2 HSET.out)
      clear hd hd2
      refine (coreGrow_any s all bad M.out.ss (by omega) M.out.sa (by omega) M.out.few _ _ _ w1 R_s.out R_all.out R_bad.out).mono ?_
      rintro e w2 ⟨v_a, he, hr, hb⟩
      rw [HFB.out] at he
      replace he : e = .returned (.tuple #[v_a, .bool true]) := he
      rw [HD.out] at hr
      subst he
      have HB := hid hb
      clear hb
      have R_s := hid (R_s.out.to HB.out)
      have R_all := hid (R_all.out.to HB.out)
      have R_bad := hid (R_bad.out.to HB.out)
      have BW := hid (BW.out.trans (HB.out.mono BW.out.size))
      clear HB
      have R_a := hid hr
      obtain ⟨A_a, c_a, rfl, k_a, m_a⟩ := hr.val
      unfold maxLen at m_a
      clear hr
      go_wp2_with fail
      refine (coreFits_any s bad M.out.ss (by omega) M.out.few _ _ w2 R_s.out R_bad.out).mono ?_
      rintro e w3 ⟨he, hb⟩
      rw [HFB.out] at he
      subst he
      have HB := hid hb
      clear hb
      have R_s := hid (R_s.out.to HB.out)
      have R_all := hid (R_all.out.to HB.out)
      have R_bad := hid (R_bad.out.to HB.out)
      have R_a := hid (R_a.out.to HB.out)
      have BW := hid (BW.out.trans (HB.out.mono BW.out.size))
      clear HB
      go_wp2_with fail
      go_loopw [9] (fun v9 wr => ∃ i : Nat, v9 = .int .i64 i ∧ i ≤ all.length ∧ Hid (Below w3.heap.size w3 wr)) (fun v9 _ => all.length - (intOf v9).toNat)
      case atStart => exact ⟨0, rfl, by omega, hid (Below.refl _ _)⟩
      case round =>
        obtain ⟨i, rfl, hi2, hB⟩ := hrel
        obtain ⟨wo, hwo⟩ : ∃ wo : World, wo = wr := ⟨_, rfl⟩
        subst hwo
        by_cases hlt : i < all.length
        · have hiz : (i : Int) < (all.length : Int) := by omega
          obtain ⟨b1, o1, rfl, -, c1⟩ := R_all.out.atv hB.out hlt
          have hmem := List.getElem_mem hlt
          have hzn := R_all.out.inZ all[i] hmem
          have HCK := hid (fun (W1 : World) (h : Below w3.heap.size w3 W1) => R_all.out.atv h hlt)
          obtain ⟨n, hn⟩ : ∃ n, all[i] = n := ⟨_, rfl⟩
          rw [hn] at c1 hmem hzn HCK
          have HZN := hid hzn
          have HMEM := hid hmem
          have HW := hid (with_any d (by omega) n _ wo (R_a.out.to hB.out))
          have hwl := Cr.with_len d n
          clear hn hmem hzn
          by_cases hnd : n ∈ d
          · rw [Cr.with_mem hnd] at HW
            clear hwl hnd
            go_wp2_with fail
            refine (HW.out).mono ?_
            rintro e w4 ⟨v4, rfl, o4, b4⟩
            have B4 := hid (hB.out.trans (b4.mono hB.out.size))
            obtain ⟨A4, c4, rfl, -⟩ := o4.val
            clear o4 b4 HW hB c1
            go_wp2_with fail
            go_roundw
            case rel => exact ⟨i + 1, by go_num, by omega, B4⟩
            case measure => simp [intOf]; omega
          · have HND := hid hnd
            have HUF := hid (HMO.out n HMEM.out hnd)
            have HIN := hid (Cr.left_out HFD.out HUF.out)
            have HWS := hid (Cr.with_set HSET.out n)
            rw [if_neg hnd] at hwl
            obtain ⟨f, hf⟩ : ∃ f, Cr.withL d n = f := ⟨_, rfl⟩
            rw [hf] at HW HUF HIN HWS hwl
            have hz1 : ((f.length : Int) == (d.length : Int)) = false := by rw [beq_eq_false_iff_ne]; omega
            have hfl : f.length ≤ 1000 := by omega
            obtain ⟨g, hg⟩ : ∃ g, Cr.shrinkL f bad = g := ⟨_, rfl⟩
            have HG := hid hg
            rw [hg] at HIN
            have HPT := hid (show Cr.subB [n] g = true from (Cr.subB_iff _ _).2 fun y hy => by rw [List.mem_singleton] at hy; rw [hy]; exact HIN.out)
            have HIF := hid (show ∀ z ∈ f, InZ z from hf ▸ InZ.with R_a.out.inZ HZN.out)
            clear hf hg hnd hwl
            go_wp2_with fail
            refine (HW.out).mono ?_
            rintro e w4 ⟨v4, rfl, o4, b4⟩
            have B4 := hid (hB.out.trans (b4.mono hB.out.size))
            have R4 := hid (o4.rdz HIF.out)
            obtain ⟨A4, c4, rfl, k4, m4⟩ := o4.val
            unfold maxLen at m4
            clear o4 b4 HW hB c1
            go_wp2_with fail
            refine (coreShrink_any f bad HWS.out hfl M.out.few _ _ w4 R4.out (R_bad.out.to B4.out)).mono ?_
            rintro e w5 ⟨v5, he, r5, b5⟩
            rw [HUF.out] at he
            replace he : e = .returned (.tuple #[v5, .bool true]) := he
            subst he
            rw [HG.out] at r5
            have B5 := hid (B4.out.trans (b5.mono B4.out.size))
            have R5 := hid (R4.out.to b5)
            have S5 := hid r5
            obtain ⟨A5, c5, rfl, -⟩ := r5.val
            clear r5 b5 B4 R4
            go_wp2_with fail
            refine (coreFits_any f bad HWS.out hfl M.out.few _ _ w5 R5.out (R_bad.out.to B5.out)).mono ?_
            rintro e w6 ⟨he, b6⟩
            rw [HUF.out] at he
            subst he
            have B6 := hid (B5.out.trans (b6.mono B5.out.size))
            have S6 := hid (S5.out.to b6)
            clear b6 B5 R5 S5
            obtain ⟨b2, o2, e2, -, c2⟩ := HCK.out w6 B6.out
            simp only [Option.some.injEq, Addr.mk.injEq, and_true] at e2
            obtain ⟨rfl, rfl⟩ := e2
            have n67 := below_new (w := w6) (.cells #[.int .i64 n] 3)
            have B7 := hid (B6.out.trans (n67.mono B6.out.size))
            have S7 := hid (S6.out.to n67)
            have L7 := hid (show RdZ (w6.alloc (.cells #[.int .i64 n] 3)) (w6.alloc (.cells #[.int .i64 n] 3)).heap.size (.slice (some ⟨w6.heap.size, 0, none⟩) 1 1) [n] from RdZ.lit (l := [n]) (heap_alloc_new _ _) (by simp) (fun z hz => by rw [List.mem_singleton] at hz; rw [hz]; exact HZN.out) (by simp))
            have HPC := hid (part_any [n] g _ _ _ L7.out S7.out)
            rw [HPT.out] at HPC
            clear n67 S6 L7 B6
            go_wp2_with fail
            refine (HPC.out).mono ?_
            rintro e w8 ⟨rfl, rfl⟩
            clear c2 HPC
            go_wp2_with fail
            go_roundw
            case rel => exact ⟨i + 1, by go_num, by omega, B7⟩
            case measure => simp [intOf]; omega
        · have hiz : ¬ (i : Int) < (all.length : Int) := by omega
          have R_s := hid (R_s.out.to hB.out)
          have R_all := hid (R_all.out.to hB.out)
          have R_bad := hid (R_bad.out.to hB.out)
          have R_a := hid (R_a.out.to hB.out)
          have BW := hid (BW.out.trans (hB.out.mono BW.out.size))
          clear hB
          go_wp2_with fail
          refine (coreGrow_any d all bad HSET.out (by omega) M.out.sa (by omega) M.out.few _ _ _ wo R_a.out R_all.out R_bad.out).mono ?_
          rintro e w4 ⟨v_b, he, hr, hb⟩
          rw [HFD.out] at he
          replace he : e = .returned (.tuple #[v_b, .bool true]) := he
          rw [HAG.out] at hr
          subst he
          have HB := hid hb
          clear hb
          have R_s := hid (R_s.out.to HB.out)
          have R_all := hid (R_all.out.to HB.out)
          have R_bad := hid (R_bad.out.to HB.out)
          have R_a := hid (R_a.out.to HB.out)
          have BW := hid (BW.out.trans (HB.out.mono BW.out.size))
          clear HB
          have R_b := hid hr
          obtain ⟨A_b, c_b, rfl, k_b, m_b⟩ := hr.val
          unfold maxLen at m_b
          clear hr
          go_wp2_with fail
          refine (law_alive w4).mono ?_
          rintro e w5 ⟨he, hb⟩
          subst he
          have HB := hid hb
          clear hb
          have R_s := hid (R_s.out.to HB.out)
          have R_all := hid (R_all.out.to HB.out)
          have R_bad := hid (R_bad.out.to HB.out)
          have R_a := hid (R_a.out.to HB.out)
          have R_b := hid (R_b.out.to HB.out)
          have BW := hid (BW.out.trans (HB.out.mono BW.out.size))
          clear HB
          go_wp2_with fail
          refine (rset_any d (by omega) _ w5 R_a.out).mono ?_
          rintro e w6 ⟨he, hb⟩
          rw [HSB.out] at he
          subst he
          have HB := hid hb
          clear hb
          have R_s := hid (R_s.out.to HB.out)
          have R_all := hid (R_all.out.to HB.out)
          have R_bad := hid (R_bad.out.to HB.out)
          have R_a := hid (R_a.out.to HB.out)
          have R_b := hid (R_b.out.to HB.out)
          have BW := hid (BW.out.trans (HB.out.mono BW.out.size))
          clear HB
          go_wp2_with fail
          refine (part_any s d _ _ w6 R_s.out R_a.out).mono ?_
          rintro e w7 ⟨he, rfl⟩
          rw [HSUB.out] at he
          subst he
          go_wp2_with fail
          refine (coreFits_any d bad HSET.out (by omega) M.out.few _ _ w6 R_a.out R_bad.out).mono ?_
          rintro e w8 ⟨he, hb⟩
          rw [HFD.out] at he
          subst he
          have HB := hid hb
          clear hb
          have R_s := hid (R_s.out.to HB.out)
          have R_all := hid (R_all.out.to HB.out)
          have R_bad := hid (R_bad.out.to HB.out)
          have R_a := hid (R_a.out.to HB.out)
          have R_b := hid (R_b.out.to HB.out)
          have BW := hid (BW.out.trans (HB.out.mono BW.out.size))
          clear HB
          go_wp2_with fail
          refine (coreMost_any d all bad HSET.out (by omega) M.out.sa (by omega) M.out.few _ _ _ w8 R_a.out R_all.out R_bad.out).mono ?_
          rintro e w9 ⟨he, hb⟩
          rw [HMB.out] at he
          subst he
          have HB := hid hb
          clear hb
          have R_s := hid (R_s.out.to HB.out)
          have R_all := hid (R_all.out.to HB.out)
          have R_bad := hid (R_bad.out.to HB.out)
          have R_a := hid (R_a.out.to HB.out)
          have R_b := hid (R_b.out.to HB.out)
          have BW := hid (BW.out.trans (HB.out.mono BW.out.size))
          clear HB
          go_wp2_with fail
          refine (ints_any d d (by omega) _ _ w9 R_a.out R_b.out).mono ?_
          rintro e w10 ⟨he, hb⟩
          rw [decide_eq_true (Eq.refl d)] at he
          subst he
          have HB := hid hb
          clear hb
          have R_s := hid (R_s.out.to HB.out)
          have R_all := hid (R_all.out.to HB.out)
          have R_bad := hid (R_bad.out.to HB.out)
          have R_a := hid (R_a.out.to HB.out)
          have R_b := hid (R_b.out.to HB.out)
          have BW := hid (BW.out.trans (HB.out.mono BW.out.size))
          clear HB
          go_wp2_with fail
          go_ret
          exact ⟨rfl, BW.out⟩

set_option maxRecDepth 100000 in
theorem coreMost_lifted (os : Os) (started : os.Started) (H : Type) (enc : TypeId × Value → H) :
    ReturnsInHanded {} Try.checked os 5 .any (Rows.coreMostSpec.pre6 enc Try.prog Try.f5 Rows.coreMostRow.domain false) (Rows.coreMostSpec.post enc Try.prog Try.f5 false true false false) := by
  refine returnsInHanded_of_change (C := Try.checked) own started (by kernel_rfl) Try.func5
    (ChangeSpec.witness6 (enc := enc) (C := Try.checked) false ⟨#[], #[.slice none 0 0, .slice none 0 0, .slice none 0 0], []⟩ 8 (by kernel_rfl) (by kernel_rfl) (by kernel_rfl) (by kernel_rfl)) ?_
  intro W base args ds gs before hval0 hW hcnd _
  have hlts := hW.lt
  have hval : ∀ (j : Nat) t v, Try.f5.params[j]? = some t → args[j]? = some v → Value.okWide Try.prog W .any base t v := hval0
  have hW' := hW
  obtain ⟨p, q, hA0, hV, rfl, hfz, hnd⟩ := hW
  have hA : DataW.TrodAll enc Try.prog W 0 (fun _ => true) true Try.f5.params.toList args.toList ds p := hA0
  rw [Try.params5] at hA hval
  obtain ⟨v0, vs0, d0, ds0, p0, q0, hargs0, rfl, rfl, h0, r0⟩ := trodAll_cons hA
  obtain ⟨v1, vs1, d1, ds1, p1, q1, hargs1, rfl, rfl, h1, r1⟩ := trodAll_cons r0
  obtain ⟨v2, vs2, d2, ds2, p2, q2, hargs2, rfl, rfl, h2, r2⟩ := trodAll_cons r1
  obtain ⟨hn, rfl, rfl⟩ := trodAll_nil r2
  obtain rfl : args = #[v0, v1, v2] := by cases args; simp_all
  obtain ⟨rfl, rfl⟩ := trodVars_none hV
  obtain ⟨sa0, sl0, sc0, hsv0⟩ := okWide_slice Try.underlying22 (hval 0 22 v0 rfl rfl)
  obtain ⟨fuel0, hf0⟩ := h0
  obtain ⟨u0, l0, hu0, hR0⟩ := rdz_of_trod hf0
  obtain rfl : v0 = u0 := by
    rw [hsv0] at hu0
    rw [hsv0]
    simpa [Value.cells] using hu0
  obtain ⟨sa1, sl1, sc1, hsv1⟩ := okWide_slice Try.underlying22 (hval 1 22 v1 rfl rfl)
  obtain ⟨fuel1, hf1⟩ := h1
  obtain ⟨u1, l1, hu1, hR1⟩ := rdz_of_trod hf1
  obtain rfl : v1 = u1 := by
    rw [hsv1] at hu1
    rw [hsv1]
    simpa [Value.cells] using hu1
  obtain ⟨sa2, sl2, sc2, hsv2⟩ := okWide_slice Try.underlying23 (hval 2 23 v2 rfl rfl)
  obtain ⟨fuel2, hf2⟩ := h2
  obtain ⟨u2, l2, hu2, hR2⟩ := rdzz_of_trod hf2
  obtain rfl : v2 = u2 := by
    rw [hsv2] at hu2
    rw [hsv2]
    simpa [Value.cells] using hu2
  clear hA0 hval0
  simp only [List.append_nil] at hW' hlts
  refine (coremost_true v0 l0 hR0 v1 l1 hR1 v2 l2 hR2 (W := W)).mono fun e W' ⟨he, hB⟩ => ?_
  subst he
  refine ⟨_, rfl, _, _, _, [], (p0 ++ (p1 ++ (p2 ++ []))), [], by simpa using hW', ?_, ?_, ?_, hB.frame _, fun h => by cases h⟩
  · exact trodAll_cons_mk (shut_bool Try.underlying4 _) trodAll_mk0
  · exact (trodAll_cons_mk (Below.trod (by kernel_rfl) (by kernel_rfl) (of_decide_eq_true (by kernel_rfl)) ⟨fuel0, hf0⟩ hB (fun x hx => hlts x (by simp [hx]))) (trodAll_cons_mk (Below.trod (by kernel_rfl) (by kernel_rfl) (of_decide_eq_true (by kernel_rfl)) ⟨fuel1, hf1⟩ hB (fun x hx => hlts x (by simp [hx]))) (trodAll_cons_mk (Below.trod (by kernel_rfl) (by kernel_rfl) (of_decide_eq_true (by kernel_rfl)) ⟨fuel2, hf2⟩ hB (fun x hx => hlts x (by simp [hx]))) trodAll_mk0)))
  · rfl

/-- CoreMost: the given statement. -/
theorem coreMost_holds : Rows.CoreMostSaid :=
  OpenClaim.holds_of_wide 5 Try.f5 rfl rfl rfl rfl rfl rfl rfl ⟨rfl, rfl, rfl, rfl, rfl⟩ rfl rfl rfl rfl rfl (by kernel_rfl) Try.func5 (by kernel_rfl)
    (of_decide_eq_true (by kernel_rfl)) (by unfold Func.isWrapper; first | (rw [if_pos (by decide +kernel)]; kernel_rfl) | (rw [if_neg (by decide +kernel)]; exact ⟨rfl, rfl⟩))
    (fun os started H enc _ => coreMost_lifted os started H enc)

end Go.Proofs.Ytnhjiappmblnmaa.coreMost
