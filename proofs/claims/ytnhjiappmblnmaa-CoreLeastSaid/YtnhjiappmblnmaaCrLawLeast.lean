/-
  CoreLeast is true for any numbers, any rows of numbers. No conditions.
-/
import Derived.Test.YtnhjiappmblnmaaRows
import Derived.Test.YtnhjiappmblnmaaCrJ
namespace Go.Proofs.Ytnhjiappmblnmaa.coreLeast
open Go.ChangeShapes Go.WideShapes Go.ChangeAt Go.RowKit

theorem own : ownKnob Try.prog.godebug = none := by kernel_rfl

abbrev Post (w : World) (e : Ending) (w' : World) : Prop := e = .returned (.bool true) ∧ Below w.heap.size w w'

set_option maxHeartbeats 16000000 in
set_option maxRecDepth 1000000 in
theorem coreleast_true {W : World} (v_s : Value) (s : List Int) (h_s : RdZ W W.heap.size v_s s) (v_bad : Value) (bad : List (List Int)) (h_bad : RdZZ W W.heap.size v_bad bad) :
    Calls Try.prog 4 #[v_s, v_bad] W (Post W) := by
  obtain ⟨i0, hi, hz0, hz1, hz2⟩ := info_parts info_int
  obtain ⟨iy, hiy, hy0, hy1, hy2⟩ := info_parts info_ints
  have R_s := hid h_s
  obtain ⟨A_s, c_s, rfl, k_s, m_s⟩ := h_s.val
  unfold maxLen at m_s
  have R_bad := hid h_bad
  obtain ⟨A_bad, c_bad, rfl, k_bad, m_bad⟩ := h_bad.val
  unfold maxLen at m_bad
  have BW := hid (Below.refl W.heap.size W)
  obtain ⟨m, hm⟩ : ∃ m, mayB s [] bad = m := ⟨_, rfl⟩
  have HM := hid hm
  have HMA := hid (may_any s [] bad _ _ _ W R_s.out (RdZ.nil _ _) R_bad.out)
  rw [hm] at HMA
  clear hm h_s h_bad
  go_enter Try.func4, Try.ntmps4
  go_wp2_with fail
  refine (HMA.out).mono ?_
  rintro e w1 ⟨he, hb⟩
  subst he
  have HB := hid hb
  clear hb
  have R_s := hid (R_s.out.to HB.out)
  have R_bad := hid (R_bad.out.to HB.out)
  have BW := hid (BW.out.trans (HB.out.mono BW.out.size))
  clear HB
  clear HMA
  cases m with
  | false =>
    go_wp2_with fail
    refine (law_alive w1).mono ?_
    rintro e w2 ⟨he, hb⟩
    subst he
    have HB := hid hb
    clear hb
    have R_s := hid (R_s.out.to HB.out)
    have R_bad := hid (R_bad.out.to HB.out)
    have BW := hid (BW.out.trans (HB.out.mono BW.out.size))
    clear HB
    go_wp2_with fail
    go_ret
    exact ⟨rfl, BW.out⟩
  | true =>
    have M := hid (mayB_yes (s := s) (all := []) (bad := bad) HM.out)
    have hsl := M.out.sl
    have hal := M.out.al
    have hbl := M.out.bn
    clear HM
    clear hal
    obtain ⟨b, hfb⟩ : ∃ b, Cr.fitsB bad s = b := ⟨_, rfl⟩
    have HFB := hid hfb
    clear hfb
    go_wp2_with fail
    cases b with
    | true =>
      refine (coreShrink_any s bad M.out.ss (by omega) M.out.few _ _ w1 R_s.out R_bad.out).mono ?_
      rintro e w2 ⟨v_a, he, hr, hb⟩
      rw [HFB.out] at he
      replace he : e = .returned (.tuple #[v_a, .bool false]) := he
      rw [Cr.shrinkL_no HFB.out] at hr
      subst he
      have HB := hid hb
      clear hb
      have R_s := hid (R_s.out.to HB.out)
      have R_bad := hid (R_bad.out.to HB.out)
      have BW := hid (BW.out.trans (HB.out.mono BW.out.size))
      clear HB
      have R_a := hid hr
      obtain ⟨A_a, c_a, rfl, k_a, m_a⟩ := hr.val
      unfold maxLen at m_a
      clear hr
      go_wp2_with fail
      refine (coreFits_any s bad M.out.ss (by omega) M.out.few _ _ w2 R_s.out R_bad.out).mono ?_
      rintro e w3 ⟨he, hb⟩
      rw [HFB.out] at he
      subst he
      have HB := hid hb
      clear hb
      have R_s := hid (R_s.out.to HB.out)
      have R_bad := hid (R_bad.out.to HB.out)
      have R_a := hid (R_a.out.to HB.out)
      have BW := hid (BW.out.trans (HB.out.mono BW.out.size))
      clear HB
      go_wp2_with fail
      refine (law_alive w3).mono ?_
      rintro e w4 ⟨he, hb⟩
      subst he
      have HB := hid hb
      clear hb
      have R_s := hid (R_s.out.to HB.out)
      have R_bad := hid (R_bad.out.to HB.out)
      have R_a := hid (R_a.out.to HB.out)
      have BW := hid (BW.out.trans (HB.out.mono BW.out.size))
      clear HB
      go_wp2_with fail
      go_ret
      exact ⟨rfl, BW.out⟩
    | false =>
      obtain ⟨d, hd⟩ : ∃ d, Cr.shrinkL s bad = d := ⟨_, rfl⟩
      have HD := hid hd
      have HSET := hid (show Cr.isSet d from hd ▸ Cr.shrinkL_set M.out.ss bad)
      have HMIN := hid (show ∀ n ∈ d, Cr.fitsB bad (Cr.withoutL d n) = true from hd ▸ Cr.shrinkL_min M.out.ss)
      have HUN := hid (show Cr.fitsB bad d = false from hd ▸ Cr.shrinkL_unfit HFB.out)
      have HAG := hid (show Cr.shrinkL d bad = d from hd ▸ Cr.shrinkL_again M.out.ss HFB.out)
      have HSUB := hid (show Cr.subB d s = true from (Cr.subB_iff _ _).2 fun x hx => (Cr.shrinkL_sub s bad).subset (hd ▸ hx))
      have HLE := hid (show Cr.leastB d bad = true from hd ▸ Cr.shrinkL_leastB M.out.ss HFB.out)
      have hdl : d.length ≤ 20 := by have := Cr.shrinkL_len s bad; rw [hd] at this; omega
      have HSB := hid ((Cr.setB_iff d).2 HSET.out)
      clear hd
      refine (coreShrink_any s bad M.out.ss (by omega) M.out.few _ _ w1 R_s.out R_bad.out).mono ?_
      rintro e w2 ⟨v_a, he, hr, hb⟩
      rw [HFB.out] at he
      replace he : e = .returned (.tuple #[v_a, .bool true]) := he
      rw [HD.out] at hr
      subst he
      have HB := hid hb
      clear hb
      have R_s := hid (R_s.out.to HB.out)
      have R_bad := hid (R_bad.out.to HB.out)
      have BW := hid (BW.out.trans (HB.out.mono BW.out.size))
      clear HB
      have R_a := hid hr
      obtain ⟨A_a, c_a, rfl, k_a, m_a⟩ := hr.val
      unfold maxLen at m_a
      clear hr
      go_wp2_with fail
      refine (coreFits_any s bad M.out.ss (by omega) M.out.few _ _ w2 R_s.out R_bad.out).mono ?_
      rintro e w3 ⟨he, hb⟩
      rw [HFB.out] at he
      subst he
      have HB := hid hb
      clear hb
      have R_s := hid (R_s.out.to HB.out)
      have R_bad := hid (R_bad.out.to HB.out)
      have R_a := hid (R_a.out.to HB.out)
      have BW := hid (BW.out.trans (HB.out.mono BW.out.size))
      clear HB
      go_wp2_with fail
      go_loopw [7] (fun v7 wr => ∃ i : Nat, v7 = .int .i64 i ∧ i ≤ d.length ∧ Hid (Below w3.heap.size w3 wr)) (fun v7 _ => d.length - (intOf v7).toNat)
      case atStart => exact ⟨0, rfl, by omega, hid (Below.refl _ _)⟩
      case round =>
        obtain ⟨i, rfl, hi2, hB⟩ := hrel
        obtain ⟨wo, hwo⟩ : ∃ wo : World, wo = wr := ⟨_, rfl⟩
        subst hwo
        by_cases hlt : i < d.length
        · have hiz : (i : Int) < (d.length : Int) := by omega
          obtain ⟨b1, o1, rfl, -, c1⟩ := R_a.out.atv hB.out hlt
          have hfn := HMIN.out d[i] (List.getElem_mem hlt)
          obtain ⟨n, hn⟩ : ∃ n, d[i] = n := ⟨_, rfl⟩
          rw [hn] at c1 hfn
          have HFN := hid hfn
          have HW := hid (without_any d (by omega) n _ wo (R_a.out.to hB.out))
          have hwl : (Cr.withoutL d n).length ≤ d.length := List.length_filter_le _ _
          clear hn hfn
          go_wp2_with fail
          refine (HW.out).mono ?_
          rintro e w4 ⟨v4, rfl, o4, b4⟩
          have B4 := hid (hB.out.trans (b4.mono hB.out.size))
          have HFI := hid (coreFits_any (Cr.withoutL d n) bad (Cr.without_set HSET.out n) (by omega) M.out.few _ _ w4 (o4.rdz (InZ.without R_a.out.inZ n)) (R_bad.out.to B4.out))
          rw [HFN.out] at HFI
          obtain ⟨A4, c4, rfl, -⟩ := o4.val
          clear o4 b4 HW hB
          go_wp2_with fail
          refine (HFI.out).mono ?_
          rintro e w5 ⟨rfl, b5⟩
          have B5 := hid (B4.out.trans (b5.mono B4.out.size))
          clear b5 B4 HFI c1
          go_wp2_with fail
          go_roundw
          case rel => exact ⟨i + 1, by go_num, by omega, B5⟩
          case measure => simp [intOf]; omega
        · have hiz : ¬ (i : Int) < (d.length : Int) := by omega
          have R_s := hid (R_s.out.to hB.out)
          have R_bad := hid (R_bad.out.to hB.out)
          have R_a := hid (R_a.out.to hB.out)
          have BW := hid (BW.out.trans (hB.out.mono BW.out.size))
          clear hB
          go_wp2_with fail
          refine (coreShrink_any d bad HSET.out (by omega) M.out.few _ _ wo R_a.out R_bad.out).mono ?_
          rintro e w4 ⟨v_b, he, hr, hb⟩
          rw [HUN.out] at he
          replace he : e = .returned (.tuple #[v_b, .bool true]) := he
          rw [HAG.out] at hr
          subst he
          have HB := hid hb
          clear hb
          have R_s := hid (R_s.out.to HB.out)
          have R_bad := hid (R_bad.out.to HB.out)
          have R_a := hid (R_a.out.to HB.out)
          have BW := hid (BW.out.trans (HB.out.mono BW.out.size))
          clear HB
          have R_b := hid hr
          obtain ⟨A_b, c_b, rfl, k_b, m_b⟩ := hr.val
          unfold maxLen at m_b
          clear hr
          go_wp2_with fail
          refine (law_alive w4).mono ?_
          rintro e w5 ⟨he, hb⟩
          subst he
          have HB := hid hb
          clear hb
          have R_s := hid (R_s.out.to HB.out)
          have R_bad := hid (R_bad.out.to HB.out)
          have R_a := hid (R_a.out.to HB.out)
          have R_b := hid (R_b.out.to HB.out)
          have BW := hid (BW.out.trans (HB.out.mono BW.out.size))
          clear HB
          go_wp2_with fail
          refine (rset_any d (by omega) _ w5 R_a.out).mono ?_
          rintro e w6 ⟨he, hb⟩
          rw [HSB.out] at he
          subst he
          have HB := hid hb
          clear hb
          have R_s := hid (R_s.out.to HB.out)
          have R_bad := hid (R_bad.out.to HB.out)
          have R_a := hid (R_a.out.to HB.out)
          have R_b := hid (R_b.out.to HB.out)
          have BW := hid (BW.out.trans (HB.out.mono BW.out.size))
          clear HB
          go_wp2_with fail
          refine (part_any d s _ _ w6 R_a.out R_s.out).mono ?_
          rintro e w7 ⟨he, rfl⟩
          rw [HSUB.out] at he
          subst he
          go_wp2_with fail
          refine (coreFits_any d bad HSET.out (by omega) M.out.few _ _ w6 R_a.out R_bad.out).mono ?_
          rintro e w8 ⟨he, hb⟩
          rw [HUN.out] at he
          subst he
          have HB := hid hb
          clear hb
          have R_s := hid (R_s.out.to HB.out)
          have R_bad := hid (R_bad.out.to HB.out)
          have R_a := hid (R_a.out.to HB.out)
          have R_b := hid (R_b.out.to HB.out)
          have BW := hid (BW.out.trans (HB.out.mono BW.out.size))
          clear HB
          go_wp2_with fail
          refine (coreLeast_any d bad HSET.out (by omega) M.out.few _ _ w8 R_a.out R_bad.out).mono ?_
          rintro e w9 ⟨he, hb⟩
          rw [HLE.out] at he
          subst he
          have HB := hid hb
          clear hb
          have R_s := hid (R_s.out.to HB.out)
          have R_bad := hid (R_bad.out.to HB.out)
          have R_a := hid (R_a.out.to HB.out)
          have R_b := hid (R_b.out.to HB.out)
          have BW := hid (BW.out.trans (HB.out.mono BW.out.size))
          clear HB
          go_wp2_with fail
          refine (ints_any d d (by omega) _ _ w9 R_a.out R_b.out).mono ?_
          rintro e w10 ⟨he, hb⟩
          rw [decide_eq_true (Eq.refl d)] at he
          subst he
          have HB := hid hb
          clear hb
          have R_s := hid (R_s.out.to HB.out)
          have R_bad := hid (R_bad.out.to HB.out)
          have R_a := hid (R_a.out.to HB.out)
          have R_b := hid (R_b.out.to HB.out)
          have BW := hid (BW.out.trans (HB.out.mono BW.out.size))
          clear HB
          go_wp2_with fail
          go_ret
          exact ⟨rfl, BW.out⟩

set_option maxRecDepth 100000 in
theorem coreLeast_lifted (os : Os) (started : os.Started) (H : Type) (enc : TypeId × Value → H) :
    ReturnsInHanded {} Try.checked os 4 .any (Rows.coreLeastSpec.pre6 enc Try.prog Try.f4 Rows.coreLeastRow.domain false) (Rows.coreLeastSpec.post enc Try.prog Try.f4 false true false false) := by
  refine returnsInHanded_of_change (C := Try.checked) own started (by kernel_rfl) Try.func4
    (ChangeSpec.witness6 (enc := enc) (C := Try.checked) false ⟨#[], #[.slice none 0 0, .slice none 0 0], []⟩ 8 (by kernel_rfl) (by kernel_rfl) (by kernel_rfl) (by kernel_rfl)) ?_
  intro W base args ds gs before hval0 hW hcnd _
  have hlts := hW.lt
  have hval : ∀ (j : Nat) t v, Try.f4.params[j]? = some t → args[j]? = some v → Value.okWide Try.prog W .any base t v := hval0
  have hW' := hW
  obtain ⟨p, q, hA0, hV, rfl, hfz, hnd⟩ := hW
  have hA : DataW.TrodAll enc Try.prog W 0 (fun _ => true) true Try.f4.params.toList args.toList ds p := hA0
  rw [Try.params4] at hA hval
  obtain ⟨v0, vs0, d0, ds0, p0, q0, hargs0, rfl, rfl, h0, r0⟩ := trodAll_cons hA
  obtain ⟨v1, vs1, d1, ds1, p1, q1, hargs1, rfl, rfl, h1, r1⟩ := trodAll_cons r0
  obtain ⟨hn, rfl, rfl⟩ := trodAll_nil r1
  obtain rfl : args = #[v0, v1] := by cases args; simp_all
  obtain ⟨rfl, rfl⟩ := trodVars_none hV
  obtain ⟨sa0, sl0, sc0, hsv0⟩ := okWide_slice Try.underlying22 (hval 0 22 v0 rfl rfl)
  obtain ⟨fuel0, hf0⟩ := h0
  obtain ⟨u0, l0, hu0, hR0⟩ := rdz_of_trod hf0
  obtain rfl : v0 = u0 := by
    rw [hsv0] at hu0
    rw [hsv0]
    simpa [Value.cells] using hu0
  obtain ⟨sa1, sl1, sc1, hsv1⟩ := okWide_slice Try.underlying23 (hval 1 23 v1 rfl rfl)
  obtain ⟨fuel1, hf1⟩ := h1
  obtain ⟨u1, l1, hu1, hR1⟩ := rdzz_of_trod hf1
  obtain rfl : v1 = u1 := by
    rw [hsv1] at hu1
    rw [hsv1]
    simpa [Value.cells] using hu1
  clear hA0 hval0
  simp only [List.append_nil] at hW' hlts
  refine (coreleast_true v0 l0 hR0 v1 l1 hR1 (W := W)).mono fun e W' ⟨he, hB⟩ => ?_
  subst he
  refine ⟨_, rfl, _, _, _, [], (p0 ++ (p1 ++ [])), [], by simpa using hW', ?_, ?_, ?_, hB.frame _, fun h => by cases h⟩
  · exact trodAll_cons_mk (shut_bool Try.underlying4 _) trodAll_mk0
  · exact (trodAll_cons_mk (Below.trod (by kernel_rfl) (by kernel_rfl) (of_decide_eq_true (by kernel_rfl)) ⟨fuel0, hf0⟩ hB (fun x hx => hlts x (by simp [hx]))) (trodAll_cons_mk (Below.trod (by kernel_rfl) (by kernel_rfl) (of_decide_eq_true (by kernel_rfl)) ⟨fuel1, hf1⟩ hB (fun x hx => hlts x (by simp [hx]))) trodAll_mk0))
  · rfl

/-- CoreLeast: the given statement. -/
theorem coreLeast_holds : Rows.CoreLeastSaid :=
  OpenClaim.holds_of_wide 4 Try.f4 rfl rfl rfl rfl rfl rfl rfl ⟨rfl, rfl, rfl, rfl, rfl⟩ rfl rfl rfl rfl rfl (by kernel_rfl) Try.func4 (by kernel_rfl)
    (of_decide_eq_true (by kernel_rfl)) (by unfold Func.isWrapper; first | (rw [if_pos (by decide +kernel)]; kernel_rfl) | (rw [if_neg (by decide +kernel)]; exact ⟨rfl, rfl⟩))
    (fun os started H enc _ => coreLeast_lifted os started H enc)

end Go.Proofs.Ytnhjiappmblnmaa.coreLeast
