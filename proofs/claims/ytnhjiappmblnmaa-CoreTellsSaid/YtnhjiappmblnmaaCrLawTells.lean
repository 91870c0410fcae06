/-
  CoreTells is true for any numbers, any numbers, any rows of numbers. No conditions.
-/
import Derived.Test.YtnhjiappmblnmaaRows
import Derived.Test.YtnhjiappmblnmaaCrJ
namespace Go.Proofs.Ytnhjiappmblnmaa.coreTells
open Go.ChangeShapes Go.WideShapes Go.ChangeAt Go.RowKit

theorem own : ownKnob Try.prog.godebug = none := by kernel_rfl

abbrev Post (w : World) (e : Ending) (w' : World) : Prop := e = .returned (.bool true) ∧ Below w.heap.size w w'

set_option maxHeartbeats 16000000 in
set_option maxRecDepth 1000000 in
theorem coretells_true {W : World} (v_s : Value) (s : List Int) (h_s : RdZ W W.heap.size v_s s) (v_all : Value) (all : List Int) (h_all : RdZ W W.heap.size v_all all) (v_bad : Value) (bad : List (List Int)) (h_bad : RdZZ W W.heap.size v_bad bad) :
    Calls Try.prog 3 #[v_s, v_all, v_bad] W (Post W) := by
  obtain ⟨i0, hi, hz0, hz1, hz2⟩ := info_parts info_int
  obtain ⟨iy, hiy, hy0, hy1, hy2⟩ := info_parts info_ints
  have R_s := hid h_s
  obtain ⟨A_s, c_s, rfl, k_s, m_s⟩ := h_s.val
  unfold maxLen at m_s
  have R_all := hid h_all
  obtain ⟨A_all, c_all, rfl, k_all, m_all⟩ := h_all.val
  unfold maxLen at m_all
  have R_bad := hid h_bad
  obtain ⟨A_bad, c_bad, rfl, k_bad, m_bad⟩ := h_bad.val
  unfold maxLen at m_bad
  have BW := hid (Below.refl W.heap.size W)
  obtain ⟨m, hm⟩ : ∃ m, mayB s all bad = m := ⟨_, rfl⟩
  have HM := hid hm
  have HMA := hid (may_any s all bad _ _ _ W R_s.out R_all.out R_bad.out)
  rw [hm] at HMA
  clear hm h_s h_all h_bad
  go_enter Try.func3, Try.ntmps3
  go_wp2_with fail
  refine (HMA.out).mono ?_
  rintro e w1 ⟨he, hb⟩
  subst he
  have HB := hid hb
  clear hb
  have R_s := hid (R_s.out.to HB.out)
  have R_all := hid (R_all.out.to HB.out)
  have R_bad := hid (R_bad.out.to HB.out)
  have BW := hid (BW.out.trans (HB.out.mono BW.out.size))
  clear HB
  clear HMA
  cases m with
  | false =>
    go_wp2_with fail
    refine (law_alive w1).mono ?_
    rintro e w2 ⟨he, hb⟩
    subst he
    have HB := hid hb
    clear hb
    have R_s := hid (R_s.out.to HB.out)
    have R_all := hid (R_all.out.to HB.out)
    have R_bad := hid (R_bad.out.to HB.out)
    have BW := hid (BW.out.trans (HB.out.mono BW.out.size))
    clear HB
    go_wp2_with fail
    go_ret
    exact ⟨rfl, BW.out⟩
  | true =>
    have M := hid (mayB_yes (s := s) (all := all) (bad := bad) HM.out)
    have hsl := M.out.sl
    have hal := M.out.al
    have hbl := M.out.bn
    clear HM
    have HMD := hid (OwnZ.made w1)
    have HB0 := hid (below_new (w := w1) (.cells #[] 3))
    have HRS := hid (R_s.out.to HB0.out)
    go_wp2_with (at_builtin; refine wpList_appZ rfl _ _ rfl rfl w1.heap.size w1.heap.size 0 _ A_s s.length c_s s rfl HMD.out rfl HRS.out (by omega) (by simp) ?_; intro v_was w9 o9 g9)
    have HB9 := hid (HB0.out.grown g9 (by simp) (fun k hk => by cases hk; exact Nat.le_refl _))
    have O9 := hid o9
    obtain ⟨A_was, c_was, rfl, k_was, m_was⟩ := o9.val
    unfold maxLen at m_was
    clear o9 g9 HMD HRS HB0
    have R_was := hid (O9.out.rdz R_s.out.inZ)
    clear O9
    have R_s := hid (R_s.out.to HB9.out)
    have R_all := hid (R_all.out.to HB9.out)
    have R_bad := hid (R_bad.out.to HB9.out)
    have BW := hid (BW.out.trans (HB9.out.mono BW.out.size))
    clear HB9
    obtain ⟨b, hfb⟩ : ∃ b, Cr.fitsB bad s = b := ⟨_, rfl⟩
    have HFB := hid hfb
    clear hfb
    cases b
    all_goals
      go_wp2_with fail
      have E1 := hid (show ∃ p q : Bool, p = !q ∧ q = Cr.fitsB bad s from ⟨_, _, rfl, rfl⟩)
      refine (coreShrink_any s bad M.out.ss (by omega) M.out.few _ _ w9 R_s.out R_bad.out).mono ?_
      rintro e w2 ⟨v_a, he, hr, hb⟩
      rw [HFB.out] at he
      replace he : e = .returned (.tuple #[v_a, .bool _]) := he
      subst he
      have HB := hid hb
      clear hb
      have R_s := hid (R_s.out.to HB.out)
      have R_all := hid (R_all.out.to HB.out)
      have R_bad := hid (R_bad.out.to HB.out)
      have R_was := hid (R_was.out.to HB.out)
      have BW := hid (BW.out.trans (HB.out.mono BW.out.size))
      clear HB
      have R_a := hid hr
      obtain ⟨A_a, c_a, rfl, k_a, m_a⟩ := hr.val
      unfold maxLen at m_a
      clear hr
      go_wp2_with fail
      refine (rshrink_any s bad M.out.ss (by omega) _ _ w2 R_s.out R_bad.out).mono ?_
      rintro e w3 ⟨v_b, he, hr, hb⟩
      rw [HFB.out] at he
      replace he : e = .returned (.tuple #[v_b, .bool _]) := he
      subst he
      have HB := hid hb
      clear hb
      have R_s := hid (R_s.out.to HB.out)
      have R_all := hid (R_all.out.to HB.out)
      have R_bad := hid (R_bad.out.to HB.out)
      have R_was := hid (R_was.out.to HB.out)
      have R_a := hid (R_a.out.to HB.out)
      have BW := hid (BW.out.trans (HB.out.mono BW.out.size))
      clear HB
      have R_b := hid hr
      obtain ⟨A_b, c_b, rfl, k_b, m_b⟩ := hr.val
      unfold maxLen at m_b
      clear hr
      go_wp2_with fail
      refine (coreGrow_any s all bad M.out.ss (by omega) M.out.sa (by omega) M.out.few _ _ _ w3 R_s.out R_all.out R_bad.out).mono ?_
      rintro e w4 ⟨v_c, he, hr, hb⟩
      rw [HFB.out] at he
      replace he : e = .returned (.tuple #[v_c, .bool _]) := he
      subst he
      have HB := hid hb
      clear hb
      have R_s := hid (R_s.out.to HB.out)
      have R_all := hid (R_all.out.to HB.out)
      have R_bad := hid (R_bad.out.to HB.out)
      have R_was := hid (R_was.out.to HB.out)
      have R_a := hid (R_a.out.to HB.out)
      have R_b := hid (R_b.out.to HB.out)
      have BW := hid (BW.out.trans (HB.out.mono BW.out.size))
      clear HB
      have R_c := hid hr
      obtain ⟨A_c, c_c, rfl, k_c, m_c⟩ := hr.val
      unfold maxLen at m_c
      clear hr
      go_wp2_with fail
      refine (rgrow_any s all bad (by omega) _ _ _ w4 R_s.out R_all.out R_bad.out).mono ?_
      rintro e w5 ⟨v_d, he, hr, hb⟩
      rw [HFB.out] at he
      replace he : e = .returned (.tuple #[v_d, .bool _]) := he
      subst he
      have HB := hid hb
      clear hb
      have R_s := hid (R_s.out.to HB.out)
      have R_all := hid (R_all.out.to HB.out)
      have R_bad := hid (R_bad.out.to HB.out)
      have R_was := hid (R_was.out.to HB.out)
      have R_a := hid (R_a.out.to HB.out)
      have R_b := hid (R_b.out.to HB.out)
      have R_c := hid (R_c.out.to HB.out)
      have BW := hid (BW.out.trans (HB.out.mono BW.out.size))
      clear HB
      have R_d := hid hr
      obtain ⟨A_d, c_d, rfl, k_d, m_d⟩ := hr.val
      unfold maxLen at m_d
      clear hr
      go_wp2_with fail
      have HLA := hid (Cr.shrinkL_len s bad)
      have HLC := hid (Cr.growL_len s all bad)
      refine (ints_any (Cr.shrinkL s bad) (Cr.shrinkL s bad) (by have := HLA.out; omega) _ _ w5 R_a.out R_b.out).mono ?_
      rintro e w6 ⟨he, hb⟩
      rw [decide_eq_true (Eq.refl (Cr.shrinkL s bad))] at he
      subst he
      have HB := hid hb
      clear hb
      have R_s := hid (R_s.out.to HB.out)
      have R_all := hid (R_all.out.to HB.out)
      have R_bad := hid (R_bad.out.to HB.out)
      have R_was := hid (R_was.out.to HB.out)
      have R_a := hid (R_a.out.to HB.out)
      have R_b := hid (R_b.out.to HB.out)
      have R_c := hid (R_c.out.to HB.out)
      have R_d := hid (R_d.out.to HB.out)
      have BW := hid (BW.out.trans (HB.out.mono BW.out.size))
      clear HB
      go_wp2_with fail
      refine (ints_any (Cr.growL s all bad) (Cr.growL s all bad) (by have := HLC.out; omega) _ _ w6 R_c.out R_d.out).mono ?_
      rintro e w7 ⟨he, hb⟩
      rw [decide_eq_true (Eq.refl (Cr.growL s all bad))] at he
      subst he
      have HB := hid hb
      clear hb
      have R_s := hid (R_s.out.to HB.out)
      have R_all := hid (R_all.out.to HB.out)
      have R_bad := hid (R_bad.out.to HB.out)
      have R_was := hid (R_was.out.to HB.out)
      have R_a := hid (R_a.out.to HB.out)
      have R_b := hid (R_b.out.to HB.out)
      have R_c := hid (R_c.out.to HB.out)
      have R_d := hid (R_d.out.to HB.out)
      have BW := hid (BW.out.trans (HB.out.mono BW.out.size))
      clear HB
      go_wp2_with fail
      refine (coreFits_any s bad M.out.ss (by omega) M.out.few _ _ w7 R_s.out R_bad.out).mono ?_
      rintro e w8 ⟨he, hb⟩
      rw [HFB.out] at he
      subst he
      have HB := hid hb
      clear hb
      have R_s := hid (R_s.out.to HB.out)
      have R_all := hid (R_all.out.to HB.out)
      have R_bad := hid (R_bad.out.to HB.out)
      have R_was := hid (R_was.out.to HB.out)
      have R_a := hid (R_a.out.to HB.out)
      have R_b := hid (R_b.out.to HB.out)
      have R_c := hid (R_c.out.to HB.out)
      have R_d := hid (R_d.out.to HB.out)
      have BW := hid (BW.out.trans (HB.out.mono BW.out.size))
      clear HB
      go_wp2_with fail
      refine (rfits_any bad s _ _ w8 R_bad.out R_s.out).mono ?_
      rintro e w9 ⟨he, rfl⟩
      rw [HFB.out] at he
      subst he
      go_wp2_with fail
      refine (coreLeast_any s bad M.out.ss (by omega) M.out.few _ _ w8 R_s.out R_bad.out).mono ?_
      rintro e w10 ⟨he, hb⟩
      subst he
      have HB := hid hb
      clear hb
      have R_s := hid (R_s.out.to HB.out)
      have R_all := hid (R_all.out.to HB.out)
      have R_bad := hid (R_bad.out.to HB.out)
      have R_was := hid (R_was.out.to HB.out)
      have R_a := hid (R_a.out.to HB.out)
      have R_b := hid (R_b.out.to HB.out)
      have R_c := hid (R_c.out.to HB.out)
      have R_d := hid (R_d.out.to HB.out)
      have BW := hid (BW.out.trans (HB.out.mono BW.out.size))
      clear HB
      go_wp2_with fail
      refine (rleast_any s bad (by omega) _ _ w10 R_s.out R_bad.out).mono ?_
      rintro e w11 ⟨he, hb⟩
      subst he
      have HB := hid hb
      clear hb
      have R_s := hid (R_s.out.to HB.out)
      have R_all := hid (R_all.out.to HB.out)
      have R_bad := hid (R_bad.out.to HB.out)
      have R_was := hid (R_was.out.to HB.out)
      have R_a := hid (R_a.out.to HB.out)
      have R_b := hid (R_b.out.to HB.out)
      have R_c := hid (R_c.out.to HB.out)
      have R_d := hid (R_d.out.to HB.out)
      have BW := hid (BW.out.trans (HB.out.mono BW.out.size))
      clear HB
      go_wp2_with fail
      refine (coreMost_any s all bad M.out.ss (by omega) M.out.sa (by omega) M.out.few _ _ _ w11 R_s.out R_all.out R_bad.out).mono ?_
      rintro e w12 ⟨he, hb⟩
      subst he
      have HB := hid hb
      clear hb
      have R_s := hid (R_s.out.to HB.out)
      have R_all := hid (R_all.out.to HB.out)
      have R_bad := hid (R_bad.out.to HB.out)
      have R_was := hid (R_was.out.to HB.out)
      have R_a := hid (R_a.out.to HB.out)
      have R_b := hid (R_b.out.to HB.out)
      have R_c := hid (R_c.out.to HB.out)
      have R_d := hid (R_d.out.to HB.out)
      have BW := hid (BW.out.trans (HB.out.mono BW.out.size))
      clear HB
      go_wp2_with fail
      refine (rmost_any s all bad (by omega) _ _ _ w12 R_s.out R_all.out R_bad.out).mono ?_
      rintro e w13 ⟨he, hb⟩
      subst he
      have HB := hid hb
      clear hb
      have R_s := hid (R_s.out.to HB.out)
      have R_all := hid (R_all.out.to HB.out)
      have R_bad := hid (R_bad.out.to HB.out)
      have R_was := hid (R_was.out.to HB.out)
      have R_a := hid (R_a.out.to HB.out)
      have R_b := hid (R_b.out.to HB.out)
      have R_c := hid (R_c.out.to HB.out)
      have R_d := hid (R_d.out.to HB.out)
      have BW := hid (BW.out.trans (HB.out.mono BW.out.size))
      clear HB
      go_wp2_with fail
      refine (law_alive w13).mono ?_
      rintro e w14 ⟨he, hb⟩
      subst he
      have HB := hid hb
      clear hb
      have R_s := hid (R_s.out.to HB.out)
      have R_all := hid (R_all.out.to HB.out)
      have R_bad := hid (R_bad.out.to HB.out)
      have R_was := hid (R_was.out.to HB.out)
      have R_a := hid (R_a.out.to HB.out)
      have R_b := hid (R_b.out.to HB.out)
      have R_c := hid (R_c.out.to HB.out)
      have R_d := hid (R_d.out.to HB.out)
      have BW := hid (BW.out.trans (HB.out.mono BW.out.size))
      clear HB
      go_wp2_with fail
      refine (ints_any s s (by omega) _ _ w14 R_s.out R_was.out).mono ?_
      rintro e w15 ⟨he, hb⟩
      rw [decide_eq_true (Eq.refl s)] at he
      subst he
      have HB := hid hb
      clear hb
      have R_s := hid (R_s.out.to HB.out)
      have R_all := hid (R_all.out.to HB.out)
      have R_bad := hid (R_bad.out.to HB.out)
      have R_was := hid (R_was.out.to HB.out)
      have R_a := hid (R_a.out.to HB.out)
      have R_b := hid (R_b.out.to HB.out)
      have R_c := hid (R_c.out.to HB.out)
      have R_d := hid (R_d.out.to HB.out)
      have BW := hid (BW.out.trans (HB.out.mono BW.out.size))
      clear HB
      go_wp2_with fail
      go_ret
      exact ⟨rfl, BW.out⟩

set_option maxRecDepth 100000 in
theorem coreTells_lifted (os : Os) (started : os.Started) (H : Type) (enc : TypeId × Value → H) :
    ReturnsInHanded {} Try.checked os 3 .any (Rows.coreTellsSpec.pre6 enc Try.prog Try.f3 Rows.coreTellsRow.domain false) (Rows.coreTellsSpec.post enc Try.prog Try.f3 false true false false) := by
  refine returnsInHanded_of_change (C := Try.checked) own started (by kernel_rfl) Try.func3
    (ChangeSpec.witness6 (enc := enc) (C := Try.checked) false ⟨#[], #[.slice none 0 0, .slice none 0 0, .slice none 0 0], []⟩ 8 (by kernel_rfl) (by kernel_rfl) (by kernel_rfl) (by kernel_rfl)) ?_
  intro W base args ds gs before hval0 hW hcnd _
  have hlts := hW.lt
  have hval : ∀ (j : Nat) t v, Try.f3.params[j]? = some t → args[j]? = some v → Value.okWide Try.prog W .any base t v := hval0
  have hW' := hW
  obtain ⟨p, q, hA0, hV, rfl, hfz, hnd⟩ := hW
  have hA : DataW.TrodAll enc Try.prog W 0 (fun _ => true) true Try.f3.params.toList args.toList ds p := hA0
  rw [Try.params3] at hA hval
  obtain ⟨v0, vs0, d0, ds0, p0, q0, hargs0, rfl, rfl, h0, r0⟩ := trodAll_cons hA
  obtain ⟨v1, vs1, d1, ds1, p1, q1, hargs1, rfl, rfl, h1, r1⟩ := trodAll_cons r0
  obtain ⟨v2, vs2, d2, ds2, p2, q2, hargs2, rfl, rfl, h2, r2⟩ := trodAll_cons r1
  obtain ⟨hn, rfl, rfl⟩ := trodAll_nil r2
  obtain rfl : args = #[v0, v1, v2] := by cases args; simp_all
  obtain ⟨rfl, rfl⟩ := trodVars_none hV
  obtain ⟨sa0, sl0, sc0, hsv0⟩ := okWide_slice Try.underlying22 (hval 0 22 v0 rfl rfl)
  obtain ⟨fuel0, hf0⟩ := h0
  obtain ⟨u0, l0, hu0, hR0⟩ := rdz_of_trod hf0
  obtain rfl : v0 = u0 := by
    rw [hsv0] at hu0
    rw [hsv0]
    simpa [Value.cells] using hu0
  obtain ⟨sa1, sl1, sc1, hsv1⟩ := okWide_slice Try.underlying22 (hval 1 22 v1 rfl rfl)
  obtain ⟨fuel1, hf1⟩ := h1
  obtain ⟨u1, l1, hu1, hR1⟩ := rdz_of_trod hf1
  obtain rfl : v1 = u1 := by
    rw [hsv1] at hu1
    rw [hsv1]
    simpa [Value.cells] using hu1
  obtain ⟨sa2, sl2, sc2, hsv2⟩ := okWide_slice Try.underlying23 (hval 2 23 v2 rfl rfl)
  obtain ⟨fuel2, hf2⟩ := h2
  obtain ⟨u2, l2, hu2, hR2⟩ := rdzz_of_trod hf2
  obtain rfl : v2 = u2 := by
    rw [hsv2] at hu2
    rw [hsv2]
    simpa [Value.cells] using hu2
  clear hA0 hval0
  simp only [List.append_nil] at hW' hlts
  refine (coretells_true v0 l0 hR0 v1 l1 hR1 v2 l2 hR2 (W := W)).mono fun e W' ⟨he, hB⟩ => ?_
  subst he
  refine ⟨_, rfl, _, _, _, [], (p0 ++ (p1 ++ (p2 ++ []))), [], by simpa using hW', ?_, ?_, ?_, hB.frame _, fun h => by cases h⟩
  · exact trodAll_cons_mk (shut_bool Try.underlying4 _) trodAll_mk0
  · exact (trodAll_cons_mk (Below.trod (by kernel_rfl) (by kernel_rfl) (of_decide_eq_true (by kernel_rfl)) ⟨fuel0, hf0⟩ hB (fun x hx => hlts x (by simp [hx]))) (trodAll_cons_mk (Below.trod (by kernel_rfl) (by kernel_rfl) (of_decide_eq_true (by kernel_rfl)) ⟨fuel1, hf1⟩ hB (fun x hx => hlts x (by simp [hx]))) (trodAll_cons_mk (Below.trod (by kernel_rfl) (by kernel_rfl) (of_decide_eq_true (by kernel_rfl)) ⟨fuel2, hf2⟩ hB (fun x hx => hlts x (by simp [hx]))) trodAll_mk0)))
  · rfl

/-- CoreTells: the given statement. -/
theorem coreTells_holds : Rows.CoreTellsSaid :=
  OpenClaim.holds_of_wide 3 Try.f3 rfl rfl rfl rfl rfl rfl rfl ⟨rfl, rfl, rfl, rfl, rfl⟩ rfl rfl rfl rfl rfl (by kernel_rfl) Try.func3 (by kernel_rfl)
    (of_decide_eq_true (by kernel_rfl)) (by unfold Func.isWrapper; first | (rw [if_pos (by decide +kernel)]; kernel_rfl) | (rw [if_neg (by decide +kernel)]; exact ⟨rfl, rfl⟩))
    (fun os started H enc _ => coreTells_lifted os started H enc)

end Go.Proofs.Ytnhjiappmblnmaa.coreTells
