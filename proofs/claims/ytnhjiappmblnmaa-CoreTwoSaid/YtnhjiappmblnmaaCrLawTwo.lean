/-
  CoreTwo is true for any numbers, any numbers, any rows of numbers. No conditions.
-/
import Derived.Test.YtnhjiappmblnmaaRows
import Derived.Test.YtnhjiappmblnmaaCrJ
namespace Go.Proofs.Ytnhjiappmblnmaa.coreTwo
open Go.ChangeShapes Go.WideShapes Go.ChangeAt Go.RowKit

theorem own : ownKnob Try.prog.godebug = none := by kernel_rfl

abbrev Post (w : World) (e : Ending) (w' : World) : Prop := e = .returned (.bool true) ∧ Below w.heap.size w w'

set_option maxHeartbeats 16000000 in
set_option maxRecDepth 1000000 in
theorem coretwo_true {W : World} (v_s : Value) (s : List Int) (h_s : RdZ W W.heap.size v_s s) (v_all : Value) (all : List Int) (h_all : RdZ W W.heap.size v_all all) (v_bad : Value) (bad : List (List Int)) (h_bad : RdZZ W W.heap.size v_bad bad) :
    Calls Try.prog 7 #[v_s, v_all, v_bad] W (Post W) := by
  obtain ⟨i0, hi, hz0, hz1, hz2⟩ := info_parts info_int
  obtain ⟨iy, hiy, hy0, hy1, hy2⟩ := info_parts info_ints
  have R_s := hid h_s
  obtain ⟨A_s, c_s, rfl, k_s, m_s⟩ := h_s.val
  unfold maxLen at m_s
  have R_all := hid h_all
  obtain ⟨A_all, c_all, rfl, k_all, m_all⟩ := h_all.val
  unfold maxLen at m_all
  have R_bad := hid h_bad
  obtain ⟨A_bad, c_bad, rfl, k_bad, m_bad⟩ := h_bad.val
  unfold maxLen at m_bad
  have BW := hid (Below.refl W.heap.size W)
  obtain ⟨m, hm⟩ : ∃ m, mayB s all bad = m := ⟨_, rfl⟩
  have HM := hid hm
  have HMA := hid (may_any s all bad _ _ _ W R_s.out R_all.out R_bad.out)
  rw [hm] at HMA
  clear hm h_s h_all h_bad
  go_enter Try.func7, Try.ntmps7
  go_wp2_with fail
  refine (HMA.out).mono ?_
  rintro e w1 ⟨he, hb⟩
  subst he
  have HB := hid hb
  clear hb
  have R_s := hid (R_s.out.to HB.out)
  have R_all := hid (R_all.out.to HB.out)
  have R_bad := hid (R_bad.out.to HB.out)
  have BW := hid (BW.out.trans (HB.out.mono BW.out.size))
  clear HB
  clear HMA
  cases m with
  | false =>
    go_wp2_with fail
    refine (law_alive w1).mono ?_
    rintro e w2 ⟨he, hb⟩
    subst he
    have HB := hid hb
    clear hb
    have R_s := hid (R_s.out.to HB.out)
    have R_all := hid (R_all.out.to HB.out)
    have R_bad := hid (R_bad.out.to HB.out)
    have BW := hid (BW.out.trans (HB.out.mono BW.out.size))
    clear HB
    go_wp2_with fail
    go_ret
    exact ⟨rfl, BW.out⟩
  | true =>
    have M := hid (mayB_yes (s := s) (all := all) (bad := bad) HM.out)
    have hsl := M.out.sl
    have hal := M.out.al
    have hbl := M.out.bn
    clear HM
    obtain ⟨w9, hw9⟩ : ∃ w9, w1.alloc (.cells #[] 22) = w9 := ⟨_, rfl⟩
    have HMD := hid (show OwnY w1.heap.size (.slice (some ⟨w1.heap.size, 0, none⟩) 0 0) [] w9 from hw9 ▸ OwnY.made w1)
    have HB0 := hid (show Below w1.heap.size w1 w9 from hw9 ▸ below_new _)
    have HZ9 := hid (show w1.heap.size ≤ w9.heap.size from HB0.out.size)
    go_wp2_with fail
    skip
    clear hw9
    go_loopw [7, 8] (fun v7 v8 wr => ∃ (j : Nat) (z : Int), v8 = .int .i64 z ∧ Hid (z = (j : Int) - 1) ∧ -1 ≤ z ∧ z < (bad.length : Int) ∧ Hid (OwnY w1.heap.size v7 (bad.drop j).reverse wr) ∧ Hid (Below w1.heap.size w1 wr)) (fun _ v8 _ => (intOf v8 + 1).toNat)
    case atStart => exact ⟨bad.length, _, rfl, hid rfl, by omega, by omega, hid (by simpa using HMD.out), HB0⟩
    case round =>
      obtain ⟨j, z, rfl, hz, hzl, hzu, hO, hB⟩ := hrel
      obtain ⟨wo, hwo⟩ : ∃ wo : World, wo = wr := ⟨_, rfl⟩
      subst hwo
      have hsz := hB.out.size
      by_cases hj : 0 < j
      · obtain ⟨k, rfl⟩ : ∃ k, j = k + 1 := ⟨j - 1, by omega⟩
        obtain rfl : z = (k : Int) := by have := hz.out; omega
        have hlt : k < bad.length := by omega
        have hg0 : (0 : Int) ≤ (k : Int) := by omega
        have hgd : decide ((0 : Int) ≤ (k : Int)) = true := decide_eq_true hg0
        have HTK := hid (show (bad.drop k).reverse = (bad.drop (k + 1)).reverse ++ [bad[k]] by rw [List.drop_eq_getElem_cons hlt]; simp)
        obtain ⟨b1, o1, A1, c1, rfl, -, x1, r1⟩ := R_bad.out.atv hB.out hlt
        skip
        obtain ⟨t, ht⟩ : ∃ t, bad[k] = t := ⟨_, rfl⟩
        rw [ht] at x1 r1 HTK
        clear ht hz
        obtain ⟨us, hul, huo, hur⟩ := hO.out
        have hrl : (bad.drop (k + 1)).reverse.length ≤ 20 := by simp; omega
        obtain ⟨rv, hrv⟩ : ∃ rv, (bad.drop (k + 1)).reverse = rv := ⟨_, rfl⟩
        rw [hrv] at HTK hul huo hur hrl
        have HOA := hid (show (wo.alloc (.cells #[.slice A1 t.length c1] 22)).ownsRow w1.heap.size 22 1 u7 rv.length us from World.ownsRow.alloc huo _)
        have HUL := hid hul
        have HUR := hid hur
        have HR1 := hid r1
        clear hrv hul huo hur hO r1
        go_wp2_with (at_builtin; refine wpList_append_own _ rfl _ _ 23 rfl w1.heap.size 22 iy (.slice none 0 0) 1 24 Try.underlying23 hiy hy0 hy1 hy2 rfl (by decide) _ _ _ rfl HOA.out ⟨wo.heap.size, 0, none⟩ 1 1 [.slice A1 t.length c1] rfl rfl (cell_one_new _ _ _) (by intro u hu; simp at hu; subst hu; rfl) (by unfold maxLen; omega) (by omega) (by simp; omega) ?_; intro v_p wq ow gw _)
        have BPQ := hid (show Below w1.heap.size wo wq from ((Below.refl w1.heap.size wo).alloc hsz (.cells #[.slice A1 t.length c1] 22)).grown gw (by simp; omega) (fun k hk => (World.ownsRow.lt HOA.out k hk).1))
        have BQ := hid (hB.out.trans BPQ.out)
        have OQ := hid (show OwnY w1.heap.size v_p (bad.drop k).reverse wq from by
          rw [HTK.out]
          refine ⟨us ++ [.slice A1 t.length c1], by simp [HUL.out], by rw [List.length_append]; exact ow, fun i a b => ?_⟩
          by_cases hi3 : i < us.length
          · rw [List.getElem_append_left hi3, List.getElem_append_left (by have := HUL.out; omega)]
            exact (HUR.out i hi3 (by have := HUL.out; omega)).below BPQ.out
          · have hie : i = us.length := by simp at a; omega
            subst hie
            have e1 : (us ++ [Value.slice A1 t.length c1])[us.length]'a = .slice A1 t.length c1 := by simp
            have e2 : (rv ++ [t])[us.length]'b = t := by rw [List.getElem_append_right (by have := HUL.out; omega)]; simp [HUL.out]
            rw [e1, e2]
            exact HR1.out.below BPQ.out)
        clear ow gw HOA HUL HUR HR1 HTK x1 hB hg0 hgd
        have HZK := hid (show ((k : Int) - 1) = ((k : Nat) : Int) - 1 from rfl)
        go_wp2_with fail
        go_roundw
        case rel => exact ⟨k, (k : Int) - 1, rfl, HZK, by omega, by omega, OQ, BQ⟩
        case measure => simp [intOf] <;> omega
      · obtain rfl : j = 0 := by omega
        obtain rfl : z = -1 := by have := hz.out; omega
        have hgd : decide ((0 : Int) ≤ (-1 : Int)) = false := by decide
        clear hz
        rw [List.drop_zero] at hO
        obtain ⟨rb, hrb⟩ : ∃ rb, bad.reverse = rb := ⟨_, rfl⟩
        have HRB := hid (show ∀ b, b ∈ bad ↔ b ∈ rb from fun b => by rw [← hrb]; simp)
        have hrl : rb.length = bad.length := by rw [← hrb]; simp
        have hrl2 : rb.length ≤ 20 := by omega
        rw [hrb] at hO
        clear hrb hrl
        have R_o := hid (hO.out.rdzz hsz)
        obtain ⟨A_o, c_o, rfl, k_o, m_o⟩ := hO.out.val
        unfold maxLen at m_o
        clear hO
        have R_s := hid (R_s.out.to hB.out)
        have R_all := hid (R_all.out.to hB.out)
        have R_bad := hid (R_bad.out.to hB.out)
        have BW := hid (BW.out.trans (hB.out.mono BW.out.size))
        clear hB
        have FW := hid (show Cr.Few rb from ⟨by omega, fun b hb => by have := M.out.bl b ((HRB.out b).2 hb); omega, fun b hb => (M.out.bs b ((HRB.out b).2 hb)).nodup⟩)
        have FN := hid (show Cr.Few [] from ⟨by simp, by simp, by simp⟩)
        obtain ⟨b, hfb⟩ : ∃ b, Cr.fitsB bad s = b := ⟨_, rfl⟩
        have HFB := hid hfb
        clear hfb
        have HFR := hid (show Cr.fitsB rb s = b from (Cr.fitsB_bad HRB.out s).symm.trans HFB.out)
        have HSR := hid (show Cr.shrinkL s rb = Cr.shrinkL s bad from (Cr.shrinkL_bad HRB.out s).symm)
        have HGR := hid (show Cr.growL s all rb = Cr.growL s all bad from (Cr.growL_bad HRB.out s all).symm)
        have HFN := hid (Cr.fitsB_nil s)
        have HLA := hid (Cr.shrinkL_len s bad)
        have HLC := hid (Cr.growL_len s all bad)
        have HLE := hid (Cr.growL_len s all [])
        have HCE := hid (show ∀ x ∈ Cr.growL s all bad, x ∈ s ∨ x ∈ all from fun x hx => by
          unfold Cr.growL at hx
          split at hx
          · exact Cr.grow_from bad all s x hx
          · cases hx)
        have HEE := hid (show ∀ x, x ∈ Cr.growL s all [] ↔ x ∈ s ∨ x ∈ all from fun x => by rw [Cr.growL_yes (Cr.fitsB_nil s)]; exact Cr.growR_nil all s x)
        have HSC := hid (Cr.growL_set M.out.ss all bad)
        have HFC := hid (show b = true → Cr.fitsB rb (Cr.growL s all bad) = true from fun h => by
          rw [← Cr.fitsB_bad HRB.out, Cr.growL_yes (HFB.out.trans h)]
          exact Cr.grow_fits bad all s (HFB.out.trans h))
        obtain ⟨la, hla⟩ : ∃ la, Cr.shrinkL s bad = la := ⟨_, rfl⟩
        have Dla := hid hla
        obtain ⟨lc, hlc⟩ : ∃ lc, Cr.growL s all bad = lc := ⟨_, rfl⟩
        have Dlc := hid hlc
        obtain ⟨le, hle⟩ : ∃ le, Cr.growL s all [] = le := ⟨_, rfl⟩
        have Dle := hid hle
        rw [hla] at HSR HLA
        rw [hlc] at HGR HLC HCE HSC HFC
        rw [hle] at HLE HEE
        clear hla hlc hle
        have hl1 := HLA.out
        have hl2 := HLC.out
        have hl3 := HLE.out
        have P1 := hid (show Cr.subB lc le = true from (Cr.subB_iff _ _).2 fun x hx => (HEE.out x).2 (HCE.out x hx))
        have P2 := hid (show Cr.subB all le = true from (Cr.subB_iff _ _).2 fun x hx => (HEE.out x).2 (Or.inr hx))
        have P3 := hid (show Cr.subB s le = true from (Cr.subB_iff _ _).2 fun x hx => (HEE.out x).2 (Or.inl hx))
        go_wp2_with fail
        refine (coreShrink_any s bad M.out.ss (by omega) M.out.few _ _ wo R_s.out R_bad.out).mono ?_
        rintro e w2 ⟨v_a, he, hr, hb⟩
        rw [HFB.out] at he
        replace he : e = .returned (.tuple #[v_a, .bool (!b)]) := he
        rw [Dla.out] at hr
        subst he
        have HB := hid hb
        clear hb
        have R_s := hid (R_s.out.to HB.out)
        have R_all := hid (R_all.out.to HB.out)
        have R_bad := hid (R_bad.out.to HB.out)
        have R_o := hid (R_o.out.to HB.out)
        have BW := hid (BW.out.trans (HB.out.mono BW.out.size))
        clear HB
        have R_a := hid hr
        obtain ⟨A_a, c_a, rfl, k_a, m_a⟩ := hr.val
        unfold maxLen at m_a
        clear hr
        go_wp2_with fail
        refine (coreShrink_any s rb M.out.ss (by omega) FW.out _ _ w2 R_s.out R_o.out).mono ?_
        rintro e w3 ⟨v_b, he, hr, hb⟩
        rw [HFR.out] at he
        replace he : e = .returned (.tuple #[v_b, .bool (!b)]) := he
        rw [HSR.out] at hr
        subst he
        have HB := hid hb
        clear hb
        have R_s := hid (R_s.out.to HB.out)
        have R_all := hid (R_all.out.to HB.out)
        have R_bad := hid (R_bad.out.to HB.out)
        have R_o := hid (R_o.out.to HB.out)
        have R_a := hid (R_a.out.to HB.out)
        have BW := hid (BW.out.trans (HB.out.mono BW.out.size))
        clear HB
        have R_b := hid hr
        obtain ⟨A_b, c_b, rfl, k_b, m_b⟩ := hr.val
        unfold maxLen at m_b
        clear hr
        go_wp2_with fail
        refine (coreGrow_any s all bad M.out.ss (by omega) M.out.sa (by omega) M.out.few _ _ _ w3 R_s.out R_all.out R_bad.out).mono ?_
        rintro e w4 ⟨v_c, he, hr, hb⟩
        rw [HFB.out] at he
        replace he : e = .returned (.tuple #[v_c, .bool b]) := he
        rw [Dlc.out] at hr
        subst he
        have HB := hid hb
        clear hb
        have R_s := hid (R_s.out.to HB.out)
        have R_all := hid (R_all.out.to HB.out)
        have R_bad := hid (R_bad.out.to HB.out)
        have R_o := hid (R_o.out.to HB.out)
        have R_a := hid (R_a.out.to HB.out)
        have R_b := hid (R_b.out.to HB.out)
        have BW := hid (BW.out.trans (HB.out.mono BW.out.size))
        clear HB
        have R_c := hid hr
        obtain ⟨A_c, c_c, rfl, k_c, m_c⟩ := hr.val
        unfold maxLen at m_c
        clear hr
        go_wp2_with fail
        refine (coreGrow_any s all rb M.out.ss (by omega) M.out.sa (by omega) FW.out _ _ _ w4 R_s.out R_all.out R_o.out).mono ?_
        rintro e w5 ⟨v_d, he, hr, hb⟩
        rw [HFR.out] at he
        replace he : e = .returned (.tuple #[v_d, .bool b]) := he
        rw [HGR.out] at hr
        subst he
        have HB := hid hb
        clear hb
        have R_s := hid (R_s.out.to HB.out)
        have R_all := hid (R_all.out.to HB.out)
        have R_bad := hid (R_bad.out.to HB.out)
        have R_o := hid (R_o.out.to HB.out)
        have R_a := hid (R_a.out.to HB.out)
        have R_b := hid (R_b.out.to HB.out)
        have R_c := hid (R_c.out.to HB.out)
        have BW := hid (BW.out.trans (HB.out.mono BW.out.size))
        clear HB
        have R_d := hid hr
        obtain ⟨A_d, c_d, rfl, k_d, m_d⟩ := hr.val
        unfold maxLen at m_d
        clear hr
        go_wp2_with fail
        refine (coreGrow_any s all [] M.out.ss (by omega) M.out.sa (by omega) FN.out _ _ _ w5 R_s.out R_all.out (RdZZ.nil _ _)).mono ?_
        rintro e w6 ⟨v_e, he, hr, hb⟩
        rw [HFN.out] at he
        replace he : e = .returned (.tuple #[v_e, .bool true]) := he
        rw [Dle.out] at hr
        subst he
        have HB := hid hb
        clear hb
        have R_s := hid (R_s.out.to HB.out)
        have R_all := hid (R_all.out.to HB.out)
        have R_bad := hid (R_bad.out.to HB.out)
        have R_o := hid (R_o.out.to HB.out)
        have R_a := hid (R_a.out.to HB.out)
        have R_b := hid (R_b.out.to HB.out)
        have R_c := hid (R_c.out.to HB.out)
        have R_d := hid (R_d.out.to HB.out)
        have BW := hid (BW.out.trans (HB.out.mono BW.out.size))
        clear HB
        have R_e := hid hr
        obtain ⟨A_e, c_e, rfl, k_e, m_e⟩ := hr.val
        unfold maxLen at m_e
        clear hr
        cases b
        case true =>
          go_wp2_with fail
          refine (ints_any la la (by omega) _ _ w6 R_a.out R_b.out).mono ?_
          rintro e w7 ⟨he, hb⟩
          rw [decide_eq_true (Eq.refl la)] at he
          subst he
          have HB := hid hb
          clear hb
          have R_s := hid (R_s.out.to HB.out)
          have R_all := hid (R_all.out.to HB.out)
          have R_bad := hid (R_bad.out.to HB.out)
          have R_o := hid (R_o.out.to HB.out)
          have R_a := hid (R_a.out.to HB.out)
          have R_b := hid (R_b.out.to HB.out)
          have R_c := hid (R_c.out.to HB.out)
          have R_d := hid (R_d.out.to HB.out)
          have R_e := hid (R_e.out.to HB.out)
          have BW := hid (BW.out.trans (HB.out.mono BW.out.size))
          clear HB
          go_wp2_with fail
          refine (ints_any lc lc (by omega) _ _ w7 R_c.out R_d.out).mono ?_
          rintro e w8 ⟨he, hb⟩
          rw [decide_eq_true (Eq.refl lc)] at he
          subst he
          have HB := hid hb
          clear hb
          have R_s := hid (R_s.out.to HB.out)
          have R_all := hid (R_all.out.to HB.out)
          have R_bad := hid (R_bad.out.to HB.out)
          have R_o := hid (R_o.out.to HB.out)
          have R_a := hid (R_a.out.to HB.out)
          have R_b := hid (R_b.out.to HB.out)
          have R_c := hid (R_c.out.to HB.out)
          have R_d := hid (R_d.out.to HB.out)
          have R_e := hid (R_e.out.to HB.out)
          have BW := hid (BW.out.trans (HB.out.mono BW.out.size))
          clear HB
          go_wp2_with fail
          refine (law_alive w8).mono ?_
          rintro e w9 ⟨he, hb⟩
          subst he
          have HB := hid hb
          clear hb
          have R_s := hid (R_s.out.to HB.out)
          have R_all := hid (R_all.out.to HB.out)
          have R_bad := hid (R_bad.out.to HB.out)
          have R_o := hid (R_o.out.to HB.out)
          have R_a := hid (R_a.out.to HB.out)
          have R_b := hid (R_b.out.to HB.out)
          have R_c := hid (R_c.out.to HB.out)
          have R_d := hid (R_d.out.to HB.out)
          have R_e := hid (R_e.out.to HB.out)
          have BW := hid (BW.out.trans (HB.out.mono BW.out.size))
          clear HB
          go_wp2_with fail
          refine (part_any lc le _ _ w9 R_c.out R_e.out).mono ?_
          rintro e w10 ⟨he, rfl⟩
          rw [P1.out] at he
          subst he
          go_wp2_with fail
          refine (part_any all le _ _ w9 R_all.out R_e.out).mono ?_
          rintro e w11 ⟨he, rfl⟩
          rw [P2.out] at he
          subst he
          go_wp2_with fail
          refine (part_any s le _ _ w9 R_s.out R_e.out).mono ?_
          rintro e w12 ⟨he, rfl⟩
          rw [P3.out] at he
          subst he
          go_wp2_with fail
          refine (coreFits_any lc rb HSC.out (by omega) FW.out _ _ w9 R_c.out R_o.out).mono ?_
          rintro e w13 ⟨he, hb⟩
          rw [HFC.out trivial] at he
          subst he
          have HB := hid hb
          clear hb
          have R_s := hid (R_s.out.to HB.out)
          have R_all := hid (R_all.out.to HB.out)
          have R_bad := hid (R_bad.out.to HB.out)
          have R_o := hid (R_o.out.to HB.out)
          have R_a := hid (R_a.out.to HB.out)
          have R_b := hid (R_b.out.to HB.out)
          have R_c := hid (R_c.out.to HB.out)
          have R_d := hid (R_d.out.to HB.out)
          have R_e := hid (R_e.out.to HB.out)
          have BW := hid (BW.out.trans (HB.out.mono BW.out.size))
          clear HB
          go_wp2_with fail
          go_ret
          exact ⟨rfl, BW.out⟩
        case false =>
          go_wp2_with fail
          refine (ints_any la la (by omega) _ _ w6 R_a.out R_b.out).mono ?_
          rintro e w7 ⟨he, hb⟩
          rw [decide_eq_true (Eq.refl la)] at he
          subst he
          have HB := hid hb
          clear hb
          have R_s := hid (R_s.out.to HB.out)
          have R_all := hid (R_all.out.to HB.out)
          have R_bad := hid (R_bad.out.to HB.out)
          have R_o := hid (R_o.out.to HB.out)
          have R_a := hid (R_a.out.to HB.out)
          have R_b := hid (R_b.out.to HB.out)
          have R_c := hid (R_c.out.to HB.out)
          have R_d := hid (R_d.out.to HB.out)
          have R_e := hid (R_e.out.to HB.out)
          have BW := hid (BW.out.trans (HB.out.mono BW.out.size))
          clear HB
          go_wp2_with fail
          refine (ints_any lc lc (by omega) _ _ w7 R_c.out R_d.out).mono ?_
          rintro e w8 ⟨he, hb⟩
          rw [decide_eq_true (Eq.refl lc)] at he
          subst he
          have HB := hid hb
          clear hb
          have R_s := hid (R_s.out.to HB.out)
          have R_all := hid (R_all.out.to HB.out)
          have R_bad := hid (R_bad.out.to HB.out)
          have R_o := hid (R_o.out.to HB.out)
          have R_a := hid (R_a.out.to HB.out)
          have R_b := hid (R_b.out.to HB.out)
          have R_c := hid (R_c.out.to HB.out)
          have R_d := hid (R_d.out.to HB.out)
          have R_e := hid (R_e.out.to HB.out)
          have BW := hid (BW.out.trans (HB.out.mono BW.out.size))
          clear HB
          go_wp2_with fail
          refine (law_alive w8).mono ?_
          rintro e w9 ⟨he, hb⟩
          subst he
          have HB := hid hb
          clear hb
          have R_s := hid (R_s.out.to HB.out)
          have R_all := hid (R_all.out.to HB.out)
          have R_bad := hid (R_bad.out.to HB.out)
          have R_o := hid (R_o.out.to HB.out)
          have R_a := hid (R_a.out.to HB.out)
          have R_b := hid (R_b.out.to HB.out)
          have R_c := hid (R_c.out.to HB.out)
          have R_d := hid (R_d.out.to HB.out)
          have R_e := hid (R_e.out.to HB.out)
          have BW := hid (BW.out.trans (HB.out.mono BW.out.size))
          clear HB
          go_wp2_with fail
          refine (part_any lc le _ _ w9 R_c.out R_e.out).mono ?_
          rintro e w10 ⟨he, rfl⟩
          rw [P1.out] at he
          subst he
          go_wp2_with fail
          refine (part_any all le _ _ w9 R_all.out R_e.out).mono ?_
          rintro e w11 ⟨he, rfl⟩
          rw [P2.out] at he
          subst he
          go_wp2_with fail
          refine (part_any s le _ _ w9 R_s.out R_e.out).mono ?_
          rintro e w12 ⟨he, rfl⟩
          rw [P3.out] at he
          subst he
          go_wp2_with fail
          go_ret
          exact ⟨rfl, BW.out⟩

set_option maxRecDepth 100000 in
theorem coreTwo_lifted (os : Os) (started : os.Started) (H : Type) (enc : TypeId × Value → H) :
    ReturnsInHanded {} Try.checked os 7 .any (Rows.coreTwoSpec.pre6 enc Try.prog Try.f7 Rows.coreTwoRow.domain false) (Rows.coreTwoSpec.post enc Try.prog Try.f7 false true false false) := by
  refine returnsInHanded_of_change (C := Try.checked) own started (by kernel_rfl) Try.func7
    (ChangeSpec.witness6 (enc := enc) (C := Try.checked) false ⟨#[], #[.slice none 0 0, .slice none 0 0, .slice none 0 0], []⟩ 8 (by kernel_rfl) (by kernel_rfl) (by kernel_rfl) (by kernel_rfl)) ?_
  intro W base args ds gs before hval0 hW hcnd _
  have hlts := hW.lt
  have hval : ∀ (j : Nat) t v, Try.f7.params[j]? = some t → args[j]? = some v → Value.okWide Try.prog W .any base t v := hval0
  have hW' := hW
  obtain ⟨p, q, hA0, hV, rfl, hfz, hnd⟩ := hW
  have hA : DataW.TrodAll enc Try.prog W 0 (fun _ => true) true Try.f7.params.toList args.toList ds p := hA0
  rw [Try.params7] at hA hval
  obtain ⟨v0, vs0, d0, ds0, p0, q0, hargs0, rfl, rfl, h0, r0⟩ := trodAll_cons hA
  obtain ⟨v1, vs1, d1, ds1, p1, q1, hargs1, rfl, rfl, h1, r1⟩ := trodAll_cons r0
  obtain ⟨v2, vs2, d2, ds2, p2, q2, hargs2, rfl, rfl, h2, r2⟩ := trodAll_cons r1
  obtain ⟨hn, rfl, rfl⟩ := trodAll_nil r2
  obtain rfl : args = #[v0, v1, v2] := by cases args; simp_all
  obtain ⟨rfl, rfl⟩ := trodVars_none hV
  obtain ⟨sa0, sl0, sc0, hsv0⟩ := okWide_slice Try.underlying22 (hval 0 22 v0 rfl rfl)
  obtain ⟨fuel0, hf0⟩ := h0
  obtain ⟨u0, l0, hu0, hR0⟩ := rdz_of_trod hf0
  obtain rfl : v0 = u0 := by
    rw [hsv0] at hu0
    rw [hsv0]
    simpa [Value.cells] using hu0
  obtain ⟨sa1, sl1, sc1, hsv1⟩ := okWide_slice Try.underlying22 (hval 1 22 v1 rfl rfl)
  obtain ⟨fuel1, hf1⟩ := h1
  obtain ⟨u1, l1, hu1, hR1⟩ := rdz_of_trod hf1
  obtain rfl : v1 = u1 := by
    rw [hsv1] at hu1
    rw [hsv1]
    simpa [Value.cells] using hu1
  obtain ⟨sa2, sl2, sc2, hsv2⟩ := okWide_slice Try.underlying23 (hval 2 23 v2 rfl rfl)
  obtain ⟨fuel2, hf2⟩ := h2
  obtain ⟨u2, l2, hu2, hR2⟩ := rdzz_of_trod hf2
  obtain rfl : v2 = u2 := by
    rw [hsv2] at hu2
    rw [hsv2]
    simpa [Value.cells] using hu2
  clear hA0 hval0
  simp only [List.append_nil] at hW' hlts
  refine (coretwo_true v0 l0 hR0 v1 l1 hR1 v2 l2 hR2 (W := W)).mono fun e W' ⟨he, hB⟩ => ?_
  subst he
  refine ⟨_, rfl, _, _, _, [], (p0 ++ (p1 ++ (p2 ++ []))), [], by simpa using hW', ?_, ?_, ?_, hB.frame _, fun h => by cases h⟩
  · exact trodAll_cons_mk (shut_bool Try.underlying4 _) trodAll_mk0
  · exact (trodAll_cons_mk (Below.trod (by kernel_rfl) (by kernel_rfl) (of_decide_eq_true (by kernel_rfl)) ⟨fuel0, hf0⟩ hB (fun x hx => hlts x (by simp [hx]))) (trodAll_cons_mk (Below.trod (by kernel_rfl) (by kernel_rfl) (of_decide_eq_true (by kernel_rfl)) ⟨fuel1, hf1⟩ hB (fun x hx => hlts x (by simp [hx]))) (trodAll_cons_mk (Below.trod (by kernel_rfl) (by kernel_rfl) (of_decide_eq_true (by kernel_rfl)) ⟨fuel2, hf2⟩ hB (fun x hx => hlts x (by simp [hx]))) trodAll_mk0)))
  · rfl

/-- CoreTwo: the given statement. -/
theorem coreTwo_holds : Rows.CoreTwoSaid :=
  OpenClaim.holds_of_wide 7 Try.f7 rfl rfl rfl rfl rfl rfl rfl ⟨rfl, rfl, rfl, rfl, rfl⟩ rfl rfl rfl rfl rfl (by kernel_rfl) Try.func7 (by kernel_rfl)
    (of_decide_eq_true (by kernel_rfl)) (by unfold Func.isWrapper; first | (rw [if_pos (by decide +kernel)]; kernel_rfl) | (rw [if_neg (by decide +kernel)]; exact ⟨rfl, rfl⟩))
    (fun os started H enc _ => coreTwo_lifted os started H enc)

end Go.Proofs.Ytnhjiappmblnmaa.coreTwo
