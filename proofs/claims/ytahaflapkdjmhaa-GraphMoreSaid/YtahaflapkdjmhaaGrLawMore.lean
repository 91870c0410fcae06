/-
  GraphMore is true for any modules, any name. No conditions.
-/
import Derived.Test.YtahaflapkdjmhaaRows
import Derived.Test.YtahaflapkdjmhaaGrZa
import Derived.Test.YtahaflapkdjmhaaGrZc
import Derived.Test.YtahaflapkdjmhaaGrZd
import Derived.ChangeMaps5
namespace Go.Proofs.Ytahaflapkdjmhaa.graphMore
open Go.ChangeShapes Go.WideShapes Go.ChangeAt Go.RowKit Go.ChangeMaps

theorem own : ownKnob Try.prog.godebug = none := by kernel_rfl

abbrev Post (w : World) (e : Ending) (w' : World) : Prop := e = .returned (.bool true) ∧ Below w.heap.size w w'

theorem ownN_take (n : Nat) {b : List Nat} {k : Nat} (hk : k < b.length) : Gr.butN n (b.take (k + 1)) = if b[k] = n then Gr.butN n (b.take k) else Gr.butN n (b.take k) ++ [b[k]] := by
  rw [List.take_succ_eq_append_getElem hk, Gr.butN_snoc]
theorem butN_le (n : Nat) (b : List Nat) : (Gr.butN n b).length ≤ b.length := List.length_filter_le _ _

set_option maxHeartbeats 16000000 in
set_option maxRecDepth 1000000 in
theorem more_true {W : World} (v : Value) (l : List Gr.Md) (hl : RdM W W.heap.size v l) (s : ByteArray) (hs : s.size ≤ maxLen) :
    Calls Try.prog 4 #[v, .string s] W (Post W) := by
  have L0 := hid hl
  have HF := hid (few_any l v W hl)
  have HAL := hid (law_alive W)
  have HPL := hid (place_any l s v W hl)
  obtain ⟨i0, hi0, hz0, hz1, hz2⟩ := info_parts info_mod
  obtain ⟨ys, hym, hyo, hyc⟩ := rows_of hl
  obtain ⟨A, cap, rfl, hcap, hcm, hsh⟩ := hl
  unfold maxLen at hs hcm
  have HSH := hid hsh
  have HYM := hid hym
  have HYO := hid hyo
  have HYC := hid hyc
  clear hym hyo hyc hsh hcap
  have hlz0 : (0 : Int) ≤ (l.length : Int) := by omega
  have hss0 : (0 : Int) ≤ (s.size : Int) := by omega
  go_enter Try.func4, Try.ntmps4
  go_wp2_with fail
  refine (HF.out).mono ?_
  rintro e w1 ⟨b, rfl, hb, rfl⟩
  have HBF := hid hb
  clear hb
  by_cases hc : b = true ∧ l.length ≤ 19 ∧ s.size ≤ 100
  · obtain ⟨rfl, h19, h100⟩ := hc
    have hz19 : ¬ (19 : Int) < (l.length : Int) := by omega
    have hz100 : ¬ (100 : Int) < (s.size : Int) := by omega
    have HQ := hid (HBF.out.1 rfl)
    go_wp2_with fail
    refine (HPL.out).mono ?_
    rintro e w1 ⟨rfl, rfl⟩
    by_cases hf : 0 ≤ Gr.find s l 0
    · obtain ⟨q, hq⟩ : ∃ q, Gr.find s l 0 = q := ⟨_, rfl⟩
      rw [hq] at hf ⊢
      clear hq
      go_wp2_with fail
      refine (HAL.out).mono ?_
      rintro e w2 ⟨rfl, h0⟩
      have X2 := hid h0
      clear h0
      go_wp2_with fail
      go_ret
      exact ⟨rfl, X2.out⟩
    · have HNEW := hid (show ∀ m ∈ l, m.name ≠ s from by
        rcases Gr.find_cases s l 0 with ⟨_, h⟩ | ⟨i, hi, h, _⟩
        · exact h
        · omega)
      obtain ⟨q, hq⟩ : ∃ q, Gr.find s l 0 = q := ⟨_, rfl⟩
      rw [hq] at hf ⊢
      clear hq HF HAL HPL
      have hyl : ys.length = l.length := by have := congrArg List.length HYM.out; simpa using this
      have HYL := hid hyl
      have hOW : (W.alloc (.cells #[] 29)).ownsRow W.heap.size 29 4 (.slice (some ⟨W.heap.size, 0, none⟩) 0 0) 0 (cellsR []) := World.ownsRow_lit W #[] 0 (Nat.le_refl _) (by decide) rfl
      have HOW := hid hOW
      have HBW := hid (below_new (w := W) (.cells #[] 29))
      have HSRC := hid (show ∀ ad, A = some ad → ∀ j u, (cellsR ys)[j]? = some u → (W.alloc (.cells #[] 29)).cell? (ad.add j) = some u from by
        intro ad ha j u hu
        have hj : j < (cellsR ys).length := by
          rcases Nat.lt_or_ge j (cellsR ys).length with h1 | h1
          · exact h1
          · rw [List.getElem?_eq_none h1] at hu; cases hu
        rw [cellsR_len] at hj
        have hne : l ≠ [] := by rintro rfl; rw [List.length_nil] at hyl; omega
        obtain ⟨b, o, hA, hbb, -⟩ := HSH.out hne
        rw [hA] at ha
        injection ha with ha
        subst ha
        refine cellsR_src (fun i hi => ?_) j u hu
        obtain ⟨c0, c1, c2, c3⟩ := HYC.out i hi b o cap (by rw [hA])
        exact ⟨(HBW.out.cell (p := ⟨b, o + i * 4, none⟩) hbb).trans c0, (HBW.out.cell (p := ⟨b, o + i * 4 + 1, none⟩) hbb).trans c1, (HBW.out.cell (p := ⟨b, o + i * 4 + 2, none⟩) hbb).trans c2, (HBW.out.cell (p := ⟨b, o + i * 4 + 3, none⟩) hbb).trans c3⟩)
      have HONE := hid (cellsR_one (ys := ys) fun y hy => by
        obtain ⟨h1, h2, h3⟩ := HYO.out y hy
        obtain ⟨A1, c1, e1, -⟩ := h1
        exact ⟨⟨_, _, _, e1⟩, h2, h3⟩)
      have HPA := hid (show ∀ y ∈ ys, (∃ A n c, y.vi = .slice A n c) ∧ (∃ A n c, y.vd = .slice A n c) ∧ ∃ A n c, y.vs = .slice A n c from fun y hy => by
        obtain ⟨h1, h2, h3⟩ := HYO.out y hy
        obtain ⟨A1, c1, e1, -⟩ := h1
        exact ⟨⟨_, _, _, e1⟩, h2, h3⟩)
      have HNE := hid (show A = none → l.length = 0 from fun h => by
        rcases Nat.eq_zero_or_pos l.length with h1 | h1
        · exact h1
        · obtain ⟨b, o, hA, _⟩ := HSH.out (by rintro rfl; simp at h1)
          rw [hA] at h; cases h)
      have hsz1 : W.heap.size ≤ (W.alloc (.cells #[] 29)).heap.size := HBW.out.size
      have HSZ := hid hsz1
      clear hOW hyl hsz1
      go_wp2_with (first
        | (at_builtin
           refine wpList_appM rfl _ _ rfl rfl W.heap.size W.heap.size 0 A l.length cap ys rfl HOW.out rfl HYL.out HPA.out HSRC.out HNE.out (by omega) HSZ.out ?_
           intro g1 c1 w1 hown hgrow
           have HB1 := hid (HBW.out.grown hgrow HSZ.out (fun q hq => by injection hq with hq; omega))
           have HO1 := hid hown
           have hsw1 := HB1.out.size
           have HON1 := hid (row_one (y := ⟨⟨s, []⟩, .slice none 0 0, .slice none 0 0, .slice none 0 0⟩) ⟨_, _, _, rfl⟩ ⟨_, _, _, rfl⟩ ⟨_, _, _, rfl⟩)
           clear hown hgrow)
        | (at_builtin
           refine wpList_append_own_at _ rfl _ _ 22 rfl W.heap.size 29 i0 (.agg #[.string ⟨#[]⟩, .slice none 0 0, .slice none 0 0, .slice none 0 0]) 4 88 Try.underlying22 hi0 hz0 hz1 hz2 rfl (by decide) _ _ _ rfl (World.ownsRow.alloc HO1.out _) ⟨w1.heap.size, 0, none⟩ 1 1 [.string s, .slice none 0 0, .slice none 0 0, .slice none 0 0] rfl rfl (cells_new4 _ _ _ _ _ _) HON1.out (by unfold maxLen; omega) (by omega) (by simp; omega) ?_
           intro v' w2 hown' hgrow hnil hloc
           obtain ⟨g2, c2, rfl⟩ := row_succ hown'))
      obtain ⟨wn, hwn⟩ : ∃ wn : World, wn = w2 := ⟨_, rfl⟩
      subst hwn
      have HB2 := hid ((HB1.out.alloc hsw1 _).grown hgrow (by simp; omega) (fun q hq => (World.ownsRow.lt HO1.out q hq).1))
      have HRD := hid (show RdM wn wn.heap.size (.slice (some ⟨g2, 0, none⟩) (l.length + 1) c2) (l ++ [⟨s, []⟩]) from by
        have e1 : cellsR ys ++ [.string s, .slice none 0 0, .slice none 0 0, .slice none 0 0] = cellsR (ys ++ [⟨⟨s, []⟩, .slice none 0 0, .slice none 0 0, .slice none 0 0⟩]) := by rw [cellsR_snoc]; rfl
        rw [e1] at hown'
        have e2 : (ys ++ [(⟨⟨s, []⟩, .slice none 0 0, .slice none 0 0, .slice none 0 0⟩ : Row)]).length = l.length + 1 := by simp [HYL.out]
        rw [← e2] at hown' ⊢
        have h := rdm_own (w0 := W) (B0 := W.heap.size) hown' (fun y hy => by
          rcases List.mem_append.1 hy with h1 | h1
          · exact HYO.out y h1
          · rw [List.mem_singleton] at h1
            subst h1
            exact ⟨⟨none, 0, rfl, fun h => absurd rfl h⟩, ⟨_, _, _, rfl⟩, ⟨_, _, _, rfl⟩⟩) HB2.out HB2.out.size
        rw [List.map_append, HYM.out] at h
        exact h)
      have L2 := hid ((L0.out.below HB2.out).mono HB2.out.size)
      have HN := hid (order_any l HQ.out _ wn L2.out)
      clear hown' hgrow hnil hloc HO1 HON1 HB1 HYO HYC HYM HONE HPA HNE
      go_wp2_with fail
      refine (HN.out).mono ?_
      rintro e w3 ⟨v3, oa, at1, e1, rfl, hr, ha, h0⟩
      have X3 := hid (HB2.out.trans (h0.mono HB2.out.size))
      have R3 := hid hr
      have HA := hid ha
      have hal := ha.len
      obtain ⟨A3, k3, rfl, -, -, -⟩ := hr
      have FQ := hid (show Gr.Few (l ++ [⟨s, []⟩]) from ⟨by simp; omega, fun m hm => by
        rcases List.mem_append.1 hm with h1 | h1
        · exact HQ.out.name m h1
        · rw [List.mem_singleton] at h1; subst h1; exact h100, fun m hm => by
        rcases List.mem_append.1 hm with h1 | h1
        · exact HQ.out.imps m h1
        · rw [List.mem_singleton] at h1; subst h1; exact Nat.zero_le _, fun m hm => by
        rcases List.mem_append.1 hm with h1 | h1
        · exact HQ.out.imp m h1
        · rw [List.mem_singleton] at h1; subst h1; intro t ht; cases ht⟩)
      have HM := hid (order_any (l ++ [⟨s, []⟩]) FQ.out _ w3 ((HRD.out.below h0).mono h0.size))
      clear h0 ha HN
      go_wp2_with fail
      refine (HM.out).mono ?_
      rintro e w4 ⟨v4, ob, at2, e2, rfl, hr, hb, h0⟩
      obtain ⟨q1, q2, q3⟩ := HA.out.more HNEW.out hb
      have hbl := hb.len
      rw [List.length_append, List.length_singleton] at hbl
      have X4 := hid (X3.out.trans (h0.mono X3.out.size))
      have R4 := hid ((R3.out.below h0).mono h0.size)
      have T4 := hid hr
      obtain ⟨A4, k4, rfl, -, -, -⟩ := hr
      have HAL := hid (law_alive w4)
      clear h0 hb HM
      by_cases e6 : e1 = 6
      · have hf7 : (e2 != 7) = true := by have := q1 e6; simpa using this
        subst e6
        clear q1 q2 q3
        go_wp2_with fail
        refine (HAL.out).mono ?_
        rintro e w5 ⟨rfl, h0⟩
        have X5 := hid (X4.out.trans (h0.mono X4.out.size))
        clear h0
        go_wp2_with fail
        go_ret
        exact ⟨rfl, X5.out⟩
      · obtain ⟨q4, q5, q6⟩ := q2 e6
        subst q4
        have hee : (e1 != e1) = false := by simp
        by_cases e0 : e1 = 0
        · have HQ6 := hid (q6 e0)
          subst e0
          clear q1 q2 q3 q5 q6 e6 hee
          obtain ⟨j0, hj0, hk0, hk1, hk2⟩ := info_parts info_int
          have hN0 := hid (OwnN.lit w4)
          have hBo := hid (below_new (w := w4) (.cells #[] 3))
          have hob : ob.length ≤ 20 := by omega
          go_wp2_with fail
          go_loopw [12, 13] (fun vo vi wr => ∃ (k g c : Nat), vo = .slice (some ⟨g, 0, none⟩) (Gr.butN l.length (ob.take k)).length c ∧ vi = .int .i64 k ∧ k ≤ ob.length ∧ OwnN wr w4.heap.size (some ⟨g, 0, none⟩) c (Gr.butN l.length (ob.take k)) ∧ Below w4.heap.size w4 wr) (fun _ vi _ => ob.length - (intOf vi).toNat)
          case atStart => exact ⟨0, _, _, rfl, rfl, by omega, hN0.out, hBo.out⟩
          case round =>
            clear hN0 hBo
            obtain ⟨k, g, c, rfl, rfl, hk, hN, hbel⟩ := hrel
            obtain ⟨wj, hwj⟩ : ∃ wj : World, wj = wr := ⟨_, rfl⟩
            subst hwj
            have hlen := butN_le l.length (ob.take k)
            rw [List.length_take] at hlen
            by_cases hlt : k < ob.length
            · have hkz : (k : Int) < (ob.length : Int) := by omega
              obtain ⟨g4, rfl, hg4, y1⟩ := T4.out.atv hbel hlt
              have hst := ownN_take l.length hlt
              obtain ⟨x, hx⟩ : ∃ x, ob[k] = x := ⟨_, rfl⟩
              rw [hx] at hst y1
              obtain ⟨xs, hxs⟩ : ∃ xs, Gr.butN l.length (ob.take k) = xs := ⟨_, rfl⟩
              rw [hxs] at hst hlen hN ⊢
              have HN := hid hN
              have HBJ := hid hbel
              have hsj := hbel.size
              clear hxs hx hN hbel
              by_cases hxn : x = l.length
              · have hxz : ((x : Int) != (l.length : Int)) = false := by simp [hxn]
                rw [if_pos hxn] at hst
                have HST := hid hst
                clear hst hxn
                go_wp2_with fail
                go_roundw
                case rel => exact ⟨k + 1, g, c, by rw [HST.out], by go_num, by omega, by rw [HST.out]; exact HN.out, HBJ.out⟩
                case measure => simp [intOf]; omega
              · have hxz : ((x : Int) != (l.length : Int)) = true := by simp; omega
                rw [if_neg hxn] at hst
                have HST := hid hst
                clear hst hxn
                go_wp2_with (at_builtin; refine wpList_append_own_at _ rfl _ _ 30 rfl w4.heap.size 3 j0 (.int .i64 0) 1 8 Try.underlying30 hj0 hk0 hk1 hk2 rfl (by decide) _ _ _ rfl (World.ownsRow.alloc HN.out _) ⟨wj.heap.size, 0, none⟩ 1 1 [.int .i64 (x : Int)] rfl rfl (cell_one_new _ _ _) (ints_oneCell .i64 [(x : Int)]) (by unfold maxLen; omega) (by omega) (by simp; omega) ?_; intro v' w5 hown' hgrow hnil hloc; obtain ⟨g', cap', rfl⟩ := row_succ hown'; obtain ⟨z1, z2, z3, z4⟩ := HN.out.more hsj hown' hgrow hloc; clear hown' hgrow hnil hloc)
                go_roundw
                case rel => exact ⟨k + 1, g', cap', by rw [HST.out]; simp, by go_num, by omega, by rw [HST.out]; exact z1, HBJ.out.trans z2⟩
                case measure => simp [intOf]; omega
            · have hkz : ¬ (k : Int) < (ob.length : Int) := by omega
              have e : k = ob.length := by omega
              subst e
              rw [List.take_of_length_le (Nat.le_refl _), HQ6.out.2] at hN ⊢
              have hol := HQ6.out.1
              have hoz : ((ob.length : Int) == (l.length : Int) + 1) = true := by simp; omega
              have HBW := hid (X4.out.trans (hbel.mono X4.out.size))
              have HB4 := hid hbel
              have HNR := hid hN.rd
              have HAL := hid (law_alive wj)
              clear hN hbel hlen
              go_wp2_with fail
              refine (HAL.out).mono ?_
              rintro e w6 ⟨rfl, h0⟩
              have X6 := hid (HBW.out.trans (h0.mono HBW.out.size))
              have HE := hid (ints_any oa oa (by omega) (by omega) _ _ w6 ((HNR.out.below h0).mono h0.size) ((R4.out.below (HB4.out.trans (h0.mono HB4.out.size))).mono (by have := HB4.out.size; have := h0.size; omega)))
              rw [decide_eq_true rfl] at HE
              clear h0 HAL
              go_wp2_with fail
              refine (HE.out).mono ?_
              rintro e w7 ⟨rfl, -, h0⟩
              have X7 := hid (X6.out.trans (h0.mono X6.out.size))
              clear h0
              go_wp2_with fail
              go_ret
              exact ⟨rfl, X7.out⟩
        · have q7 := q5 e0
          subst q7
          have hxx : (at1 != at1) = false := by simp
          have he0 : (e1 != 0) = true := by simpa using e0
          have he6 : (e1 == 6) = false := by simpa using e6
          clear q1 q2 q3 q5 q6 e6 e0
          go_wp2_with fail
          refine (HAL.out).mono ?_
          rintro e w5 ⟨rfl, h0⟩
          have X5 := hid (X4.out.trans (h0.mono X4.out.size))
          clear h0
          go_wp2_with fail
          go_ret
          exact ⟨rfl, X5.out⟩
  · have hc3 : b = false ∨ (b = true ∧ ¬ l.length ≤ 19) ∨ (b = true ∧ l.length ≤ 19 ∧ ¬ s.size ≤ 100) := by
      cases b with
      | false => exact Or.inl rfl
      | true =>
        by_cases h1 : l.length ≤ 19
        · exact Or.inr (Or.inr ⟨rfl, h1, fun h2 => hc ⟨rfl, h1, h2⟩⟩)
        · exact Or.inr (Or.inl ⟨rfl, h1⟩)
    clear hc HBF HF HPL HSH HYM HYO HYC
    rcases hc3 with rfl | ⟨rfl, h19⟩ | ⟨rfl, h19, h100⟩
    · go_wp2_with fail
      refine (HAL.out).mono ?_
      rintro e w2 ⟨rfl, h0⟩
      have X2 := hid h0
      clear h0
      go_wp2_with fail
      go_ret
      exact ⟨rfl, X2.out⟩
    · have hz19 : (19 : Int) < (l.length : Int) := by omega
      go_wp2_with fail
      refine (HAL.out).mono ?_
      rintro e w2 ⟨rfl, h0⟩
      have X2 := hid h0
      clear h0
      go_wp2_with fail
      go_ret
      exact ⟨rfl, X2.out⟩
    · have hz19 : ¬ (19 : Int) < (l.length : Int) := by omega
      have hz100 : (100 : Int) < (s.size : Int) := by omega
      go_wp2_with fail
      refine (HAL.out).mono ?_
      rintro e w2 ⟨rfl, h0⟩
      have X2 := hid h0
      clear h0
      go_wp2_with fail
      go_ret
      exact ⟨rfl, X2.out⟩

set_option maxRecDepth 100000 in
theorem graphMore_lifted (os : Os) (started : os.Started) (H : Type) (enc : TypeId × Value → H) :
    ReturnsInHanded {} Try.checked os 4 .any (Rows.graphMoreSpec.pre6 enc Try.prog Try.f4 Rows.graphMoreRow.domain false) (Rows.graphMoreSpec.post enc Try.prog Try.f4 false true false false) := by
  refine returnsInHanded_of_change (C := Try.checked) own started (by kernel_rfl) Try.func4
    (ChangeSpec.witness6 (enc := enc) (C := Try.checked) false ⟨#[], #[.slice none 0 0, .string ⟨#[]⟩], []⟩ 8 (by kernel_rfl) (by kernel_rfl) (by kernel_rfl) (by kernel_rfl)) ?_
  intro W base args ds gs before hval0 hW hcnd _
  have hlts := hW.lt
  have hval : ∀ (j : Nat) t v, Try.f4.params[j]? = some t → args[j]? = some v → Value.okWide Try.prog W .any base t v := hval0
  have hW' := hW
  obtain ⟨p, q, hA0, hV, rfl, hfz, hnd⟩ := hW
  have hA : DataW.TrodAll enc Try.prog W 0 (fun _ => true) true Try.f4.params.toList args.toList ds p := hA0
  rw [Try.params4] at hA hval
  obtain ⟨v0, vs0, d0, ds0, p0, q0, hargs0, rfl, rfl, h0, r0⟩ := trodAll_cons hA
  obtain ⟨v1, vs1, d1, ds1, p1, q1, hargs1, rfl, rfl, h1, r1⟩ := trodAll_cons r0
  obtain ⟨hn, rfl, rfl⟩ := trodAll_nil r1
  obtain rfl : args = #[v0, v1] := by cases args; simp_all
  obtain ⟨rfl, rfl⟩ := trodVars_none hV
  obtain ⟨sa0, sl0, sc0, hsv0⟩ := okWide_slice Try.underlying22 (hval 0 22 v0 rfl rfl)
  obtain ⟨fuel0, hf0⟩ := h0
  obtain ⟨u0, l0, hu0, hR0⟩ := rdm_of_trod hf0
  obtain rfl : v0 = u0 := by
    rw [hsv0] at hu0
    rw [hsv0]
    simpa [Value.cells] using hu0
  obtain ⟨a1, rfl, rfl, rfl, w1⟩ := open_string Try.underlying9 (hval 1 9 v1 rfl rfl) h1
  clear hA0 hval0
  simp only [List.append_nil] at hW' hlts
  refine (more_true v0 l0 hR0 a1 w1 (W := W)).mono fun e W' ⟨he, hB⟩ => ?_
  subst he
  refine ⟨_, rfl, _, _, _, [], (p0 ++ ([] ++ [])), [], by simpa using hW', ?_, ?_, ?_, hB.frame _, fun h => by cases h⟩
  · exact trodAll_cons_mk (shut_bool Try.underlying4 _) trodAll_mk0
  · exact (trodAll_cons_mk (Below.trod (by kernel_rfl) (by kernel_rfl) (of_decide_eq_true (by kernel_rfl)) ⟨fuel0, hf0⟩ hB (fun x hx => hlts x (by simp [hx]))) (trodAll_cons_mk (shut_string Try.underlying9 w1) trodAll_mk0))
  · rfl

/-- GraphMore: the given statement. -/
theorem graphMore_holds : Rows.GraphMoreSaid :=
  OpenClaim.holds_of_wide 4 Try.f4 rfl rfl rfl rfl rfl rfl rfl ⟨rfl, rfl, rfl, rfl, rfl⟩ rfl rfl rfl rfl rfl (by kernel_rfl) Try.func4 (by kernel_rfl)
    (of_decide_eq_true (by kernel_rfl)) (by unfold Func.isWrapper; first | (rw [if_pos (by decide +kernel)]; kernel_rfl) | (rw [if_neg (by decide +kernel)]; exact ⟨rfl, rfl⟩))
    (fun os started H enc _ => graphMore_lifted os started H enc)

end Go.Proofs.Ytahaflapkdjmhaa.graphMore
