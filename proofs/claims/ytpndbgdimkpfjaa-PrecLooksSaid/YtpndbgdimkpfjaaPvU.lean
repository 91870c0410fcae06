/-
  The walk of prec.Tags. Conditions: slices that read as good types of at most 10000 nodes.
-/
import Derived.Test.YtpndbgdimkpfjaaPvJ
namespace Go.Proofs.Ytpndbgdimkpfjaa
open Go.RowKit Go.Sort

set_option maxHeartbeats 4000000 in
set_option maxRecDepth 100000 in
theorem tags_any {n : Nat} {F : L.Fo} (h : Gd n F) (hn : n ≤ 10000) (v : Value) (w : World) (hx : Rd w w.heap.size v F.flat) :
    Calls Try.prog 24 #[v] w fun e w' => TagsPost F w.heap.size e w' ∧ Below w.heap.size w w' := by
  obtain ⟨is, his, hzs0, hzs1, hzs2⟩ := info_parts infoStr
  have HT := hid (h.ty hn)
  have hpos := fo_pos HT.out.ne
  have HK := hid (kindOf_any F.flat hpos v w hx)
  have HX := hid hx
  have KC := hid (kids_any F.flat HT.out.few v 0 hpos w hx)
  obtain ⟨A, cap, rfl, hl1, hl2, -, hcx⟩ := hx
  unfold maxLen at hl2
  have hln := HT.out.few.1
  obtain ⟨x, ks, rfl, -⟩ := h.root
  have hok := h.ok
  have hf0 : (L.Fo.cons x ks .nil).flat[0] = x := rfl
  rw [hf0] at HK KC
  obtain ⟨ps, hps, hkd⟩ := L.kd_of hok
  rw [show (0 + 1) = 1 from rfl, hps, show ((0 : Nat) : Int) = 0 from rfl] at KC
  clear hf0 hps
  by_cases h0 : x.kind = 0
  · have HP : Hid (∀ w', TagsPost (.cons x ks .nil) w.heap.size (.returned (.tuple #[.slice none 0 0, .int .i64 0])) w') := hid fun _ => Or.inl ⟨h0, rfl⟩
    rw [h0] at HK
    clear h0 h hok hcx hkd
    generalize (L.Fo.cons x ks .nil).flat = l at *
    go_enter Try.func24, Try.ntmps24
    go_wp2_with fail
    refine (HK.out).mono ?_
    rintro e w1 ⟨rfl, rfl⟩
    go_wp2
    refine bodyPost_ret (v := .tuple #[.slice none 0 0, .int .i64 0]) (by simp [results, Try.results24, go_sem]) rfl ?_
    exact ⟨HP.out _, Below.refl _ _⟩
  · by_cases h7 : x.kind = 7
    · have HP : Hid (∀ v w', OwnS w.heap.size v ((L.trees ks).map (·.1.name)) w' → TagsPost (.cons x ks .nil) w.heap.size (.returned (.tuple #[v, .int .i64 0])) w') := hid fun v w' ho => Or.inr (Or.inr ⟨h7, v, ks, rfl, rfl, ho⟩)
      rw [h7] at HK
      have HKD := hid hkd
      have htl : (L.trees ks).length ≤ 50 := trees_50 hok
      generalize (L.Fo.cons x ks .nil).flat = l at *
      have HCX := hid hcx
      have hlen := hkd.len
      obtain ⟨ts, hts⟩ : ∃ ts, ts = L.trees ks := ⟨_, rfl⟩
      rw [← hts] at htl hlen HKD HP
      clear h h0 h7 hok hkd hcx hts
      obtain ⟨b, o, rfl, hb, hcc⟩ := HCX.out (by rintro rfl; simp at hpos)
      have HCC := hid hcc
      clear hcc HCX
      go_enter Try.func24, Try.ntmps24
      go_wp2_with fail
      refine (HK.out).mono ?_
      rintro e w1 ⟨rfl, rfl⟩
      go_wp2_with fail
      refine (KC.out).mono ?_
      rintro e w2 ⟨vk, rfl, ok, h2⟩
      obtain ⟨Ak, ck, rfl, -⟩ := ok.rd
      have HOK2 := hid ok
      have HB2 := hid h2
      clear ok h2 KC
      have HNIL : Hid (OwnS w.heap.size (.slice none 0 0) [] w2) := hid (World.ownsRow_nil _ _ _ _)
      go_wp2_with fail
      go_loopw [4, 16] (fun v4 v7 wr => ∃ (i : Nat) (nl : List ByteArray), v7 = .int .i64 i ∧ i ≤ ts.length ∧ nl.length = i ∧ Hid (OwnS w.heap.size v4 nl wr) ∧ Hid (nl = (ts.take i).map (·.1.name)) ∧ Hid (OwnI w.heap.size (.slice Ak ps.length ck) ps wr) ∧ Below w.heap.size w wr) (fun _ v7 _ => ts.length - (intOf v7).toNat)
      case atStart => exact ⟨0, [], rfl, by omega, rfl, HNIL, hid rfl, HOK2, HB2.out⟩
      case round =>
        obtain ⟨i, nl, rfl, hi, hnl, hOS, hNE, hOK, hB⟩ := hrel
        obtain ⟨A5, c5, rfl⟩ := hOS.out.val
        have hbw := hB.size
        have hpl5 : nl.length ≤ 50 := by omega
        have HNV := hid hnl
        clear hnl
        by_cases hlt : i < ts.length
        · have hip : i < ps.length := by omega
          have hpl : (i : Int) < (ps.length : Int) := by omega
          obtain ⟨A', c', hv', hki⟩ := hOK.out.rd
          injection hv' with e1 _ e2
          subst e1 e2
          obtain ⟨gk, rfl, hgk, hki⟩ := hki (by intro e; rw [e] at hip; simp at hip)
          have k0 := hki i hip
          obtain ⟨hq, hq1, hq2⟩ := HKD.out.at_ i hlt hip
          obtain ⟨x0, x1, x2⟩ := HCC.out ps[i] hq
          rw [hq1] at x1
          have x1' := (hB.cell (p := ⟨b, o + ps[i] * 3 + 1, none⟩) hb).trans x1
          have HTK : Hid (ts.take (i + 1) = ts.take i ++ [ts[i]]) := hid (by simp)
          clear hki hq1 hq2 x0 x2 x1
          generalize ps[i] = q at *
          generalize ts[i] = T at *
          obtain ⟨⟨yk, ys, yn⟩, k1⟩ := T
          simp only at x1'
          have hBl5 : Below wr.heap.size wr (wr.alloc (.cells #[.string ys] 9)) := below_new _
          have HS5 := hid (hOS.out.below hBl5)
          have HK6 := hid (hOK.out.below hBl5)
          have hones : Hid (∀ u ∈ [Value.string ys], u.oneCell' = true) := hid (by intro u hu; simp at hu; subst hu; rfl)
          have HBL5 := hid hBl5
          clear hOS hOK hBl5
          go_wp2_with (at_builtin; refine wpList_append_own _ rfl _ _ 33 rfl w.heap.size 9 is (.string ⟨#[]⟩) 1 16 Try.underlying33 his hzs0 hzs1 hzs2 rfl (by decide) _ _ _ rfl HS5.out ⟨wr.heap.size, 0, none⟩ 1 1 [.string ys] rfl rfl (str_one wr _) hones.out ?c3 ?c4 ?c5 ?_)
          case c3 => unfold maxLen; omega
          case c4 => omega
          case c5 => first | omega | (simp; omega)
          intro v7 w5 hown hgrow _
          have hB5 : Below w.heap.size w w5 := (hB.trans (HBL5.out.mono hbw)).grown hgrow (by simp; omega) (fun k hk => (World.ownsRow.lt HS5.out k hk).1)
          have hS5 := OwnS.snoc ys hown
          have HK7 := hid (show OwnI w.heap.size _ ps w5 from row_aside HK6.out HS5.out (by decide) hgrow)
          have HS6 := hid hS5
          have HN2 := hid (show nl ++ [ys] = (ts.take (i + 1)).map (·.1.name) by rw [HTK.out, List.map_append, hNE.out]; rfl)
          clear hown hgrow hS5 HS5 HK6 k0 x1'
          go_wp2
          go_roundw
          case rel => exact ⟨i + 1, _, by go_num, by omega, by rw [List.length_append, HNV.out]; rfl, HS6, HN2, HK7, hB5⟩
          case measure => simp [intOf]; omega
        · have hpl : ¬ (i : Int) < (ps.length : Int) := by omega
          have HF := hid (HP.out _ wr (by rw [← show nl = ts.map (·.1.name) by rw [hNE.out, List.take_of_length_le (by omega)]]; exact hOS.out))
          go_wp2
          refine bodyPost_ret (v := .tuple #[.slice A5 nl.length c5, .int .i64 0]) (by simp [results, Try.results24, go_sem]) rfl ?_
          exact ⟨HF.out, hB⟩
    · have HP : Hid (∀ w', TagsPost (.cons x ks .nil) w.heap.size (.returned (.tuple #[.slice none 0 0, .int .i64 9])) w') := hid fun _ => Or.inr (Or.inl ⟨h0, h7, rfl⟩)
      have e0 : (x.kind == 0) = false := beq_eq_false_iff_ne.2 h0
      have e7 : (x.kind == 7) = false := beq_eq_false_iff_ne.2 h7
      generalize x.kind = xk at *
      clear h0 h7 h hok hcx hkd
      generalize (L.Fo.cons x ks .nil).flat = l at *
      go_enter Try.func24, Try.ntmps24
      go_wp2_with fail
      refine (HK.out).mono ?_
      rintro e w1 ⟨rfl, rfl⟩
      go_wp2
      refine bodyPost_ret (v := .tuple #[.slice none 0 0, .int .i64 9]) (by simp [results, Try.results24, go_sem]) rfl ?_
      exact ⟨HP.out _, Below.refl _ _⟩

end Go.Proofs.Ytpndbgdimkpfjaa
