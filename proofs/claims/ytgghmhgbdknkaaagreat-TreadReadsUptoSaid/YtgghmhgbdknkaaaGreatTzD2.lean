/-
  The walk of the reference's rows, of a union. Conditions: at most 20000 tokens that are read, of texts of at most 2000000 bytes; what is one level on is read as it is told.
-/
import Derived.Test.YtgghmhgbdknkaaaGreatTzE1
namespace Go.Proofs.YtgghmhgbdknkaaaGreat
open Go.RowKit

set_option maxHeartbeats 16000000 in
set_option maxRecDepth 100000 in
theorem zrows7_walk {l : List T.Tk} (hts : ∀ p, (tokAt l p).text.size ≤ 2000000) (hll : l.length ≤ 20000) (vl : Value) (lv : Int) (B : T.P) (M M2 : Nat) (hM : 20001 ≤ M) (hG : T.GoodP l B) (hBP : T.BadP l B) (hB : ZNext M2 l vl lv B) (s0 : T.S) (A0 : Option Addr) (c0 : Nat) (w : World)
    (hx : RdK w w.heap.size vl l) (hsi : RdSt w (.slice A0 s0.sites.length c0) s0.sites) (hpl : s0.pl ≤ l.length) (hsl : s0.sites.length ≤ s0.pl) (h0 : 0 ≤ s0.site) (h1 : s0.site + l.length ≤ 4000000000000000000 + s0.pl) :
    Calls Tryz.prog 45 #[vl, stV s0.pl s0.site (.slice A0 s0.sites.length c0) 0, .int .i64 lv, .int .i64 7, .string (T.kBetw 7), .string (T.kRight 7)] w (WPost M (T.rowF l B 7 50 [] s0) w) := by
  obtain ⟨is, hs1, hs2, hs3, hs4⟩ := info_parts infoStr
  obtain ⟨it, ht1, ht2, ht3, ht4⟩ := info_parts infoTyp
  have HX := hid hx
  have HTS := hid hts
  have HLL := hid hll
  have HG := hid hG
  have HBP := hid hBP
  clear hBP
  have HB := hid hB
  have HIS := hid (fun (p : Nat) (sg : ByteArray) (w : World) hx => is_any l vl p sg w hx)
  have HND := hid (fun (p : Nat) (site : Int) (A : Option Addr) (n c : Nat) (sg : ByteArray) (w : World) (hp : p ≤ 2000000) hx => needs_any l vl p hp site A n c sg w hx)
  have HNB := hid (fun (p : Nat) (site er : Int) (her : (er != 0) = true) (A : Option Addr) (n c : Nat) (sg : ByteArray) (w : World) => needs_bad vl p site er her A n c sg w)
  have HWB := hid (fun (p : Nat) (site er : Int) (her : (er != 0) = true) (A : Option Addr) (n c : Nat) (w : World) => whole_err vl p site er lv her A n c w)
  have HWR := hid (fun (p : Nat) (site er : Int) (A : Option Addr) (n c : Nat) (w : World) => wrong_any p p site er 0 A n c w)
  obtain ⟨Al, capl, rfl, -⟩ := id hx
  obtain ⟨res, hres⟩ : ∃ res, T.rowF l B 7 50 [] s0 = res := ⟨_, rfl⟩
  rw [hres]
  have HZI : Hid (ZI l 7 B res [] s0) := hid { ok := ⟨by simp [itP], by simp [itP], by simp [itP], by simp [itP]⟩, len := by simp, fits := by simp, sum := by simp, pl := hpl, sl := hsl, s0 := h0, s1 := h1, eq := hres }
  obtain ⟨sb, hsb⟩ : ∃ sb, T.kBetw 7 = sb := ⟨_, rfl⟩
  obtain ⟨sr, hsr⟩ : ∃ sr, T.kRight 7 = sr := ⟨_, rfl⟩
  rw [hsb, hsr]
  have HSB := hid hsb
  have HSR := hid hsr
  have HSI := hid hsi
  clear hx hts hG hB hres hsb hsr hsi hpl hsl h0 h1
  unfold stV at *
  go_enter Tryz.func45, Tryz.ntmps45
  have hW : ∃ W2 W3 : World, W2 = (w.alloc (.cells (st4 s0.pl s0.site A0 s0.sites.length c0 0) 49)).alloc (.cells z4 49) ∧ W3 = (W2.alloc (.cells #[] 9)).alloc (.cells #[] 26) ∧ Below w.heap.size w W3 ∧ ZR w [] s0 A0 c0 (.slice (some ⟨w.heap.size + 1 + 1, 0, none⟩) 0 0) (.slice (some ⟨w.heap.size + 1 + 1 + 1, 0, none⟩) 0 0) W3 := by
    refine ⟨_, _, rfl, rfl, ?_, ?_⟩
    · exact ((((below_new _).trans ((below_new _).mono (by simp))).trans ((below_new _).mono (by simp; omega))).trans ((below_new _).mono (by simp; omega)))
    · have hzb := ZB.first w s0.pl s0.site A0 s0.sites.length c0 0
      have hsz : ((w.alloc (.cells (st4 s0.pl s0.site A0 s0.sites.length c0 0) 49)).alloc (.cells z4 49)).heap.size = w.heap.size + 1 + 1 := by simp
      have hsi2 := HSI.out.below hzb.bel
      generalize (w.alloc (.cells (st4 s0.pl s0.site A0 s0.sites.length c0 0) 49)).alloc (.cells z4 49) = W2 at *
      have hb1 := below_new (w := W2) (.cells #[] 9)
      have hb2 := below_new (w := W2.alloc (.cells #[] 9)) (.cells #[] 26)
      have l1 : (W2.alloc (.cells #[] 9)).ownsRow (w.heap.size + 2) 9 1 (.slice (some ⟨W2.heap.size, 0, none⟩) 0 0) 0 [] := World.ownsRow_lit W2 #[] 0 (by omega) (by decide) rfl
      have l2 : ((W2.alloc (.cells #[] 9)).alloc (.cells #[] 26)).ownsRow (w.heap.size + 2) 26 1 (.slice (some ⟨(W2.alloc (.cells #[] 9)).heap.size, 0, none⟩) 0 0) 0 [] := World.ownsRow_lit (W2.alloc (.cells #[] 9)) #[] 0 (by simp; omega) (by decide) rfl
      rw [show (W2.alloc (.cells #[] 9)).heap.size = w.heap.size + 1 + 1 + 1 by simp; omega] at l2
      rw [hsz] at l1
      exact ⟨(hzb.below hb1).below hb2, (hsi2.below hb1).below hb2, row_below l1 hb2, ⟨l2, by simp [itT]⟩⟩
  obtain ⟨W2, W3, hW2, hW3, hbW, hZR⟩ := hW
  have HST := hid (OutZ.mk (res := res) (B := B) (l := l) (kind := 7) [] s0 A0 c0 HZI.out hZR)
  rw [hW3, hW2] at HST
  clear hW2 hW3 hbW hZR HZI HSI
  go_wp2
  go_loopw [14, 15] (fun v14 v15 wr => OutZ l 7 B res w v14 v15 wr) (fun v14 _ _ => 51 - lenOf v14)
  case atStart => exact HST.out
  case round =>
    obtain ⟨its, s, A1, c1, hI, hR⟩ := hrel
    obtain ⟨w5, hw5⟩ : ∃ w5, w5 = wr := ⟨_, rfl⟩
    subst hw5
    have HI := hid hI
    have HR := hid hR
    obtain ⟨AL, cL, hv1⟩ : ∃ A cap, u14 = .slice A its.length cap := by obtain ⟨A, c, h⟩ := hR.ls.val; exact ⟨A, c, by rw [h, itS_len]⟩
    obtain ⟨AT, cT, hv2⟩ : ∃ A cap, u15 = .slice A its.length cap := by obtain ⟨A, c, h⟩ := hR.ts.val; exact ⟨A, c, by rw [h, itT_len]⟩
    subst hv1
    subst hv2
    obtain ⟨k0, k1, r0, r1, hwr⟩ := hR.zb.cells
    have hpl : s.pl ≤ 20000 := by have := hI.pl; omega
    have hl50 : its.length ≤ 50 := hI.len
    have HBX := hid hR.zb
    clear hI hR
    by_cases hlt : s.pl < l.length
    case neg =>
      have HEQ : Hid (res = .bad s.pl 2) := hid (by
        rw [← HI.out.eq]
        exact rowF_no (Or.inr rfl) (by rw [tokAt_none (List.getElem?_eq_none (by omega))]; rfl))
      have hge : decide ((l.length : Int) ≤ (s.pl : Int)) = true := by simp; omega
      have hge2 : decide (l.length ≤ s.pl) = true := by simp; omega
      clear HST
      go_wp2_with fail
      refine (HWR.out _ _ 2 _ _ _ _).mono ?_
      rintro e wz ⟨rfl, hz⟩
      have HBZ := hid (HBX.out.below hz)
      obtain ⟨-, -, z0, z1, z2⟩ := HBZ.out.cells
      clear hz
      go_wp2
      refine bodyPost_ret (v := .tuple #[.slice none 0 0, .agg (st4 s.pl s.site A1 s.sites.length c1 2)]) (by simp [results, Tryz.results45, z0, go_sem]) rfl ?_
      exact WPost.none (below4 (b := w.heap.size + 1) HBZ.out.bel _ _ _ _) s.pl 2 s.site A1 _ c1 HEQ.out
    case pos =>
      obtain ⟨b, o, rfl, hb, x0, x1, -, -⟩ := HX.out.at hlt
      have p0 := (HBX.out.bel.cell (p := ⟨b, o + s.pl * 4, none⟩) hb).trans x0
      have p1 := (HBX.out.bel.cell (p := ⟨b, o + s.pl * 4 + 1, none⟩) hb).trans x1
      have hplz : (s.pl : Int) < (l.length : Int) := by omega
      have hnge : decide ((l.length : Int) ≤ (s.pl : Int)) = false := by simp; omega
      have hnge2 : decide (l.length ≤ s.pl) = false := by simp; omega
      have HTA : Hid (tokAt l s.pl = l[s.pl]) := hid (by simp [tokAt, List.getD, hlt])
      have hxs : (l[s.pl]).text.size ≤ 2000000 := by have := HTS.out s.pl; rw [HTA.out] at this; exact this
      clear x0 x1
      obtain ⟨tk, htk⟩ : ∃ tk, l[s.pl] = tk := ⟨_, rfl⟩
      rw [htk] at p0 p1 HTA hxs
      obtain ⟨kd, X, tf, tn⟩ := tk
      have HTX := hid (fun w => refTag_any X hxs w)
      have HLT : Hid (isLabT 7 ⟨kd, X, tf, tn⟩ = (decide (kd = 2) && nameB 65 90 X)) := hid (by unfold isLabT; simp)
      have hbw : b < w5.heap.size := by omega
      clear htk
      by_cases hkd : kd = 2
      case neg =>
        have hkb : (kd != 2) = true := by simpa using hkd
        have HEQ : Hid (res = .bad s.pl 2) := hid (by
          rw [← HI.out.eq]
          exact rowF_no (Or.inr rfl) (by rw [HTA.out, HLT.out]; simp [hkd]))
        clear HST
        go_wp2_with fail
        refine (HWR.out _ _ 2 _ _ _ _).mono ?_
        rintro e wz ⟨rfl, hz⟩
        have HBZ := hid (HBX.out.below hz)
        obtain ⟨-, -, z0, z1, z2⟩ := HBZ.out.cells
        clear hz
        go_wp2
        refine bodyPost_ret (v := .tuple #[.slice none 0 0, .agg (st4 s.pl s.site A1 s.sites.length c1 2)]) (by simp [results, Tryz.results45, z0, go_sem]) rfl ?_
        exact WPost.none (below4 (b := w.heap.size + 1) HBZ.out.bel _ _ _ _) s.pl 2 s.site A1 _ c1 HEQ.out
      case pos =>
        subst hkd
        cases hnm : nameB 65 90 X with
        | false =>
          rw [hnm] at HTX
          have HEQ : Hid (res = .bad s.pl 2) := hid (by
            rw [← HI.out.eq]
            exact rowF_no (Or.inr rfl) (by rw [HTA.out, HLT.out, hnm]; simp))
          clear hnm
          go_wp2_with fail
          refine (HTX.out _).mono ?_
          rintro e wy ⟨rfl, rfl⟩
          clear HST
          go_wp2_with fail
          refine (HWR.out _ _ 2 _ _ _ _).mono ?_
          rintro e wz ⟨rfl, hz⟩
          have HBZ := hid (HBX.out.below hz)
          obtain ⟨-, -, z0, z1, z2⟩ := HBZ.out.cells
          clear hz
          go_wp2
          refine bodyPost_ret (v := .tuple #[.slice none 0 0, .agg (st4 s.pl s.site A1 s.sites.length c1 2)]) (by simp [results, Tryz.results45, z0, go_sem]) rfl ?_
          exact WPost.none (below4 (b := w.heap.size + 1) HBZ.out.bel _ _ _ _) s.pl 2 s.site A1 _ c1 HEQ.out
        | true =>
          rw [hnm] at HTX
          have HLB : Hid (isLabT 7 (tokAt l s.pl) = true) := hid (by rw [HTA.out, HLT.out, hnm]; simp)
          clear hnm
          go_wp2_with fail
          refine (HTX.out _).mono ?_
          rintro e wy ⟨rfl, rfl⟩
          go_wp2
          go_loopw [17] (fun vj wx => InZ its X w5 vj wx) (fun vj _ => its.length - (intOf vj).toNat)
          case atStart => exact InZ.mk 0 rfl (by omega) (hid (fun i hi => by omega)) (Below.refl _ _)
          case round =>
            obtain ⟨j, rfl, hj, hN, hBy⟩ := hrel
            have HBY := hid hBy
            have HBXY := hid (HBX.out.below hBy)
            obtain ⟨k0', k1', r0', r1', hwx⟩ := HBXY.out.cells
            have p1' := (hBy.cell (p := ⟨b, o + s.pl * 4 + 1, none⟩) hbw).trans p1
            by_cases hji : j < its.length
            · have hjs : j < (itS its).length := by rw [itS_len]; exact hji
              obtain ⟨bl, ol, hAL, hbl, hcl⟩ : ∃ bl ol, AL = some ⟨bl, ol, none⟩ ∧ bl < w5.heap.size ∧ ∀ (i : Nat) (h : i < (itS its).length), w5.cell? ⟨bl, ol + i, none⟩ = some (.string (itS its)[i]) := by
                obtain ⟨A', c', hv, hc⟩ := HR.out.ls.rd
                simp only [Value.slice.injEq] at hv
                obtain ⟨rfl, -, -⟩ := hv
                exact hc (by rintro h; rw [h] at hjs; simp at hjs)
              subst hAL
              have q0 := (hBy.cell (p := ⟨bl, ol + j, none⟩) hbl).trans (hcl j hjs)
              have hjz : (j : Int) < (its.length : Int) := by omega
              have HCUR := hid (fun (h : (itS its)[j] = X) => any_some hjs h)
              obtain ⟨Y, hY⟩ : ∃ Y, (itS its)[j] = Y := ⟨_, rfl⟩
              have HYE := hid hY
              rw [hY] at q0
              have he := eqS Y X
              clear hcl hY hBy
              by_cases hq : Y = X
              · have e2 : (Y.toList == X.toList) = true := by rw [he, decide_eq_true hq]
                have HEQ : Hid (res = .bad s.pl 7) := hid (by
                  rw [← HI.out.eq]
                  exact rowF_twice (Or.inr rfl) HLB.out (by rw [itP_fst, HTA.out]; exact HCUR.out (HYE.out.trans hq)))
                have HQ := hid (fun q => HBXY.out.below (below_drewN (Below.refl _ _) q))
                clear he hq
                go_wp2
                go_quiet (fail)
                clear HST
                go_wp2_with fail
                refine (HWR.out _ _ 7 _ _ _ _).mono ?_
                rintro e wz ⟨rfl, hz⟩
                have HBZ := hid ((HQ.out _).below hz)
                obtain ⟨-, -, z0, z1, z2⟩ := HBZ.out.cells
                clear hz
                go_wp2
                refine bodyPost_ret (v := .tuple #[.slice none 0 0, .agg (st4 s.pl s.site A1 s.sites.length c1 7)]) (by simp [results, Tryz.results45, z0, go_sem]) rfl ?_
                exact WPost.none (below4 (b := w.heap.size + 1) HBZ.out.bel _ _ _ _) s.pl 7 s.site A1 _ c1 HEQ.out
              · have e2 : (Y.toList == X.toList) = false := by rw [he, decide_eq_false hq]
                have hN2 : Hid (∀ i, i < j + 1 → ∀ h : i < (itS its).length, (itS its)[i] ≠ X) := hid (fun i hi h => by
                  rcases Nat.lt_or_ge i j with h2 | h2
                  · exact hN.out i h2 h
                  · obtain rfl : i = j := by omega
                    rw [HYE.out]
                    exact hq)
                clear he hq
                go_wp2
                go_quiet (fail)
                go_wp2
                go_roundw
                case rel => exact InZ.mk (j + 1) (by go_num) (by omega) hN2 (below_drewN HBY.out _)
                case measure => simp [intOf]; omega
            · obtain rfl : j = its.length := by omega
              have HNONE : Hid ((itS its).any (fun y => decide (y = X)) = false) := hid (any_none (fun i hi h => hN.out i (by rw [itS_len] at hi; exact hi) h))
              clear hBy
              by_cases h50 : its.length = 50
              · have HEQ : Hid (res = .bad s.pl 3) := hid (by
                  rw [← HI.out.eq, h50]
                  exact rowF_many (Or.inr rfl) HLB.out (by rw [itP_fst, HTA.out]; exact HNONE.out))
                have e50 : ((its.length : Int) == 50) = true := by rw [h50]; rfl
                clear h50
                clear HST
                go_wp2_with fail
                refine (HWR.out _ _ 3 _ _ _ _).mono ?_
                rintro e wz ⟨rfl, hz⟩
                have HBZ := hid (HBXY.out.below hz)
                obtain ⟨-, -, z0, z1, z2⟩ := HBZ.out.cells
                clear hz
                go_wp2
                refine bodyPost_ret (v := .tuple #[.slice none 0 0, .agg (st4 s.pl s.site A1 s.sites.length c1 3)]) (by simp [results, Tryz.results45, z0, go_sem]) rfl ?_
                exact WPost.none (below4 (b := w.heap.size + 1) HBZ.out.bel _ _ _ _) s.pl 3 s.site A1 _ c1 HEQ.out
              · have e50 : ((its.length : Int) == 50) = false := by simp; omega
                have hl49 : its.length < 50 := by omega
                have HSTP : Hid (res = (T.take l (stN s) T.kColon).bind fun _ s1' => (B s1').bind fun x s2 =>
                    if T.isSign l s2.pl (T.kBetw 7) then T.rowF l B 7 (49 - its.length) (itP its ++ [(X, x)]) (stN s2) else (T.take l s2 (T.kRight 7)).bind fun _ s3 => .ok (T.rowT 7 (itP its ++ [(X, x)])) s3) := hid (by
                  rw [← HI.out.eq, show 50 - its.length = (49 - its.length) + 1 by omega]
                  have := rowF_step (l := l) (B := B) (kind := 7) (n := 49 - its.length) (acc := itP its) (s := s) (Or.inr rfl) HLB.out (by rw [itP_fst, HTA.out]; exact HNONE.out)
                  rw [HTA.out] at this
                  exact this)
                have HLAB := hid (by have := isLabT_label (kind := 7) (Or.inr rfl) HLB.out; rw [HTA.out] at this; exact this)
                have HQ0 := hid ((HR.out.q.below HBY.out).below (below_new (.cells #[.string X] 9)))
                have HQL := hid (fun v3 w3 hown hg => ZQ.label (x := X) (w' := w3) (v3 := v3) HQ0.out hown hg)
                have HOLD : Hid ((wr.alloc (.cells #[.string X] 9)).ownsRow (w.heap.size + 2) 9 1 (.slice AL its.length cL) its.length ((itS its).map .string)) := hid (by
                  have := HQ0.out.ls
                  unfold OwnS at this
                  rw [itS_len] at this
                  exact this)
                have hxw : w.heap.size + 2 ≤ wr.heap.size := by omega
                clear h50 p0 p1 HTX HLT
                go_wp2_with (at_builtin; refine wpList_append_own _ rfl _ _ 90 rfl (w.heap.size + 2) 9 is (.string ⟨#[]⟩) 1 16 Tryz.underlying90 hs1 hs2 hs3 hs4 rfl (by decide) _ _ _ rfl HOLD.out ⟨wr.heap.size, 0, none⟩ 1 1 [.string X] rfl rfl ?c1 ?c2 ?c3 ?c4 ?c5 ?_)
                case c2 => simp [Value.oneCell']
                case c3 => unfold maxLen; omega
                case c4 => omega
                case c5 => first | omega | (simp; omega) | (trace_state; sorry)
                intro v3 w3 hown hgrow _
                have HQ3 := hid (HQL.out v3 w3 (by rw [itS_len]; exact hown) hgrow)
                obtain ⟨AL3, cL3, rfl⟩ : ∃ A cp, v3 = .slice A (its.length + 1) cp := by obtain ⟨A, c, h⟩ := HQ3.out.ls.val; exact ⟨A, c, by rw [h, List.length_append, itS_len]; rfl⟩
                clear hown hgrow HQL HOLD HQ0
                obtain ⟨m0, m1, n0, n1, hw3⟩ := HQ3.out.zb.cells
                have HQ4 := hid (HQ3.out.next ((s.pl : Int) + 1) rfl)
                have HN4 := hid (HND.out (s.pl + 1) s.site A1 s.sites.length c1 T.kColon _ (by omega) (HX.out.below HQ4.out.zb.bel))
                go_wp2_with fail
                refine (HN4.out).mono ?_
                rintro e w6 ⟨hb6, h6⟩
                have HQ6 := hid (HQ4.out.below hb6)
                have hs0 : 0 ≤ s.site := HI.out.s0
                clear hb6 HN4 HQ3 HQ4 m0 m1 n0 n1 hw3
                obtain ⟨m0, m1, n0, n1, hw6⟩ := HQ6.out.zb.cells
                rcases h6 with ⟨hs6, rfl⟩ | ⟨hs6, rfl⟩
                · have hlt6 := T.isSign_lt hs6
                  have HST6 : Hid (res = (B (stN (stN s))).bind fun x s2 =>
                    if T.isSign l s2.pl (T.kBetw 7) then T.rowF l B 7 (49 - its.length) (itP its ++ [(X, x)]) (stN s2) else (T.take l s2 (T.kRight 7)).bind fun _ s3 => .ok (T.rowT 7 (itP its ++ [(X, x)])) s3) := hid (by rw [HSTP.out, take_yes (s := stN s) hs6]; rfl)
                  have HQ7 := hid (HQ6.out.put (s2 := stN (stN s)) (er2 := 0) HQ6.out.si)
                  have hpl7 : (stN (stN s)).pl ≤ l.length := by simp only [stN]; omega
                  have hsl7 : (stN (stN s)).sites.length ≤ (stN (stN s)).pl := by have := HI.out.sl; simp only [stN]; omega
                  have hsi7 : (stN (stN s)).site + l.length ≤ 4000000000000000000 + (stN (stN s)).pl := by have := HI.out.s1; simp only [stN]; omega
                  have HWH := hid (HB.out (stN (stN s)) A1 c1 _ (HX.out.below HQ7.out.zb.bel) HQ7.out.si hpl7 hsl7 hs0 hsi7)
                  clear hs6 hsi7 hsl7 HSTP
                  unfold stV at HWH
                  go_wp2_with fail
                  refine (HWH.out).mono ?_
                  rintro e w8 ⟨hb8, h8⟩
                  have HQ8 := hid (HQ7.out.below hb8)
                  have hw7 : w.heap.size + 2 ≤ (put4 w6 w.heap.size (.int .i64 ((stN (stN s)).pl : Int)) (.int .i64 (stN (stN s)).site) (.slice A1 s.sites.length c1) (.int .i64 0)).heap.size := HQ7.out.zb.cells.2.2.2.2
                  rcases h8 with ⟨p, er, v, ns, site, A, n, c, hb, rfl, -, -⟩ | ⟨t, s8, v, A, n, c, hok, rfl, hown, hrd⟩
                  · have herr := HBP.out (stN (stN s)) hs0 hpl7 p er hb
                    have her : (er != 0) = true := by have := herr.1; simp; omega
                    have HEQ : Hid (res = .bad p er) := hid (by rw [HST6.out, hb]; rfl)
                    have HBZ := hid (HQ8.out.zb.put (q := p) (site2 := site) (A2 := A) (n2 := n) (c2 := c) (er2 := er))
                    obtain ⟨m0', m1', n0', n1', hw8⟩ := HQ8.out.zb.cells
                    have hw8b : w.heap.size < w8.heap.size := by omega
                    clear hb herr hb8 hpl7 m0 m1 n0 n1 HWH
                    unfold stV
                    go_wp2
                    go_region
                    all_goals go_wp2
                    all_goals (
                      refine bodyPost_ret (v := .tuple #[.slice none 0 0, .agg (st4 p site A n c er)]) (by simp [results, Tryz.results45, n0', hw8, go_sem]) rfl ?_
                      exact ((zbad HBZ.out (Own.nil _ _) (by simp) HEQ.out).below (below_new _)).drew)
                  · obtain rfl : n = s8.sites.length := by
                      obtain ⟨_, _, h, -⟩ := id hrd
                      simp only [Value.slice.injEq] at h
                      exact h.2.1
                    have hgot := HG.out (stN (stN s)) hs0 t s8 hok
                    have HGOT := hid hgot
                    have hgot8 := hgot
                    have HNN : Hid ((T.rowT 7 (itP its ++ [(X, t)])).flat.length ≤ M) := hid (by
                      have h1 := HI.out.sum
                      have h2 := hgot.nodes
                      have h3 := hgot.le
                      have h4 := HLL.out
                      rw [flat_len, T.rowT_nodes, List.map_append, List.sum_append]
                      simp only [stN] at h2
                      simp only [itP, List.map_map, Function.comp_def, List.map_cons, List.map_nil, List.sum_cons, List.sum_nil]
                      omega)
                    have HNT : Hid (t.nodes ≤ 20000) := hid (by have h1 := hgot.nodes; have h2 := hgot.le; have h3 := HLL.out; omega)
                    have HITM : Hid (T.Items 7 (itP its ++ [(X, t)])) := hid (items_snoc HI.out.ok HLAB.out (by rw [itP_fst]; exact HNONE.out) ⟨hgot.ok, hgot.bare⟩ hgot.plain)
                    have HST8 : Hid (res = if T.isSign l s8.pl (T.kBetw 7) then T.rowF l B 7 (49 - its.length) (itP its ++ [(X, t)]) (stN s8) else (T.take l s8 (T.kRight 7)).bind fun _ s3 => .ok (T.rowT 7 (itP its ++ [(X, t)])) s3) := hid (by rw [HST6.out, hok]; rfl)
                    have HQ9a := hid (HQ8.out.put (s2 := s8) (er2 := 0) hrd)
                    have HQ9 := hid (HQ9a.out.below (below_new (.cells (st4 s8.pl s8.site A s8.sites.length c 0) 49)))
                    have HOW9 := hid ((HQ8.out.own (hown.more hw7) (.int .i64 (s8.pl : Int)) (.int .i64 s8.site) (.slice A s8.sites.length c) (.int .i64 0)).below (below_new (.cells (st4 s8.pl s8.site A s8.sites.length c 0) 49)))
                    obtain ⟨Av, cv, rfl⟩ := row_slice hown
                    obtain ⟨m0', m1', n0', n1', hw8⟩ := HQ8.out.zb.cells
                    have HQ9b := hid (HQ9.out.below (below_new (.cells #[.slice Av t.flat.length cv] 26)))
                    have HOW9b := hid (HOW9.out.below (below_new (.cells #[.slice Av t.flat.length cv] 26)))
                    have HQT := hid (fun v3 w3 hown hg => ZQ.typ (v := .slice Av t.flat.length cv) (t := t.flat) (w' := w3) (v3 := v3) HQ9b.out HOW9b.out hown hg)
                    have HOLD : Hid ((((put4 w8 w.heap.size (.int .i64 (s8.pl : Int)) (.int .i64 s8.site) (.slice A s8.sites.length c) (.int .i64 0)).alloc (.cells (st4 s8.pl s8.site A s8.sites.length c 0) 49)).alloc (.cells #[.slice Av t.flat.length cv] 26)).ownsRow (w.heap.size + 2) 26 1 (.slice AT its.length cT) its.length ((itT its).map (·.1))) := hid (by
                      have := HQ9b.out.ts.1
                      rw [itT_len] at this
                      exact this)
                    have hWs : ((put4 w8 w.heap.size (.int .i64 (s8.pl : Int)) (.int .i64 s8.site) (.slice A s8.sites.length c) (.int .i64 0)).alloc (.cells (st4 s8.pl s8.site A s8.sites.length c 0) 49)).heap.size = w8.heap.size + 1 := by simp [put4, World.setCell]
                    have HNW : Hid (∀ j u, ([.slice Av t.flat.length cv] : List Value)[j]? = some u → (((put4 w8 w.heap.size (.int .i64 (s8.pl : Int)) (.int .i64 s8.site) (.slice A s8.sites.length c) (.int .i64 0)).alloc (.cells (st4 s8.pl s8.site A s8.sites.length c 0) 49)).alloc (.cells #[.slice Av t.flat.length cv] 26)).cell? ((⟨w8.heap.size + 1, 0, none⟩ : Addr).add j) = some u) := hid (by
                      have h := lit_cells ((put4 w8 w.heap.size (.int .i64 (s8.pl : Int)) (.int .i64 s8.site) (.slice A s8.sites.length c) (.int .i64 0)).alloc (.cells (st4 s8.pl s8.site A s8.sites.length c 0) 49)) #[.slice Av t.flat.length cv] 26 [.slice Av t.flat.length cv] rfl
                      rw [hWs] at h
                      exact h)
                    have HON1 : Hid (∀ u ∈ ([.slice Av t.flat.length cv] : List Value), u.oneCell' = true) := hid (by simp [Value.oneCell'])
                    have H63 : Hid (its.length + 1 ≤ maxLen) := hid (by unfold maxLen; omega)
                    have HBY2 : Hid ((its.length + 1) * 24 ≤ 140737488355328) := hid (by omega)
                    have HBS : Hid (w.heap.size + 2 ≤ (((put4 w8 w.heap.size (.int .i64 (s8.pl : Int)) (.int .i64 s8.site) (.slice A s8.sites.length c) (.int .i64 0)).alloc (.cells (st4 s8.pl s8.site A s8.sites.length c 0) 49)).alloc (.cells #[.slice Av t.flat.length cv] 26)).heap.size) := hid (by
                      have h := (below_new (w := ((put4 w8 w.heap.size (.int .i64 (s8.pl : Int)) (.int .i64 s8.site) (.slice A s8.sites.length c) (.int .i64 0)).alloc (.cells (st4 s8.pl s8.site A s8.sites.length c 0) 49))) (.cells #[.slice Av t.flat.length cv] 26)).size
                      rw [hWs] at h
                      omega)
                    have HGOT8 := hid hgot8
                    clear hWs hgot8
                    have hw8b : w.heap.size < w8.heap.size := by omega
                    clear hb8 hok hown hrd hgot HWH HST6 HQ6 HQ7 HOW9 m0 m1 n0 n1 hpl7
                    unfold stV
                    go_wp2_with (at_builtin; refine wpList_append_own _ rfl _ _ 97 rfl (w.heap.size + 2) 26 it (.slice none 0 0) 1 24 Tryz.underlying97 ht1 ht2 ht3 ht4 rfl (by decide) _ _ _ rfl HOLD.out ⟨w8.heap.size + 1, 0, none⟩ 1 1 [.slice Av t.flat.length cv] rfl rfl HNW.out HON1.out H63.out HBY2.out HBS.out ?_)
                    intro v5 w10 hown hgrow _
                    have HQ10 := hid (HQT.out v5 w10 (by rw [itT_len]; exact hown) hgrow)
                    clear hown hgrow HQT HOLD HQ9a HQ9 HQ9b HOW9b m0' m1' n0' n1' hw8 hw8b
                    obtain ⟨m0, m1, n0, n1, hw10⟩ := HQ10.out.zb.cells
                    have HI10 := hid (HIS.out s8.pl sb _ (HX.out.below HQ10.out.zb.bel))
                    have hs8 : s8.pl ≤ 2000000 := by have := HGOT8.out.le; omega
                    go_wp2_with fail
                    refine (HI10.out).mono ?_
                    rintro e w11 ⟨rfl, h11⟩
                    have HQ11 := hid (HQ10.out.below h11)
                    clear h11 HI10 m0 m1 n0 n1 hw10
                    obtain ⟨m0, m1, n0, n1, hw11⟩ := HQ11.out.zb.cells
                    cases hs11 : T.isSign l s8.pl sb with
                    | true =>
                      have HZI := hid (HI.out.more (v := .slice Av t.flat.length cv) (x := X) (t := t) (s8 := s8) (res2 := res) hl49 HLL.out hxs HLAB.out HNONE.out HGOT.out (by rw [HSB.out]; exact hs11) (by rw [HST8.out, HSB.out, if_pos hs11]))
                      have HR12 := hid (HQ11.out.next ((s8.pl : Int) + 1) rfl).r
                      clear hs11
                      go_wp2
                      go_roundw
                      case rel => exact OutZ.mk _ _ _ _ HZI.out HR12.out
                      case measure => simp [lenOf]; omega
                    | false =>
                      have HN12 := hid (HND.out s8.pl s8.site A s8.sites.length c sr _ hs8 (HX.out.below HQ11.out.zb.bel))
                      have HS11 := hid hs11
                      clear hs11
                      go_wp2_with fail
                      refine (HN12.out).mono ?_
                      rintro e w12 ⟨hb12, h12⟩
                      have HQ12 := hid (HQ11.out.below hb12)
                      clear hb12 HN12 m0 m1 n0 n1 hw11
                      rcases h12 with ⟨hs12, rfl⟩ | ⟨hs12, rfl⟩
                      · have HEQ : Hid (res = .ok (T.rowT 7 (itP its ++ [(X, t)])) (stN s8)) := hid (by rw [HST8.out, HSB.out, HS11.out, HSR.out, take_yes hs12]; simp only [Bool.false_eq_true, if_false, T.R.bind])
                        have HQ13 := hid (HQ12.out.put (s2 := stN s8) (er2 := 0) HQ12.out.si)
                        have HRW := hid (zrow_any (Or.inr rfl) its X (.slice Av t.flat.length cv) t HITM.out hl49 HI.out.fits hxs HNT.out _ v5 _ HQ13.out.ls HQ13.out.ts)
                        clear hs12
                        obtain ⟨m0, m1, n0, n1, hw12⟩ := HQ12.out.zb.cells
                        go_wp2_with fail
                        refine (HRW.out).mono ?_
                        rintro e w14 ⟨vr, rfl, hb14, ho14⟩
                        have HQ14 := hid (HQ13.out.below hb14)
                        have HO14 := hid (ho14.more (B' := w.heap.size) (by have := HQ13.out.zb.bel.size; omega))
                        clear hb14 ho14 HRW m0 m1 n0 n1 hw12
                        obtain ⟨m0, m1, n0, n1, hw14⟩ := HQ14.out.zb.cells
                        go_wp2
                        go_region
                        all_goals go_wp2
                        all_goals (
                          refine bodyPost_ret (v := .tuple #[vr, .agg (st4 (stN s8).pl (stN s8).site A (stN s8).sites.length c 0)]) (by simp [results, Tryz.results45, n0, go_sem]) rfl ?_
                          exact (zend HQ14.out.zb (s' := stN s8) HO14.out (Nat.le_refl _) HQ14.out.si HEQ.out ((stN s8).pl : Int) (stN s8).site rfl rfl).drew)
                      · have HEQ : Hid (res = .bad s8.pl 2) := hid (by rw [HST8.out, HSB.out, HS11.out, HSR.out, take_no hs12]; simp only [Bool.false_eq_true, if_false, T.R.bind])
                        have HQ13 := hid (HQ12.out.put (s2 := s8) (er2 := 2) HQ12.out.si)
                        have HRW := hid (zrow_any (Or.inr rfl) its X (.slice Av t.flat.length cv) t HITM.out hl49 HI.out.fits hxs HNT.out _ v5 _ HQ13.out.ls HQ13.out.ts)
                        clear hs12
                        obtain ⟨m0, m1, n0, n1, hw12⟩ := HQ12.out.zb.cells
                        go_wp2_with fail
                        refine (HRW.out).mono ?_
                        rintro e w14 ⟨vr, rfl, hb14, ho14⟩
                        have HQ14 := hid (HQ13.out.below hb14)
                        have HO14 := hid (ho14.more (B' := w.heap.size) (by have := HQ13.out.zb.bel.size; omega))
                        clear hb14 ho14 HRW m0 m1 n0 n1 hw12
                        obtain ⟨m0, m1, n0, n1, hw14⟩ := HQ14.out.zb.cells
                        go_wp2
                        go_region
                        all_goals go_wp2
                        all_goals (
                          refine bodyPost_ret (v := .tuple #[vr, .agg (st4 s8.pl s8.site A s8.sites.length c 2)]) (by simp [results, Tryz.results45, n0, go_sem]) rfl ?_
                          exact (zbad HQ14.out.zb HO14.out HNN.out HEQ.out).drew)
                · have HEQ : Hid (res = .bad (s.pl + 1) 2) := hid (by rw [HSTP.out, take_no (s := stN s) hs6]; rfl)
                  have HQ7 := hid (HQ6.out.put (s2 := stN s) (er2 := 2) HQ6.out.si)
                  clear hs6
                  go_wp2_with fail
                  refine (HWB.out (s.pl + 1) s.site 2 rfl A1 s.sites.length c1 _).mono ?_
                  rintro e w8 ⟨rfl, hb8⟩
                  have HQ8 := hid (HQ7.out.below hb8)
                  obtain ⟨m0', m1', n0', n1', hw8⟩ := HQ8.out.zb.cells
                  have hw8b : w.heap.size < w8.heap.size := by omega
                  have HBZ := hid (HQ8.out.zb.put (q := s.pl + 1) (site2 := s.site) (A2 := A1) (n2 := s.sites.length) (c2 := c1) (er2 := 2))
                  clear hb8 m0 m1 n0 n1
                  go_wp2
                  go_region
                  all_goals go_wp2
                  all_goals (
                    refine bodyPost_ret (v := .tuple #[.slice none 0 0, .agg (st4 (s.pl + 1) s.site A1 s.sites.length c1 2)]) (by simp [results, Tryz.results45, n0', hw8, go_sem]) rfl ?_
                    exact ((zbad HBZ.out (Own.nil _ _) (by simp) HEQ.out).below (below_new _)).drew)

end Go.Proofs.YtgghmhgbdknkaaaGreat
