/-
  The walk of core's Grow. Conditions: sets of at most 1000 numbers, at most 1000 bad sets of at most 1000 numbers, each once.
-/
import Derived.Test.YtnhjiappmblnmaaCrE
namespace Go.Proofs.Ytnhjiappmblnmaa
open Go.RowKit Go.Sort
def GrowPost (s all : List Int) (bad : List (List Int)) (w : World) (e : Ending) (w' : World) : Prop := ∃ v, e = .returned (.tuple #[v, .bool (Cr.fitsB bad s)]) ∧ RdZ w' w'.heap.size v (Cr.growL s all bad) ∧ Below w.heap.size w w'

set_option maxHeartbeats 8000000 in
set_option maxRecDepth 100000 in
theorem coreGrow_any (s all : List Int) (bad : List (List Int)) (hs : Cr.isSet s) (hl : s.length ≤ 1000) (ha : Cr.isSet all) (hal : all.length ≤ 1000) (hb : Cr.Few bad) (v z u : Value) (w : World) (hx : RdZ w w.heap.size v s) (hy : RdZ w w.heap.size z all) (hu : RdZZ w w.heap.size u bad) :
    Calls Try.prog 12 #[v, z, u] w (GrowPost s all bad w) := by
  obtain ⟨i0, hi, hz0, hz1, hz2⟩ := info_parts info_int
  have HA := hid (set_any s hs hl v w hx)
  have HIN := hid hx.inZ
  have HS := hid hs
  have HBF := hid hb
  have HU := hid hu
  have HY := hid hy
  have HA2 := hid ha
  obtain ⟨A3, cap3, rfl, -⟩ := hy.val
  clear hy ha
  obtain ⟨A, cap, rfl, -⟩ := hx.val
  obtain ⟨A2, cap2, rfl, -⟩ := hu.val
  clear hx hu hs hb
  go_enter Try.func12, Try.ntmps12
  go_wp2_with fail
  refine (HA.out).mono ?_
  rintro e w1 ⟨v1, rfl, h1, b1⟩
  have HBG := hid (begin_any s bad HS.out.nodup hl HBF.out v1 _ w1 (h1.rdz HIN.out) (HU.out.to b1))
  have HB1 := hid b1
  obtain ⟨A1, cap1, rfl, g1, g2⟩ := h1.val
  unfold maxLen at g2
  have HO1 := hid h1
  clear h1 b1 HA
  go_wp2_with fail
  refine (HBG.out).mono ?_
  rintro e w2 ⟨fb, M1, rfl, t2, m2, b2⟩
  have HF := hid (fits_any (Stp.made t2 m2).tr)
  have HP := hid (Stp.made t2 m2)
  have HM2 := hid m2
  have HB2 := hid b2
  obtain ⟨b, hfb⟩ : ∃ b, Cr.fitsB bad s = b := ⟨_, rfl⟩
  have HFB := hid hfb
  rw [hfb] at HF
  have HB3 := hid (show Below w1.heap.size w1 (w2.alloc (.cells #[.func (.func 34) #[] #[.pointer (some ⟨fb, 0, none⟩)], .func (.func 35) #[] #[.pointer (some ⟨fb, 0, none⟩)], .func (.func 36) #[] #[.pointer (some ⟨w1.heap.size + 5, 0, none⟩)]] 39)) from b2.alloc b2.size _)
  have HZ3 := hid (show (w2.alloc (.cells #[.func (.func 34) #[] #[.pointer (some ⟨fb, 0, none⟩)], .func (.func 35) #[] #[.pointer (some ⟨fb, 0, none⟩)], .func (.func 36) #[] #[.pointer (some ⟨w1.heap.size + 5, 0, none⟩)]] 39)).heap.size = w2.heap.size + 1 by simp)
  clear t2 m2 b2 HBG hfb
  go_wp2_with fail
  refine (HF.out).mono ?_
  rintro e w3 ⟨rfl, rfl⟩
  obtain ⟨w3, hw3⟩ : ∃ w3, w2.alloc (.cells #[.func (.func 34) #[] #[.pointer (some ⟨fb, 0, none⟩)], .func (.func 35) #[] #[.pointer (some ⟨fb, 0, none⟩)], .func (.func 36) #[] #[.pointer (some ⟨w1.heap.size + 5, 0, none⟩)]] 39) = w3 := ⟨_, rfl⟩
  rw [hw3] at HP HB3 HZ3 ⊢
  obtain ⟨tb, htb⟩ : ∃ tb, w2.heap.size = tb := ⟨_, rfl⟩
  rw [htb] at HP HZ3 HM2 ⊢
  have HTB := hid (show w1.heap.size ≤ tb from htb ▸ HB2.out.size)
  clear hw3 HF htb HB2
  have HW3 := hid (HB1.out.trans (HB3.out.mono HB1.out.size))
  cases b with
  | false =>
    have HE := hid (show GrowPost s all bad w (.returned (.tuple #[.slice none 0 0, .bool false])) w3 from ⟨_, by rw [HFB.out], by rw [Cr.growL_no HFB.out]; exact RdZ.nil _ _, HW3.out⟩)
    go_wp2_with fail
    go_ret2
    exact HE.out
  | true =>
    obtain ⟨s0, hs0⟩ : ∃ s0, w1.heap.size = s0 := ⟨_, rfl⟩
    rw [hs0] at HP HB3 HTB ⊢
    have HR := hid (show RdZ w3 s0 (.slice A1 s.length cap1) s from hs0 ▸ ((HO1.out.rdz HIN.out).below (by rw [hs0]; exact HB3.out)))
    have HOT := hid (others_any s all HS.out HA2.out hl hal (.slice A1 s.length cap1) _ w3 (HR.out.mono (by have := HB3.out.size; have := HTB.out; have := HZ3.out; omega)) (HY.out.to HW3.out))
    have HWS := hid (show w.heap.size ≤ s0 from hs0 ▸ HB1.out.size)
    have HLO := hid HP.out.lo
    have HIY := hid (show ∀ z ∈ lackL s all, InZ z from fun z hz => HY.out.inZ z (List.mem_filter.1 hz).1)
    have HOL := hid (lackL_set (s := s) HA2.out)
    have HON := hid (show ∀ z ∈ lackL s all, z ∉ s from fun z hz h => by have := (List.mem_filter.1 hz).2; simp [h] at this)
    have hol := lackL_len s all
    have HO3 := hid (show OwnZ w.heap.size (.slice A1 s.length cap1) s w3 from HO1.out.below (by rw [hs0]; exact HB3.out))
    have HOB := hid (show ∀ g, (Value.slice A1 s.length cap1).ownBlock = some g → g < s0 from fun g hg => hs0 ▸ (HO1.out.lt g hg).2)
    clear hs0 HO1 HB1 HU HB3 HY HA2 HR
    go_wp2_with fail
    refine (HOT.out).mono ?_
    rintro e w4 ⟨v4, rfl, h4, b4⟩
    obtain ⟨ol, hob⟩ : ∃ ol, lackL s all = ol := ⟨_, rfl⟩
    have HLK := hid hob
    rw [hob] at h4 HIY HOL HON hol
    have HP4 := hid (HP.out.fr (Fr.of_below (P := fun i => w3.heap.size ≤ i) b4 fun i hi => hi) fun i hi => Or.inr (by have := HZ3.out; omega))
    have HW4 := hid (HW3.out.trans (b4.mono HW3.out.size))
    have HO4 := hid (HO3.out.below b4)
    have HZ4 := hid b4.size
    obtain ⟨A4, cap4, rfl, k1, k2⟩ := h4.val
    unfold maxLen at k2
    have HV4 := hid h4
    clear h4 b4 hob HOT HO3 HP
    obtain ⟨M4, hM4⟩ : ∃ M4, w4.heap.size = M4 := ⟨_, rfl⟩
    have HM4 := hid hM4
    have HTM := hid (show tb < M4 by have := HZ4.out; have := HZ3.out; omega)
    clear hM4
    go_wp2_with fail
    go_loopw [9, 26] (fun v9 v26 wr => ∃ (i : Nat) (c g : List Int), v26 = .int .i64 i ∧ i ≤ ol.length ∧ g.length ≤ s.length + i ∧ Hid (Cr.growR bad c (ol.drop i) = Cr.growL s all bad) ∧ Hid (Cr.isSet c) ∧ Hid (∀ x, x ∈ g ↔ x ∈ c) ∧ Hid g.Nodup ∧ Hid (∀ z ∈ g, InZ z) ∧ Hid (∀ x ∈ c, x ∈ s ∨ x ∈ ol.take i) ∧ Hid (Stp wr s0 fb M1 tb bad c) ∧ Hid (OwnZ w.heap.size v9 g wr) ∧ Hid (∀ gb, v9.ownBlock = some gb → gb < s0 ∨ M4 ≤ gb) ∧ Hid (Fr (fun i => (w.heap.size ≤ i ∧ i < s0) ∨ (s0 < i ∧ i < tb) ∨ M4 ≤ i) w4 wr)) (fun _ v26 _ => ol.length - (intOf v26).toNat)
    case atStart => exact ⟨0, s, s, rfl, by omega, by omega, hid (by rw [List.drop_zero, Cr.growL_yes HFB.out, ← HLK.out]; exact (Cr.grow_lack all s HFB.out fun _ h => h).symm), HS, hid (fun _ => Iff.rfl), hid HS.out.nodup, HIN, hid (fun _ h => Or.inl h), HP4, HO4, hid (fun g hg => Or.inl (HOB.out g hg)), hid (Fr.refl _ _)⟩
    case round =>
      obtain ⟨i, c, g, rfl, hi', hgl, hE, hC, hG, hN, hI, hU, hT, hO, hL, hF⟩ := hrel
      obtain ⟨wo, hwo⟩ : ∃ wo : World, wo = wr := ⟨_, rfl⟩
      subst hwo
      by_cases hlt : i < ol.length
      · have hiz : (i : Int) < (ol.length : Int) := by omega
        obtain ⟨b1, o1, rfl, -, c1⟩ := ((HV4.out.fr hF.out fun gb hg e => by have := HV4.out.lt gb hg; have := HZ3.out; have := HM4.out; have := HTB.out; omega).rdz HIY.out).atv (Below.refl _ _) hlt
        have hmem := List.getElem_mem hlt
        have hz := HIY.out ol[i] hmem
        have hns := HON.out ol[i] hmem
        have htk : ol.take (i + 1) = ol.take i ++ [ol[i]] := List.take_succ_eq_append_getElem hlt
        have hdr : ol.drop i = ol[i] :: ol.drop (i + 1) := List.drop_eq_getElem_cons hlt
        have hnt : ol[i] ∉ ol.take i := fun h => by
          obtain ⟨j, hj, he⟩ := List.getElem_of_mem h
          have hj2 : j < i := by simp at hj; omega
          rw [List.getElem_take] at he
          have := (List.pairwise_iff_getElem.1 HOL.out) j i (by omega) hlt hj2
          omega
        rw [hdr] at hE
        obtain ⟨n, hn⟩ : ∃ n, ol[i] = n := ⟨_, rfl⟩
        rw [hn] at c1 hz htk hns hnt hE
        obtain ⟨x0, x1, x2⟩ := hT.out.cells
        have hnc : n ∉ c := fun h => (hU.out n h).elim hns hnt
        have HPU := hid (put_any hT.out.tr HBF.out n hz hnc)
        have HTA := hid htk
        have HZN := hid hz
        have HNC := hid hnc
        clear hn htk hz hmem hns hnc hnt hdr
        go_wp2_with fail
        refine (HPU.out).mono ?_
        rintro e w5 ⟨rfl, t5, f5⟩
        have P5 := hid (hT.out.moved t5 f5)
        have f5' : Fr (fun i => (w.heap.size ≤ i ∧ i < s0) ∨ (s0 < i ∧ i < tb) ∨ M4 ≤ i) wo w5 := f5.mono fun j _ hj => Or.inr (Or.inl (by have := HP4.out.hi; have := HLO.out; omega))
        have F5 := hid (hF.out.trans f5')
        have O5 := hid (hO.out.fr f5 fun gb hg e => by have := hL.out gb hg; have := HP4.out.hi; have := HLO.out; have := HTM.out; omega)
        have HFI := hid (fits_any t5)
        obtain ⟨q, hq⟩ : ∃ q, Cr.fitsB bad (n :: c) = q := ⟨_, rfl⟩
        have HQ := hid (show Cr.fitsB bad (Cr.withL c n) = q by
          rw [← hq]
          exact Cr.fitsB_congr fun x => by rw [Cr.mem_with, List.mem_cons])
        rw [hq] at HFI
        obtain ⟨y0, y1, y2⟩ := P5.out.cells
        clear t5 f5 f5' x0 x1 x2 hT hF hq HPU hO
        go_wp2_with fail
        refine (HFI.out).mono ?_
        rintro e w6 ⟨rfl, rfl⟩
        cases q with
        | true =>
          have hsz := hid (show w.heap.size ≤ w5.heap.size by have := F5.out.size; have := HM4.out; have := HTM.out; have := HTB.out; have := HWS.out; omega)
          have HOA := hid (show (w5.alloc (.cells #[.int .i64 n] 3)).ownsRow w.heap.size 3 1 u9 g.length (g.map (Value.int .i64)) from World.ownsRow.alloc O5.out _)
          clear y0 y1 y2 HFI
          go_wp2_with (at_builtin; refine wpList_append_own_at _ rfl _ _ 22 rfl w.heap.size 3 i0 (.int .i64 0) 1 8 Try.underlying22 hi hz0 hz1 hz2 rfl (by decide) _ _ _ rfl HOA.out ⟨w5.heap.size, 0, none⟩ 1 1 [.int .i64 n] rfl rfl (cell_one_new _ _ _) (ints_oneCell .i64 [n]) (by unfold maxLen; omega) (by omega) (by have := hsz.out; simp; omega) ?_; intro v' w7 hown hgrow _ hloc)
          have hF7 : Fr (fun i => (w.heap.size ≤ i ∧ i < s0) ∨ M4 ≤ i) w5 w7 := by
            have gg := grown_after (below_new (w := w5) (.cells #[.int .i64 n] 3)) hgrow
            exact Fr.grown gg fun k hk => by
              have := (World.ownsRow.lt HOA.out k hk).1
              have := hL.out k hk
              omega
          have P7 := hid ((P5.out.fr hF7 fun j hj => by have := HTM.out; omega).congr (T := Cr.withL c n) fun x => by rw [Cr.mem_with, List.mem_cons])
          have F7 := hid (F5.out.trans (hF7.mono fun j _ hj => hj.imp id Or.inr))
          have O7 := hid (show OwnZ w.heap.size v' (g ++ [n]) w7 from by
            unfold OwnZ
            rw [List.map_append, List.length_append]
            exact hown)
          have L7 := hid (show ∀ gb, v'.ownBlock = some gb → gb < s0 ∨ M4 ≤ gb from fun gb hg => by
            rcases hloc with h | h
            · exact hL.out gb (h ▸ hg)
            · rw [h] at hg
              simp only [Option.some.injEq] at hg
              have := F5.out.size
              have := HM4.out
              simp at hg
              omega)
          have E7 := hid (show Cr.growR bad (Cr.withL c n) (ol.drop (i + 1)) = Cr.growL s all bad by
            rw [← hE.out]
            rw [show Cr.growR bad c (n :: ol.drop (i + 1)) = if Cr.fitsB bad (Cr.withL c n) = true then Cr.growR bad (Cr.withL c n) (ol.drop (i + 1)) else Cr.growR bad c (ol.drop (i + 1)) from rfl]
            rw [if_pos HQ.out])
          have C7 := hid (Cr.with_set hC.out n)
          have G7 := hid (show ∀ x, x ∈ g ++ [n] ↔ x ∈ Cr.withL c n from fun x => by
            rw [List.mem_append, List.mem_singleton, Cr.mem_with, hG.out x]
            exact Or.comm)
          have N7 := hid (show (g ++ [n]).Nodup by
            rw [List.nodup_append]
            refine ⟨hN.out, by simp, fun a ha b hb e => ?_⟩
            rw [List.mem_singleton] at hb
            exact HNC.out ((hG.out n).1 (by rw [← hb, ← e]; exact ha)))
          have I7 := hid (show ∀ z ∈ g ++ [n], InZ z from fun z hz => by
            rcases List.mem_append.1 hz with h | h
            · exact hI.out z h
            · rw [List.mem_singleton] at h; rw [h]; exact HZN.out)
          have U7 := hid (show ∀ x ∈ Cr.withL c n, x ∈ s ∨ x ∈ ol.take (i + 1) from fun x hx => by
            rw [HTA.out, List.mem_append, List.mem_singleton]
            rcases (Cr.mem_with _ _ _).1 hx with h | h
            · exact Or.inr (Or.inr h)
            · exact (hU.out x h).imp id Or.inl)
          clear hown hgrow hloc hF7 HOA
          go_wp2_with fail
          go_roundw
          case rel => exact ⟨i + 1, Cr.withL c n, g ++ [n], by go_num, by omega, by simp; omega, E7, C7, G7, N7, I7, U7, P7, O7, L7, F7⟩
          case measure => simp [intOf]; omega
        | false =>
          have HTK := hid (take_any P5.out.tr HBF.out n HZN.out (by simp))
          go_wp2_with fail
          refine (HTK.out).mono ?_
          rintro e w6 ⟨rfl, t6, f6⟩
          have P6 := hid ((P5.out.moved t6 f6).congr (T := c) fun x => by
            rw [Cr.mem_without, List.mem_cons]
            constructor
            · rintro ⟨h | h, g⟩
              · exact absurd h g
              · exact h
            · intro h
              exact ⟨Or.inr h, fun e => HNC.out (e ▸ h)⟩)
          have F6 := hid (F5.out.trans (f6.mono fun j _ hj => Or.inr (Or.inl (by have := HP4.out.hi; have := HLO.out; omega))))
          have O6 := hid (O5.out.fr f6 fun gb hg e => by have := hL.out gb hg; have := HP4.out.hi; have := HLO.out; have := HTM.out; omega)
          have E6 := hid (show Cr.growR bad c (ol.drop (i + 1)) = Cr.growL s all bad by
            rw [← hE.out]
            rw [show Cr.growR bad c (n :: ol.drop (i + 1)) = if Cr.fitsB bad (Cr.withL c n) = true then Cr.growR bad (Cr.withL c n) (ol.drop (i + 1)) else Cr.growR bad c (ol.drop (i + 1)) from rfl]
            rw [if_neg (by rw [HQ.out]; simp)])
          have U6 := hid (show ∀ x ∈ c, x ∈ s ∨ x ∈ ol.take (i + 1) from fun x hx => by
            rw [HTA.out, List.mem_append]
            exact (hU.out x hx).imp id Or.inl)
          clear t6 f6 y0 y1 y2 HTK HFI
          go_wp2_with fail
          go_roundw
          case rel => exact ⟨i + 1, c, g, by go_num, by omega, by omega, E6, hC, hG, hN, hI, U6, P6, O6, hL, F6⟩
          case measure => simp [intOf]; omega
      · have hiz : ¬ (i : Int) < (ol.length : Int) := by omega
        obtain ⟨A9, cap9, rfl, j1, j2⟩ := hO.out.val
        have HSO := hid (sort_any hO.out (by omega))
        have HEC := hid (show c = Cr.growL s all bad by
          have e := hE.out
          rw [List.drop_of_length_le (by omega)] at e
          exact e)
        have HSC := hid (show (g.mergeSort fun x y => decide (x ≤ y)) = c from Cr.isSet.one (sort_rise hN.out) hC.out fun x => by rw [sort_mem]; exact hG.out x)
        have HBE := hid (show Below w.heap.size w wo from HW4.out.trans (hF.out.below HW4.out.size fun j hj => by have := HWS.out; have := HTM.out; have := HTB.out; omega))
        have HLT := hid hO.out.lt
        have HIC := hid (show ∀ z ∈ c, InZ z from fun z hz => hI.out z ((hG.out z).2 hz))
        clear hE hC hG hN hI hU hT hO hL hF
        go_wp2_with fail
        refine (HSO.out).mono ?_
        rintro e w7 ⟨rfl, g7, o7⟩
        rw [HSC.out] at o7
        have HE := hid (show GrowPost s all bad w (.returned (.tuple #[.slice A9 g.length cap9, .bool true])) w7 from
          ⟨_, by rw [HFB.out], HEC.out ▸ o7.rdz HIC.out, HBE.out.grown g7 HBE.out.size fun k hk => (HLT.out k hk).1⟩)
        clear g7 o7 HSO
        go_wp2_with fail
        go_ret2
        exact HE.out
end Go.Proofs.Ytnhjiappmblnmaa
