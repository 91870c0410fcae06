/-
  The walks of core's Least and Most. Conditions: sets of at most 1000 numbers, at most 1000 bad sets of at most 1000 numbers, each once.
-/
import Derived.Test.YtnhjiappmblnmaaCrE
namespace Go.Proofs.Ytnhjiappmblnmaa
open Go.RowKit Go.Sort
def LeastPost (s : List Int) (bad : List (List Int)) (w : World) (e : Ending) (w' : World) : Prop := e = .returned (.bool (Cr.leastB s bad)) ∧ Below w.heap.size w w'
def MostPost (s all : List Int) (bad : List (List Int)) (w : World) (e : Ending) (w' : World) : Prop := e = .returned (.bool (Cr.mostB s all bad)) ∧ Below w.heap.size w w'

set_option maxHeartbeats 8000000 in
set_option maxRecDepth 100000 in
theorem coreLeast_any (s : List Int) (bad : List (List Int)) (hs : Cr.isSet s) (hl : s.length ≤ 1000) (hb : Cr.Few bad) (v u : Value) (w : World) (hx : RdZ w w.heap.size v s) (hu : RdZZ w w.heap.size u bad) :
    Calls Try.prog 17 #[v, u] w (LeastPost s bad w) := by
  obtain ⟨i0, hi, hz0, hz1, hz2⟩ := info_parts info_int
  have HA := hid (set_any s hs hl v w hx)
  have HIN := hid hx.inZ
  have HS := hid hs
  have HBF := hid hb
  have HU := hid hu
  obtain ⟨A, cap, rfl, -⟩ := hx.val
  obtain ⟨A2, cap2, rfl, -⟩ := hu.val
  clear hx hu hs hb
  go_enter Try.func17, Try.ntmps17
  go_wp2_with fail
  refine (HA.out).mono ?_
  rintro e w1 ⟨v1, rfl, h1, b1⟩
  have HBG := hid (begin_any s bad HS.out.nodup hl HBF.out v1 _ w1 (h1.rdz HIN.out) (HU.out.to b1))
  have HB1 := hid b1
  obtain ⟨A1, cap1, rfl, g1, g2⟩ := h1.val
  unfold maxLen at g2
  have HO1 := hid h1
  clear h1 b1 HA
  go_wp2_with fail
  refine (HBG.out).mono ?_
  rintro e w2 ⟨fb, M1, rfl, t2, m2, b2⟩
  have HF := hid (fits_any (Stp.made t2 m2).tr)
  have HP := hid (Stp.made t2 m2)
  have HM2 := hid m2
  have HB2 := hid b2
  obtain ⟨b, hfb⟩ : ∃ b, Cr.fitsB bad s = b := ⟨_, rfl⟩
  have HFB := hid hfb
  rw [hfb] at HF
  have HB3 := hid (show Below w1.heap.size w1 (w2.alloc (.cells #[.func (.func 34) #[] #[.pointer (some ⟨fb, 0, none⟩)], .func (.func 35) #[] #[.pointer (some ⟨fb, 0, none⟩)], .func (.func 36) #[] #[.pointer (some ⟨w1.heap.size + 5, 0, none⟩)]] 39)) from b2.alloc b2.size _)
  have HZ3 := hid (show (w2.alloc (.cells #[.func (.func 34) #[] #[.pointer (some ⟨fb, 0, none⟩)], .func (.func 35) #[] #[.pointer (some ⟨fb, 0, none⟩)], .func (.func 36) #[] #[.pointer (some ⟨w1.heap.size + 5, 0, none⟩)]] 39)).heap.size = w2.heap.size + 1 by simp)
  clear t2 m2 b2 HBG hfb
  go_wp2_with fail
  refine (HF.out).mono ?_
  rintro e w3 ⟨rfl, rfl⟩
  obtain ⟨w3, hw3⟩ : ∃ w3, w2.alloc (.cells #[.func (.func 34) #[] #[.pointer (some ⟨fb, 0, none⟩)], .func (.func 35) #[] #[.pointer (some ⟨fb, 0, none⟩)], .func (.func 36) #[] #[.pointer (some ⟨w1.heap.size + 5, 0, none⟩)]] 39) = w3 := ⟨_, rfl⟩
  rw [hw3] at HP HB3 HZ3 ⊢
  obtain ⟨tb, htb⟩ : ∃ tb, w2.heap.size = tb := ⟨_, rfl⟩
  rw [htb] at HP HZ3 HM2 ⊢
  have HTB := hid (show w1.heap.size ≤ tb from htb ▸ HB2.out.size)
  clear hw3 HF htb HB2
  have HW3 := hid (HB1.out.trans (HB3.out.mono HB1.out.size))
  cases b with
  | true =>
    have HE := hid (show LeastPost s bad w (.returned (.bool false)) w3 from ⟨by unfold Cr.leastB; rw [HFB.out]; rfl, HW3.out⟩)
    go_wp2_with fail
    go_ret
    exact HE.out
  | false =>
    obtain ⟨s0, hs0⟩ : ∃ s0, w1.heap.size = s0 := ⟨_, rfl⟩
    rw [hs0] at HP HB3 HTB ⊢
    have HR := hid (show RdZ w3 s0 (.slice A1 s.length cap1) s from hs0 ▸ ((HO1.out.rdz HIN.out).below (by rw [hs0]; exact HB3.out)))
    have HWS := hid (show w.heap.size ≤ s0 from hs0 ▸ HB1.out.size)
    have HLO := hid HP.out.lo
    have HIZ := hid HIN.out
    clear hs0 HO1 HB1 HIN HU HB3
    go_wp2_with fail
    go_loopw [18] (fun v18 wr => ∃ i : Nat, v18 = .int .i64 i ∧ i ≤ s.length ∧ Hid (∀ n ∈ s.take i, Cr.fitsB bad (Cr.withoutL s n) = true) ∧ Hid (Stp wr s0 fb M1 tb bad s) ∧ Hid (Fr (fun i => s0 < i ∧ i < tb) w3 wr)) (fun v18 _ => s.length - (intOf v18).toNat)
    case atStart => exact ⟨0, rfl, by omega, hid (by simp), HP, hid (Fr.refl _ _)⟩
    case round =>
      obtain ⟨i, rfl, hi', hE, hT, hF⟩ := hrel
      obtain ⟨wo, hwo⟩ : ∃ wo : World, wo = wr := ⟨_, rfl⟩
      subst hwo
      by_cases hlt : i < s.length
      · have hiz : (i : Int) < (s.length : Int) := by omega
        obtain ⟨b1, o1, rfl, -, c1⟩ := (HR.out.fr hF.out fun j hj => by omega).atv (Below.refl _ _) hlt
        have hmem := List.getElem_mem hlt
        have hz := HIZ.out s[i] hmem
        have htk : s.take (i + 1) = s.take i ++ [s[i]] := List.take_succ_eq_append_getElem hlt
        obtain ⟨n, hn⟩ : ∃ n, s[i] = n := ⟨_, rfl⟩
        rw [hn] at c1 hz htk hmem
        obtain ⟨x0, x1, x2⟩ := hT.out.cells
        have HTK := hid (take_any hT.out.tr HBF.out n hz hmem)
        have HTA := hid htk
        have HZN := hid hz
        have HMEM := hid hmem
        clear hn htk hz hmem
        go_wp2_with fail
        refine (HTK.out).mono ?_
        rintro e w4 ⟨rfl, t4, f4⟩
        have P4 := hid (hT.out.moved t4 f4)
        have F4 := hid (hF.out.trans (f4.mono fun j _ hj => (by have := HP.out.hi; have := HLO.out; omega)))
        have HFI := hid (fits_any t4)
        obtain ⟨q, hq⟩ : ∃ q, Cr.fitsB bad (Cr.withoutL s n) = q := ⟨_, rfl⟩
        have HQ := hid hq
        rw [hq] at HFI
        obtain ⟨y0, y1, y2⟩ := P4.out.cells
        clear t4 f4 x0 x1 x2 hT hF hq HTK
        go_wp2_with fail
        refine (HFI.out).mono ?_
        rintro e w5 ⟨rfl, rfl⟩
        cases q with
        | true =>
          have HPU := hid (put_any P4.out.tr HBF.out n HZN.out (fun h => ((Cr.mem_without _ _ _).1 h).2 rfl))
          go_wp2_with fail
          refine (HPU.out).mono ?_
          rintro e w6 ⟨rfl, t6, f6⟩
          have P6 := hid ((P4.out.moved t6 f6).congr (T := s) fun x => by
            rw [List.mem_cons, Cr.mem_without]
            constructor
            · rintro (h | h)
              · rw [h]; exact HMEM.out
              · exact h.1
            · intro h
              by_cases e : x = n
              · exact Or.inl e
              · exact Or.inr ⟨h, e⟩)
          have F6 := hid (F4.out.trans (f6.mono fun j _ hj => (by have := HP.out.hi; have := HLO.out; omega)))
          have E6 := hid (show ∀ m ∈ s.take (i + 1), Cr.fitsB bad (Cr.withoutL s m) = true from fun m hm => by
            rw [HTA.out, List.mem_append, List.mem_singleton] at hm
            rcases hm with h | h
            · exact hE.out m h
            · rw [h]; exact HQ.out)
          clear t6 f6 y0 y1 y2 HPU P4 F4 HFI hE
          go_wp2_with fail
          go_roundw
          case rel => exact ⟨i + 1, by go_num, by omega, E6, P6, F6⟩
          case measure => simp [intOf]; omega
        | false =>
          have HE := hid (show LeastPost s bad w (.returned (.bool false)) w4 from ⟨by
            have : Cr.leastB s bad = false := by
              unfold Cr.leastB
              rw [Bool.and_eq_false_iff]
              refine Or.inr ?_
              rw [Bool.eq_false_iff]
              intro h
              have := List.all_eq_true.1 h n HMEM.out
              rw [HQ.out] at this
              cases this
            rw [this], HW3.out.trans (F4.out.below HW3.out.size fun j hj => by have := HWS.out; omega)⟩)
          clear y0 y1 y2 hE
          go_wp2_with fail
          go_ret
          exact HE.out
      · have hiz : ¬ (i : Int) < (s.length : Int) := by omega
        have HE := hid (show LeastPost s bad w (.returned (.bool true)) wo from ⟨by
          have e := hE.out
          rw [List.take_of_length_le (by omega)] at e
          have : Cr.leastB s bad = true := by
            unfold Cr.leastB
            rw [HFB.out, Bool.and_eq_true, List.all_eq_true]
            exact ⟨rfl, e⟩
          rw [this], HW3.out.trans (hF.out.below HW3.out.size fun j hj => by have := HWS.out; omega)⟩)
        clear hE hT hF
        go_wp2_with fail
        go_ret
        exact HE.out

set_option maxHeartbeats 8000000 in
set_option maxRecDepth 100000 in
theorem coreMost_any (s all : List Int) (bad : List (List Int)) (hs : Cr.isSet s) (hl : s.length ≤ 1000) (ha : Cr.isSet all) (hal : all.length ≤ 1000) (hb : Cr.Few bad) (v z u : Value) (w : World) (hx : RdZ w w.heap.size v s) (hy : RdZ w w.heap.size z all) (hu : RdZZ w w.heap.size u bad) :
    Calls Try.prog 19 #[v, z, u] w (MostPost s all bad w) := by
  obtain ⟨i0, hi, hz0, hz1, hz2⟩ := info_parts info_int
  have HA := hid (set_any s hs hl v w hx)
  have HIN := hid hx.inZ
  have HS := hid hs
  have HBF := hid hb
  have HU := hid hu
  have HY := hid hy
  have HA2 := hid ha
  obtain ⟨A3, cap3, rfl, -⟩ := hy.val
  clear hy ha
  obtain ⟨A, cap, rfl, -⟩ := hx.val
  obtain ⟨A2, cap2, rfl, -⟩ := hu.val
  clear hx hu hs hb
  go_enter Try.func19, Try.ntmps19
  go_wp2_with fail
  refine (HA.out).mono ?_
  rintro e w1 ⟨v1, rfl, h1, b1⟩
  have HBG := hid (begin_any s bad HS.out.nodup hl HBF.out v1 _ w1 (h1.rdz HIN.out) (HU.out.to b1))
  have HB1 := hid b1
  obtain ⟨A1, cap1, rfl, g1, g2⟩ := h1.val
  unfold maxLen at g2
  have HO1 := hid h1
  clear h1 b1 HA
  go_wp2_with fail
  refine (HBG.out).mono ?_
  rintro e w2 ⟨fb, M1, rfl, t2, m2, b2⟩
  have HF := hid (fits_any (Stp.made t2 m2).tr)
  have HP := hid (Stp.made t2 m2)
  have HM2 := hid m2
  have HB2 := hid b2
  obtain ⟨b, hfb⟩ : ∃ b, Cr.fitsB bad s = b := ⟨_, rfl⟩
  have HFB := hid hfb
  rw [hfb] at HF
  have HB3 := hid (show Below w1.heap.size w1 (w2.alloc (.cells #[.func (.func 34) #[] #[.pointer (some ⟨fb, 0, none⟩)], .func (.func 35) #[] #[.pointer (some ⟨fb, 0, none⟩)], .func (.func 36) #[] #[.pointer (some ⟨w1.heap.size + 5, 0, none⟩)]] 39)) from b2.alloc b2.size _)
  have HZ3 := hid (show (w2.alloc (.cells #[.func (.func 34) #[] #[.pointer (some ⟨fb, 0, none⟩)], .func (.func 35) #[] #[.pointer (some ⟨fb, 0, none⟩)], .func (.func 36) #[] #[.pointer (some ⟨w1.heap.size + 5, 0, none⟩)]] 39)).heap.size = w2.heap.size + 1 by simp)
  clear t2 m2 b2 HBG hfb
  go_wp2_with fail
  refine (HF.out).mono ?_
  rintro e w3 ⟨rfl, rfl⟩
  obtain ⟨w3, hw3⟩ : ∃ w3, w2.alloc (.cells #[.func (.func 34) #[] #[.pointer (some ⟨fb, 0, none⟩)], .func (.func 35) #[] #[.pointer (some ⟨fb, 0, none⟩)], .func (.func 36) #[] #[.pointer (some ⟨w1.heap.size + 5, 0, none⟩)]] 39) = w3 := ⟨_, rfl⟩
  rw [hw3] at HP HB3 HZ3 ⊢
  obtain ⟨tb, htb⟩ : ∃ tb, w2.heap.size = tb := ⟨_, rfl⟩
  rw [htb] at HP HZ3 HM2 ⊢
  have HTB := hid (show w1.heap.size ≤ tb from htb ▸ HB2.out.size)
  clear hw3 HF htb HB2
  have HW3 := hid (HB1.out.trans (HB3.out.mono HB1.out.size))
  cases b with
  | false =>
    have HE := hid (show MostPost s all bad w (.returned (.bool false)) w3 from ⟨by unfold Cr.mostB; rw [HFB.out]; rfl, HW3.out⟩)
    go_wp2_with fail
    go_ret
    exact HE.out
  | true =>
    obtain ⟨s0, hs0⟩ : ∃ s0, w1.heap.size = s0 := ⟨_, rfl⟩
    rw [hs0] at HP HB3 HTB ⊢
    have HR := hid (show RdZ w3 s0 (.slice A1 s.length cap1) s from hs0 ▸ ((HO1.out.rdz HIN.out).below (by rw [hs0]; exact HB3.out)))
    have HOT := hid (others_any s all HS.out HA2.out hl hal (.slice A1 s.length cap1) _ w3 (HR.out.mono (by have := HB3.out.size; have := HTB.out; have := HZ3.out; omega)) (HY.out.to HW3.out))
    have HWS := hid (show w.heap.size ≤ s0 from hs0 ▸ HB1.out.size)
    have HLO := hid HP.out.lo
    have HIY := hid (show ∀ z ∈ lackL s all, InZ z from fun z hz => HY.out.inZ z (List.mem_filter.1 hz).1)
    have HOL := hid (lackL_set (s := s) HA2.out)
    have HON := hid (show ∀ z ∈ lackL s all, z ∉ s from fun z hz h => by have := (List.mem_filter.1 hz).2; simp [h] at this)
    have hol := lackL_len s all
    have HO3 := hid (show OwnZ w.heap.size (.slice A1 s.length cap1) s w3 from HO1.out.below (by rw [hs0]; exact HB3.out))
    have HOB := hid (show ∀ g, (Value.slice A1 s.length cap1).ownBlock = some g → g < s0 from fun g hg => hs0 ▸ (HO1.out.lt g hg).2)
    clear hs0 HO1 HB1 HU HB3 HY HA2 HR
    go_wp2_with fail
    refine (HOT.out).mono ?_
    rintro e w4 ⟨v4, rfl, h4, b4⟩
    obtain ⟨ol, hob⟩ : ∃ ol, lackL s all = ol := ⟨_, rfl⟩
    have HLK := hid hob
    rw [hob] at h4 HIY HOL HON hol
    have HP4 := hid (HP.out.fr (Fr.of_below (P := fun i => w3.heap.size ≤ i) b4 fun i hi => hi) fun i hi => Or.inr (by have := HZ3.out; omega))
    have HW4 := hid (HW3.out.trans (b4.mono HW3.out.size))
    have HO4 := hid (HO3.out.below b4)
    have HZ4 := hid b4.size
    obtain ⟨A4, cap4, rfl, k1, k2⟩ := h4.val
    unfold maxLen at k2
    have HV4 := hid h4
    clear h4 b4 hob HOT HO3 HP
    clear HO4 HOB
    go_wp2_with fail
    go_loopw [23] (fun v23 wr => ∃ i : Nat, v23 = .int .i64 i ∧ i ≤ ol.length ∧ Hid (∀ n ∈ ol.take i, Cr.fitsB bad (Cr.withL s n) = false) ∧ Hid (Stp wr s0 fb M1 tb bad s) ∧ Hid (Fr (fun i => s0 < i ∧ i < tb) w4 wr)) (fun v23 _ => ol.length - (intOf v23).toNat)
    case atStart => exact ⟨0, rfl, by omega, hid (by simp), HP4, hid (Fr.refl _ _)⟩
    case round =>
      obtain ⟨i, rfl, hi', hE, hT, hF⟩ := hrel
      obtain ⟨wo, hwo⟩ : ∃ wo : World, wo = wr := ⟨_, rfl⟩
      subst hwo
      by_cases hlt : i < ol.length
      · have hiz : (i : Int) < (ol.length : Int) := by omega
        obtain ⟨b1, o1, rfl, -, c1⟩ := ((HV4.out.fr hF.out fun g hg e => by have := (HV4.out.lt g hg).1; have := HZ3.out; omega).rdz HIY.out).atv (Below.refl _ _) hlt
        have hmem := List.getElem_mem hlt
        have hz := HIY.out ol[i] hmem
        have hns := HON.out ol[i] hmem
        have htk : ol.take (i + 1) = ol.take i ++ [ol[i]] := List.take_succ_eq_append_getElem hlt
        obtain ⟨n, hn⟩ : ∃ n, ol[i] = n := ⟨_, rfl⟩
        rw [hn] at c1 hz htk hmem hns
        obtain ⟨x0, x1, x2⟩ := hT.out.cells
        have HPU := hid (put_any hT.out.tr HBF.out n hz hns)
        have HTA := hid htk
        have HZN := hid hz
        have HMEM := hid hmem
        have HNS := hid hns
        clear hn htk hz hmem hns
        go_wp2_with fail
        refine (HPU.out).mono ?_
        rintro e w5 ⟨rfl, t5, f5⟩
        have P5 := hid (hT.out.moved t5 f5)
        have F5 := hid (hF.out.trans (f5.mono fun j _ hj => (by have := HP4.out.hi; have := HLO.out; omega)))
        have HFI := hid (fits_any t5)
        obtain ⟨q, hq⟩ : ∃ q, Cr.fitsB bad (n :: s) = q := ⟨_, rfl⟩
        have HQ := hid (show Cr.fitsB bad (Cr.withL s n) = q by
          rw [← hq]
          exact Cr.fitsB_congr fun x => by rw [Cr.mem_with, List.mem_cons])
        rw [hq] at HFI
        obtain ⟨y0, y1, y2⟩ := P5.out.cells
        clear t5 f5 x0 x1 x2 hT hF hq HPU
        go_wp2_with fail
        refine (HFI.out).mono ?_
        rintro e w6 ⟨rfl, rfl⟩
        cases q with
        | false =>
          have HTK := hid (take_any P5.out.tr HBF.out n HZN.out (by simp))
          go_wp2_with fail
          refine (HTK.out).mono ?_
          rintro e w6 ⟨rfl, t6, f6⟩
          have P6 := hid ((P5.out.moved t6 f6).congr (T := s) fun x => by
            rw [Cr.mem_without, List.mem_cons]
            constructor
            · rintro ⟨h | h, g⟩
              · exact absurd h g
              · exact h
            · intro h
              exact ⟨Or.inr h, fun e => HNS.out (e ▸ h)⟩)
          have F6 := hid (F5.out.trans (f6.mono fun j _ hj => (by have := HP4.out.hi; have := HLO.out; omega)))
          have E6 := hid (show ∀ m ∈ ol.take (i + 1), Cr.fitsB bad (Cr.withL s m) = false from fun m hm => by
            rw [HTA.out, List.mem_append, List.mem_singleton] at hm
            rcases hm with h | h
            · exact hE.out m h
            · rw [h]; exact HQ.out)
          clear t6 f6 y0 y1 y2 HTK P5 F5 HFI hE
          go_wp2_with fail
          go_roundw
          case rel => exact ⟨i + 1, by go_num, by omega, E6, P6, F6⟩
          case measure => simp [intOf]; omega
        | true =>
          have HE := hid (show MostPost s all bad w (.returned (.bool false)) w5 from ⟨by
            have : Cr.mostB s all bad = false := by
              rw [Cr.mostB_lack, HLK.out, Bool.and_eq_false_iff]
              refine Or.inr ?_
              rw [Bool.eq_false_iff]
              intro h
              have := List.all_eq_true.1 h n HMEM.out
              rw [HQ.out] at this
              cases this
            rw [this], HW4.out.trans (F5.out.below HW4.out.size fun j hj => by have := HWS.out; omega)⟩)
          clear y0 y1 y2 hE
          go_wp2_with fail
          go_ret
          exact HE.out
      · have hiz : ¬ (i : Int) < (ol.length : Int) := by omega
        have HE := hid (show MostPost s all bad w (.returned (.bool true)) wo from ⟨by
          have e := hE.out
          rw [List.take_of_length_le (by omega)] at e
          have : Cr.mostB s all bad = true := by
            rw [Cr.mostB_lack, HLK.out, HFB.out, Bool.and_eq_true, List.all_eq_true]
            exact ⟨rfl, fun x hx => by rw [e x hx]; rfl⟩
          rw [this], HW4.out.trans (hF.out.below HW4.out.size fun j hj => by have := HWS.out; omega)⟩)
        clear hE hT hF
        go_wp2_with fail
        go_ret
        exact HE.out
end Go.Proofs.Ytnhjiappmblnmaa
