/-
  The walks of the reference's Shrink, Grow, Least, Most. Conditions: sets of at most 1000 numbers in all.
-/
import Derived.Test.YtnhjiappmblnmaaCrS
import Derived.Test.YtnhjiappmblnmaaCrG
import Derived.Test.YtnhjiappmblnmaaCrH
namespace Go.Proofs.Ytnhjiappmblnmaa
open Go.RowKit

set_option maxHeartbeats 4000000 in
set_option maxRecDepth 100000 in
theorem rshrink_any (s : List Int) (bad : List (List Int)) (hs : Cr.isSet s) (hl : s.length ≤ 1000) (v u : Value) (w : World) (hx : RdZ w w.heap.size v s) (hu : RdZZ w w.heap.size u bad) :
    Calls Try.prog 11 #[v, u] w (ShrinkPost s bad w) := by
  have HX := hid hx
  have HU := hid hu
  have HS := hid hs
  have HF0 := hid (rfits_any bad s u v w hu hx)
  obtain ⟨A, cap, rfl, h1, h2⟩ := hx.val
  obtain ⟨A2, cap2, rfl, -⟩ := hu.val
  obtain ⟨b, hfb⟩ : ∃ b, Cr.fitsB bad s = b := ⟨_, rfl⟩
  rw [hfb] at HF0
  have HFB := hid hfb
  clear hx hu hs hfb
  go_enter Try.func11, Try.ntmps11
  go_wp2_with fail
  refine (HF0.out).mono ?_
  rintro e w1 ⟨rfl, rfl⟩
  cases b with
  | true =>
    have HE := hid (show ShrinkPost s bad w (.returned (.tuple #[.slice none 0 0, .bool false])) w from ⟨_, by rw [HFB.out]; rfl, by rw [Cr.shrinkL_no HFB.out]; exact RdZ.nil _ _, Below.refl _ _⟩)
    go_wp2_with fail
    go_ret2
    exact HE.out
  | false =>
    go_wp2_with fail
    go_loopw [6, 7] (fun v6 v7 wr => ∃ (i : Nat) (l : List Int), v7 = .int .i64 i ∧ i ≤ s.length ∧ l.length ≤ i ∧ Hid (Cr.shrR bad l (s.drop i) = Cr.shrinkL s bad) ∧ Hid (l ++ s.drop i).Nodup ∧ Hid (RdZ wr wr.heap.size v6 (l ++ s.drop i)) ∧ Hid (Below w.heap.size w wr)) (fun _ v7 _ => s.length - (intOf v7).toNat)
    case atStart => exact ⟨0, [], rfl, by omega, by simp, hid (by rw [Cr.shrinkL_yes HFB.out]; rfl), hid (by simpa using HS.out.nodup), hid (by simpa using HX.out), hid (Below.refl _ _)⟩
    case round =>
      obtain ⟨i, l, rfl, hi', hll, hE, hN, hO, hB⟩ := hrel
      obtain ⟨wo, hwo⟩ : ∃ wo : World, wo = wr := ⟨_, rfl⟩
      subst hwo
      have hsz := hB.out.size
      by_cases hlt : i < s.length
      · have hiz : (i : Int) < (s.length : Int) := by omega
        obtain ⟨b1, o1, rfl, -, c1⟩ := HX.out.atv hB.out hlt
        have hdl : (l ++ s.drop i).length ≤ 1000 := by simp; omega
        have hdr : s.drop i = s[i] :: s.drop (i + 1) := List.drop_eq_getElem_cons hlt
        rw [hdr] at hE hN hO hdl
        obtain ⟨n, hn⟩ : ∃ n, s[i] = n := ⟨_, rfl⟩
        rw [hn] at c1 hE hN hO hdl
        obtain ⟨r, hr⟩ : ∃ r, s.drop (i + 1) = r := ⟨_, rfl⟩
        rw [hr] at hE hN hO hdl
        have HRR := hid hr
        obtain ⟨d, hd⟩ : ∃ d, l ++ n :: r = d := ⟨_, rfl⟩
        obtain ⟨f, hf⟩ : ∃ f, l ++ r = f := ⟨_, rfl⟩
        have hwd : Cr.withoutL d n = f := by rw [← hd, Cr.without_mid hN.out, hf]
        have HD := hid hd
        have HF := hid hf
        rw [hd] at hO hdl
        have HW := hid (without_any d hdl n _ wo hO.out)
        rw [hwd] at HW
        have HIN := hid (show ∀ z ∈ f, InZ z from fun z hz => hO.out.inZ z (by
          rw [← hd]
          rw [← hf] at hz
          rcases List.mem_append.1 hz with h | h
          · exact List.mem_append.2 (Or.inl h)
          · exact List.mem_append.2 (Or.inr (List.mem_cons_of_mem _ h))))
        obtain ⟨A6, c6, rfl, -⟩ := hO.out.val
        clear hn hr hdr hdl hd hf hwd
        go_wp2_with fail
        refine (HW.out).mono ?_
        rintro e w4 ⟨v4, rfl, o4, b4⟩
        have R4 := hid (o4.rdz HIN.out)
        have B4 := hid (hB.out.trans (b4.mono hsz))
        have O6 := hid (hO.out.to b4)
        have HFI := hid (rfits_any bad f _ _ w4 (HU.out.to B4.out) R4.out)
        obtain ⟨q, hq⟩ : ∃ q, Cr.fitsB bad f = q := ⟨_, rfl⟩
        have HQ := hid (show Cr.fitsB bad (l ++ r) = q by rw [HF.out]; exact hq)
        rw [hq] at HFI
        obtain ⟨A4, c4, rfl, -⟩ := o4.val
        clear o4 b4 hq HW hO hB
        go_wp2_with fail
        refine (HFI.out).mono ?_
        rintro e w5 ⟨rfl, rfl⟩
        cases q with
        | true =>
          have E7 := hid (show Cr.shrR bad (l ++ [n]) (s.drop (i + 1)) = Cr.shrinkL s bad by
            rw [← hE.out, HRR.out, Cr.shrR, if_pos HQ.out])
          have N7 := hid (show ((l ++ [n]) ++ s.drop (i + 1)).Nodup by rw [HRR.out]; simpa using hN.out)
          have O7 := hid (show RdZ w4 w4.heap.size (.slice A6 d.length c6) ((l ++ [n]) ++ s.drop (i + 1)) by
            have e : (l ++ [n]) ++ s.drop (i + 1) = d := by rw [HRR.out, List.append_assoc, ← HD.out]; rfl
            rw [e]; exact O6.out)
          have hl7 : (l ++ [n]).length ≤ i + 1 := by simp; omega
          clear hE hN
          go_wp2_with fail
          go_roundw
          case rel => exact ⟨i + 1, l ++ [n], by go_num, by omega, hl7, E7, N7, O7, B4⟩
          case measure => simp [intOf]; omega
        | false =>
          have E7 := hid (show Cr.shrR bad l (s.drop (i + 1)) = Cr.shrinkL s bad by
            rw [← hE.out, HRR.out, Cr.shrR, if_neg (by rw [HQ.out]; simp)])
          have N7 := hid (show (l ++ s.drop (i + 1)).Nodup by
            rw [HRR.out]
            exact hN.out.sublist (List.Sublist.append (List.Sublist.refl l) (List.sublist_cons_self n r)))
          have O7 := hid (show RdZ w4 w4.heap.size (.slice A4 f.length c4) (l ++ s.drop (i + 1)) by rw [HRR.out, HF.out]; exact R4.out)
          clear hE hN
          go_wp2_with fail
          go_roundw
          case rel => exact ⟨i + 1, l, by go_num, by omega, by omega, E7, N7, O7, B4⟩
          case measure => simp [intOf]; omega
      · have hiz : ¬ (i : Int) < (s.length : Int) := by omega
        have HE := hid (show ShrinkPost s bad w (.returned (.tuple #[u6, .bool true])) wo from by
          have e := hE.out
          have o := hO.out
          rw [List.drop_of_length_le (by omega)] at e o
          rw [Cr.shrR] at e
          rw [List.append_nil] at o
          exact ⟨_, by rw [HFB.out]; rfl, e ▸ o, hB.out⟩)
        clear hE hN hO hB
        go_wp2_with fail
        go_ret2
        exact HE.out

set_option maxHeartbeats 4000000 in
set_option maxRecDepth 100000 in
theorem rgrow_any (s all : List Int) (bad : List (List Int)) (hl : s.length + all.length ≤ 1000) (v z u : Value) (w : World) (hx : RdZ w w.heap.size v s) (hy : RdZ w w.heap.size z all) (hu : RdZZ w w.heap.size u bad) :
    Calls Try.prog 13 #[v, z, u] w (GrowPost s all bad w) := by
  have HX := hid hx
  have HY := hid hy
  have HU := hid hu
  have HF0 := hid (rfits_any bad s u v w hu hx)
  obtain ⟨A, cap, rfl, h1, h2⟩ := hx.val
  obtain ⟨A2, cap2, rfl, -⟩ := hu.val
  obtain ⟨A3, cap3, rfl, -⟩ := hy.val
  obtain ⟨b, hfb⟩ : ∃ b, Cr.fitsB bad s = b := ⟨_, rfl⟩
  rw [hfb] at HF0
  have HFB := hid hfb
  clear hx hu hy hfb
  go_enter Try.func13, Try.ntmps13
  go_wp2_with fail
  refine (HF0.out).mono ?_
  rintro e w1 ⟨rfl, rfl⟩
  cases b with
  | false =>
    have HE := hid (show GrowPost s all bad w (.returned (.tuple #[.slice none 0 0, .bool false])) w from ⟨_, by rw [HFB.out], by rw [Cr.growL_no HFB.out]; exact RdZ.nil _ _, Below.refl _ _⟩)
    go_wp2_with fail
    go_ret2
    exact HE.out
  | true =>
    go_wp2_with fail
    go_loopw [8, 9] (fun v8 v9 wr => ∃ (i : Nat) (c : List Int), v9 = .int .i64 i ∧ i ≤ all.length ∧ c.length ≤ s.length + i ∧ Hid (Cr.growR bad c (all.drop i) = Cr.growL s all bad) ∧ Hid (RdZ wr wr.heap.size v8 c) ∧ Hid (Below w.heap.size w wr)) (fun _ v9 _ => all.length - (intOf v9).toNat)
    case atStart => exact ⟨0, s, rfl, by omega, by omega, hid (by rw [Cr.growL_yes HFB.out]; rfl), HX, hid (Below.refl _ _)⟩
    case round =>
      obtain ⟨i, c, rfl, hi', hll, hE, hO, hB⟩ := hrel
      obtain ⟨wo, hwo⟩ : ∃ wo : World, wo = wr := ⟨_, rfl⟩
      subst hwo
      have hsz := hB.out.size
      by_cases hlt : i < all.length
      · have hiz : (i : Int) < (all.length : Int) := by omega
        obtain ⟨b1, o1, rfl, -, c1⟩ := HY.out.atv hB.out hlt
        have hz := HY.out.inZ all[i] (List.getElem_mem hlt)
        have hdr : all.drop i = all[i] :: all.drop (i + 1) := List.drop_eq_getElem_cons hlt
        rw [hdr] at hE
        obtain ⟨n, hn⟩ : ∃ n, all[i] = n := ⟨_, rfl⟩
        rw [hn] at c1 hE hz
        have HZN := hid hz
        have HW := hid (with_any c (by omega) n _ wo hO.out)
        have HIN := hid hO.out.inZ
        obtain ⟨A6, c6, rfl, -⟩ := hO.out.val
        have hwl := Cr.with_len c n
        have hwl2 : (Cr.withL c n).length ≤ s.length + (i + 1) := by
          rw [hwl]
          split <;> omega
        clear hn hdr hz hwl
        go_wp2_with fail
        refine (HW.out).mono ?_
        rintro e w4 ⟨v4, rfl, o4, b4⟩
        have R4 := hid (o4.rdz (InZ.with HIN.out HZN.out))
        have B4 := hid (hB.out.trans (b4.mono hsz))
        have O6 := hid (hO.out.to b4)
        have HFI := hid (rfits_any bad (Cr.withL c n) _ _ w4 (HU.out.to B4.out) R4.out)
        obtain ⟨q, hq⟩ : ∃ q, Cr.fitsB bad (Cr.withL c n) = q := ⟨_, rfl⟩
        have HQ := hid hq
        rw [hq] at HFI
        obtain ⟨m, hm⟩ : ∃ m, Cr.withL c n = m := ⟨_, rfl⟩
        have HM := hid hm
        rw [hm] at R4 o4 hwl2 HQ
        obtain ⟨A4, c4, rfl, -⟩ := o4.val
        have HE2 := hid (show Cr.growR bad c (n :: all.drop (i + 1)) = if Cr.fitsB bad m = true then Cr.growR bad m (all.drop (i + 1)) else Cr.growR bad c (all.drop (i + 1)) by rw [← hm]; rfl)
        clear o4 b4 hq HW hO hB hm
        go_wp2_with fail
        refine (HFI.out).mono ?_
        rintro e w5 ⟨rfl, rfl⟩
        cases q with
        | true =>
          have E7 := hid (show Cr.growR bad m (all.drop (i + 1)) = Cr.growL s all bad by
            rw [← hE.out, HE2.out, if_pos HQ.out])
          clear hE
          go_wp2_with fail
          go_roundw
          case rel => exact ⟨i + 1, m, by go_num, by omega, hwl2, E7, R4, B4⟩
          case measure => simp [intOf]; omega
        | false =>
          have E7 := hid (show Cr.growR bad c (all.drop (i + 1)) = Cr.growL s all bad by
            rw [← hE.out, HE2.out, if_neg (by rw [HQ.out]; simp)])
          clear hE
          go_wp2_with fail
          go_roundw
          case rel => exact ⟨i + 1, c, by go_num, by omega, by omega, E7, O6, B4⟩
          case measure => simp [intOf]; omega
      · have hiz : ¬ (i : Int) < (all.length : Int) := by omega
        have HE := hid (show GrowPost s all bad w (.returned (.tuple #[u8, .bool true])) wo from by
          have e := hE.out
          rw [List.drop_of_length_le (by omega), Cr.growR] at e
          exact ⟨_, by rw [HFB.out], e ▸ hO.out, hB.out⟩)
        clear hE hO hB
        go_wp2_with fail
        go_ret2
        exact HE.out

set_option maxHeartbeats 4000000 in
set_option maxRecDepth 100000 in
theorem rleast_any (s : List Int) (bad : List (List Int)) (hl : s.length ≤ 1000) (v u : Value) (w : World) (hx : RdZ w w.heap.size v s) (hu : RdZZ w w.heap.size u bad) :
    Calls Try.prog 18 #[v, u] w (LeastPost s bad w) := by
  have HX := hid hx
  have HU := hid hu
  have HF0 := hid (rfits_any bad s u v w hu hx)
  obtain ⟨A, cap, rfl, h1, h2⟩ := hx.val
  obtain ⟨A2, cap2, rfl, -⟩ := hu.val
  obtain ⟨b, hfb⟩ : ∃ b, Cr.fitsB bad s = b := ⟨_, rfl⟩
  rw [hfb] at HF0
  have HFB := hid hfb
  clear hx hu hfb
  go_enter Try.func18, Try.ntmps18
  go_wp2_with fail
  refine (HF0.out).mono ?_
  rintro e w1 ⟨rfl, rfl⟩
  cases b with
  | true =>
    have HE := hid (show LeastPost s bad w (.returned (.bool false)) w from ⟨by unfold Cr.leastB; rw [HFB.out]; rfl, Below.refl _ _⟩)
    go_wp2_with fail
    go_ret
    exact HE.out
  | false =>
    go_wp2_with fail
    go_loopw [5] (fun v5 wr => ∃ i : Nat, v5 = .int .i64 i ∧ i ≤ s.length ∧ Hid (∀ n ∈ s.take i, Cr.fitsB bad (Cr.withoutL s n) = true) ∧ Hid (Below w.heap.size w wr)) (fun v5 _ => s.length - (intOf v5).toNat)
    case atStart => exact ⟨0, rfl, by omega, hid (by simp), hid (Below.refl _ _)⟩
    case round =>
      obtain ⟨i, rfl, hi', hE, hB⟩ := hrel
      obtain ⟨wo, hwo⟩ : ∃ wo : World, wo = wr := ⟨_, rfl⟩
      subst hwo
      have hsz := hB.out.size
      by_cases hlt : i < s.length
      · have hiz : (i : Int) < (s.length : Int) := by omega
        obtain ⟨b1, o1, rfl, -, c1⟩ := HX.out.atv hB.out hlt
        have hmem := List.getElem_mem hlt
        have htk : s.take (i + 1) = s.take i ++ [s[i]] := List.take_succ_eq_append_getElem hlt
        obtain ⟨n, hn⟩ : ∃ n, s[i] = n := ⟨_, rfl⟩
        rw [hn] at c1 htk hmem
        have HTA := hid htk
        have HMEM := hid hmem
        have HW := hid (without_any s hl n _ wo (HX.out.to hB.out))
        clear hn htk hmem
        go_wp2_with fail
        refine (HW.out).mono ?_
        rintro e w4 ⟨v4, rfl, o4, b4⟩
        have B4 := hid (hB.out.trans (b4.mono hsz))
        have HFI := hid (rfits_any bad (Cr.withoutL s n) _ _ w4 (HU.out.to B4.out) (o4.rdz (InZ.without HX.out.inZ n)))
        obtain ⟨q, hq⟩ : ∃ q, Cr.fitsB bad (Cr.withoutL s n) = q := ⟨_, rfl⟩
        have HQ := hid hq
        rw [hq] at HFI
        obtain ⟨A4, c4, rfl, -⟩ := o4.val
        clear o4 b4 hq HW hB
        go_wp2_with fail
        refine (HFI.out).mono ?_
        rintro e w5 ⟨rfl, rfl⟩
        cases q with
        | true =>
          have E6 := hid (show ∀ m ∈ s.take (i + 1), Cr.fitsB bad (Cr.withoutL s m) = true from fun m hm => by
            rw [HTA.out, List.mem_append, List.mem_singleton] at hm
            rcases hm with h | h
            · exact hE.out m h
            · rw [h]; exact HQ.out)
          clear hE
          go_wp2_with fail
          go_roundw
          case rel => exact ⟨i + 1, by go_num, by omega, E6, B4⟩
          case measure => simp [intOf]; omega
        | false =>
          have HE := hid (show LeastPost s bad w (.returned (.bool false)) w4 from ⟨by
            have : Cr.leastB s bad = false := by
              unfold Cr.leastB
              rw [Bool.and_eq_false_iff]
              refine Or.inr ?_
              rw [Bool.eq_false_iff]
              intro h
              have := List.all_eq_true.1 h n HMEM.out
              rw [HQ.out] at this
              cases this
            rw [this], B4.out⟩)
          clear hE
          go_wp2_with fail
          go_ret
          exact HE.out
      · have hiz : ¬ (i : Int) < (s.length : Int) := by omega
        have HE := hid (show LeastPost s bad w (.returned (.bool true)) wo from ⟨by
          have e := hE.out
          rw [List.take_of_length_le (by omega)] at e
          have : Cr.leastB s bad = true := by
            unfold Cr.leastB
            rw [HFB.out, Bool.and_eq_true, List.all_eq_true]
            exact ⟨rfl, e⟩
          rw [this], hB.out⟩)
        clear hE hB
        go_wp2_with fail
        go_ret
        exact HE.out

set_option maxHeartbeats 4000000 in
set_option maxRecDepth 100000 in
theorem rmost_any (s all : List Int) (bad : List (List Int)) (hl : s.length ≤ 1000) (v z u : Value) (w : World) (hx : RdZ w w.heap.size v s) (hy : RdZ w w.heap.size z all) (hu : RdZZ w w.heap.size u bad) :
    Calls Try.prog 20 #[v, z, u] w (MostPost s all bad w) := by
  have HX := hid hx
  have HY := hid hy
  have HU := hid hu
  have HF0 := hid (rfits_any bad s u v w hu hx)
  obtain ⟨A, cap, rfl, h1, h2⟩ := hx.val
  obtain ⟨A2, cap2, rfl, -⟩ := hu.val
  obtain ⟨A3, cap3, rfl, k1, k2⟩ := hy.val
  unfold maxLen at k2
  obtain ⟨b, hfb⟩ : ∃ b, Cr.fitsB bad s = b := ⟨_, rfl⟩
  rw [hfb] at HF0
  have HFB := hid hfb
  clear hx hu hy hfb
  go_enter Try.func20, Try.ntmps20
  go_wp2_with fail
  refine (HF0.out).mono ?_
  rintro e w1 ⟨rfl, rfl⟩
  cases b with
  | false =>
    have HE := hid (show MostPost s all bad w (.returned (.bool false)) w from ⟨by unfold Cr.mostB; rw [HFB.out]; rfl, Below.refl _ _⟩)
    go_wp2_with fail
    go_ret
    exact HE.out
  | true =>
    go_wp2_with fail
    go_loopw [7] (fun v7 wr => ∃ i : Nat, v7 = .int .i64 i ∧ i ≤ all.length ∧ Hid (∀ n ∈ all.take i, (decide (n ∈ s) || !Cr.fitsB bad (Cr.withL s n)) = true) ∧ Hid (Below w.heap.size w wr)) (fun v7 _ => all.length - (intOf v7).toNat)
    case atStart => exact ⟨0, rfl, by omega, hid (by simp), hid (Below.refl _ _)⟩
    case round =>
      obtain ⟨i, rfl, hi', hE, hB⟩ := hrel
      obtain ⟨wo, hwo⟩ : ∃ wo : World, wo = wr := ⟨_, rfl⟩
      subst hwo
      have hsz := hB.out.size
      by_cases hlt : i < all.length
      · have hiz : (i : Int) < (all.length : Int) := by omega
        obtain ⟨b1, o1, rfl, -, c1⟩ := HY.out.atv hB.out hlt
        have hmem := List.getElem_mem hlt
        have hz := HY.out.inZ all[i] hmem
        have htk : all.take (i + 1) = all.take i ++ [all[i]] := List.take_succ_eq_append_getElem hlt
        obtain ⟨n, hn⟩ : ∃ n, all[i] = n := ⟨_, rfl⟩
        rw [hn] at c1 htk hmem hz
        have HTA := hid htk
        have HMEM := hid hmem
        have HI := hid (in_any s n _ wo (HX.out.below hB.out))
        have HW := hid (with_any s hl n _ wo (HX.out.to hB.out))
        have HZN := hid hz
        obtain ⟨p, hp⟩ : ∃ p, decide (n ∈ s) = p := ⟨_, rfl⟩
        have HP := hid hp
        rw [hp] at HI
        clear hn htk hmem hz hp
        go_wp2_with fail
        refine (HI.out).mono ?_
        rintro e w4 ⟨rfl, rfl⟩
        cases p with
        | true =>
          have E6 := hid (show ∀ m ∈ all.take (i + 1), (decide (m ∈ s) || !Cr.fitsB bad (Cr.withL s m)) = true from fun m hm => by
            rw [HTA.out, List.mem_append, List.mem_singleton] at hm
            rcases hm with h | h
            · exact hE.out m h
            · rw [h, HP.out]; rfl)
          clear hE HW HI
          go_wp2_with fail
          go_roundw
          case rel => exact ⟨i + 1, by go_num, by omega, E6, hB⟩
          case measure => simp [intOf]; omega
        | false =>
          go_wp2_with fail
          refine (HW.out).mono ?_
          rintro e w4 ⟨v4, rfl, o4, b4⟩
          have B4 := hid (hB.out.trans (b4.mono hsz))
          have HFI := hid (rfits_any bad (Cr.withL s n) _ _ w4 (HU.out.to B4.out) (o4.rdz (InZ.with HX.out.inZ HZN.out)))
          obtain ⟨q, hq⟩ : ∃ q, Cr.fitsB bad (Cr.withL s n) = q := ⟨_, rfl⟩
          have HQ := hid hq
          rw [hq] at HFI
          obtain ⟨A4, c4, rfl, -⟩ := o4.val
          clear o4 b4 hq HW hB HI
          go_wp2_with fail
          refine (HFI.out).mono ?_
          rintro e w5 ⟨rfl, rfl⟩
          cases q with
          | false =>
            have E6 := hid (show ∀ m ∈ all.take (i + 1), (decide (m ∈ s) || !Cr.fitsB bad (Cr.withL s m)) = true from fun m hm => by
              rw [HTA.out, List.mem_append, List.mem_singleton] at hm
              rcases hm with h | h
              · exact hE.out m h
              · rw [h, HQ.out]; simp)
            clear hE
            go_wp2_with fail
            go_roundw
            case rel => exact ⟨i + 1, by go_num, by omega, E6, B4⟩
            case measure => simp [intOf]; omega
          | true =>
            have HE := hid (show MostPost s all bad w (.returned (.bool false)) w4 from ⟨by
              have : Cr.mostB s all bad = false := by
                unfold Cr.mostB
                rw [Bool.and_eq_false_iff]
                refine Or.inr ?_
                rw [Bool.eq_false_iff]
                intro h
                have := List.all_eq_true.1 h n HMEM.out
                rw [HQ.out, HP.out] at this
                cases this
              rw [this], B4.out⟩)
            clear hE
            go_wp2_with fail
            go_ret
            exact HE.out
      · have hiz : ¬ (i : Int) < (all.length : Int) := by omega
        have HE := hid (show MostPost s all bad w (.returned (.bool true)) wo from ⟨by
          have e := hE.out
          rw [List.take_of_length_le (by omega)] at e
          have : Cr.mostB s all bad = true := by
            unfold Cr.mostB
            rw [HFB.out, Bool.and_eq_true, List.all_eq_true]
            exact ⟨rfl, e⟩
          rw [this], hB.out⟩)
        clear hE hB
        go_wp2_with fail
        go_ret
        exact HE.out
end Go.Proofs.Ytnhjiappmblnmaa
