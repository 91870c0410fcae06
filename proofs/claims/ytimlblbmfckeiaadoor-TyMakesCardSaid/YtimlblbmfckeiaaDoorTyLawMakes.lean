/-
  TyMakes is true for any number, texts and types: the type of a function, and of a row of labels and types, or why there is none, are told as the reference tells them. No conditions but the card's own.
-/
import Derived.Test.YtimlblbmfckeiaaDoorRows
import Derived.Test.YtimlblbmfckeiaaDoorCards
import Derived.Test.YtimlblbmfckeiaaDoorTie
import Derived.Test.YtimlblbmfckeiaaDoorTyLq
import Derived.Test.YtimlblbmfckeiaaDoorTyAl
import Derived.Test.YtimlblbmfckeiaaDoorTyT
import Derived.Test.YtimlblbmfckeiaaDoorTyRm
import Derived.SevenTiedAt
import Derived.Deep.CutRange
import Derived.Deep.RegionHeld3
namespace Go.Proofs.YtimlblbmfckeiaaDoor.tyMakes
open Go.ChangeShapes Go.WideShapes Go.ChangeAt Go.RowKit

theorem own : ownKnob Tryd.prog.godebug = none := by kernel_rfl

theorem names_of {l : List L.Nd} (h : L.namedL l = true) : (∀ x ∈ l, x.name.size ≤ 200) ∧ l.length ≤ 200 := by
  simp only [L.namedL, Bool.and_eq_true, decide_eq_true_eq, List.all_eq_true] at h
  exact ⟨h.2, h.1⟩

set_option maxHeartbeats 8000000 in
set_option maxRecDepth 100000 in
theorem tyMakes_true {W : World} (k : Int) (vs : Value) (ss : List ByteArray) (hs : RdS W W.heap.size vs ss) (vt : Value) (ts : List (Value × List L.Nd)) (ht : RdT W vt ts) (hT : Tab W) :
    Calls Tryd.prog 4 #[.agg #[.int .i64 k, vs, vt]] W fun e w' => e = .returned (.bool true) ∧ Below W.heap.size W w' := by
  have HS := hid hs
  have HTS := hid ht
  have HT := hid hT
  obtain ⟨As, cs, rfl, -⟩ := hs
  obtain ⟨⟨At, ct, rfl, -⟩, -⟩ := ht
  clear hT
  have HB0 := hid (below_new (w := W) (.cells #[.int .i64 k, .slice As ss.length cs, .slice At ts.length ct] 37))
  by_cases hb1 : 60 < ts.length
  · have z1 : (60 : Int) < (ts.length : Int) := by omega
    clear hb1
    go_enter Tryd.func4, Tryd.ntmps4
    have HTX := hid (HT.out.grows HB0.out)
    have HBX := hid (HB0.out)
    go_wp2_with fail
    refine (alive_any _ HTX.out).mono ?_
    rintro e w9 ⟨rfl, h9⟩
    go_wp2
    go_ret
    exact ⟨rfl, HBX.out.trans (h9.mono HBX.out.size)⟩
  by_cases hb2 : 60 < ss.length
  · have z1 : (60 : Int) < (ss.length : Int) := by omega
    have z2 : ¬ (60 : Int) < (ts.length : Int) := by omega
    clear hb1 hb2
    go_enter Tryd.func4, Tryd.ntmps4
    have HTX := hid (HT.out.grows HB0.out)
    have HBX := hid (HB0.out)
    go_wp2_with fail
    refine (alive_any _ HTX.out).mono ?_
    rintro e w9 ⟨rfl, h9⟩
    go_wp2
    go_ret
    exact ⟨rfl, HBX.out.trans (h9.mono HBX.out.size)⟩
  have hl1 : ts.length ≤ 60 := by omega
  have hl2 : ss.length ≤ 60 := by omega
  have z1 : ¬ (60 : Int) < (ts.length : Int) := by omega
  have z2 : ¬ (60 : Int) < (ss.length : Int) := by omega
  have hN := heap_alloc_new W (.cells #[.int .i64 k, .slice As ss.length cs, .slice At ts.length ct] 37)
  obtain ⟨w0, hw0⟩ : ∃ w0, w0 = (W.alloc (.cells #[.int .i64 k, .slice As ss.length cs, .slice At ts.length ct] 37)) := ⟨_, rfl⟩
  have hP : W.heap.size < w0.heap.size := by rw [hw0]; simp
  rw [← hw0] at HB0 hN
  have K0 : Hid (w0.cell? ⟨W.heap.size, 0, none⟩ = some (.int .i64 k)) := hid (Lib.cell_of_heap hN 0)
  have K1 : Hid (w0.cell? ⟨W.heap.size, 1, none⟩ = some (.slice As ss.length cs)) := hid (Lib.cell_of_heap hN 1)
  have K2 : Hid (w0.cell? ⟨W.heap.size, 2, none⟩ = some (.slice At ts.length ct)) := hid (Lib.cell_of_heap hN 2)
  clear hb1 hb2 hN
  go_enter Tryd.func4, Tryd.ntmps4
  go_wp2
  rw [← hw0]
  clear hw0
  go_loopw [3] (fun vi wr => ∃ i : Nat, vi = .int .i64 i ∧ i ≤ ts.length ∧ Below w0.heap.size w0 wr ∧ Hid (∀ j (h : j < ts.length), j < i → L.namedL ts[j].2 = true ∧ L.rightL ts[j].2 = true)) (fun vi _ => ts.length - (intOf vi).toNat)
  case atStart => exact ⟨0, rfl, by omega, Below.refl _ _, hid fun j h hj => by omega⟩
  case round =>
    obtain ⟨i, rfl, hi, hB, hD⟩ := hrel
    have hbw := hB.size
    have HBW := hid (HB0.out.trans (hB.mono (Nat.le_of_lt hP)))
    have k2 := (hB.cell (p := ⟨W.heap.size, 2, none⟩) hP).trans K2.out
    by_cases hlt : i < ts.length
    · obtain ⟨b2, o2, hA2, hb2, hcx2⟩ : ∃ b o, At = some ⟨b, o, none⟩ ∧ b < W.heap.size ∧ ∀ (i : Nat) (h : i < ts.length), W.cell? ⟨b, o + i, none⟩ = some ts[i].1 := by
        obtain ⟨⟨A', c', hv, hc⟩, _⟩ := HTS.out
        simp only [Value.slice.injEq, true_and] at hv
        obtain ⟨rfl, -⟩ := hv
        exact hc (by rintro rfl; simp at hlt)
      subst hA2
      have t1 := (HBW.out.cell (p := ⟨b2, o2 + i, none⟩) hb2).trans (hcx2 i hlt)
      have hRt : Rd wr wr.heap.size (ts[i]'hlt).1 (ts[i]'hlt).2 := ((HTS.out.2 _ (List.getElem_mem hlt)).below HBW.out).size
      have HDT : Hid (∀ (hn : L.namedL (ts[i]'hlt).2 = true) (hr : L.rightL (ts[i]'hlt).2 = true), ∀ j (h : j < ts.length), j < i + 1 → L.namedL ts[j].2 = true ∧ L.rightL ts[j].2 = true) := hid fun hn hr j h hj => by
        rcases Nat.lt_or_ge j i with h2 | h2
        · exact hD.out j h h2
        · obtain rfl : j = i := by omega
          exact ⟨hn, hr⟩
      obtain ⟨Av, cv, hvv, -⟩ := id hRt
      have hiz : (i : Int) < (ts.length : Int) := by omega
      rw [hvv] at t1 hRt
      have HRT := hid hRt
      clear hcx2 hRt hvv hD
      generalize (ts[i]'hlt).2 = TT at *
      have NA := hid (named_any TT _ wr HRT.out)
      cases hna : L.namedL TT with
      | false =>
        rw [hna] at NA
        clear hna
        go_wp2_with fail
        refine (NA.out).mono ?_
        rintro e w1 ⟨rfl, rfl⟩
        have HTX := hid (HT.out.grows HBW.out)
        have HBX := hid (HBW.out)
        go_wp2_with fail
        refine (alive_any _ HTX.out).mono ?_
        rintro e w9 ⟨rfl, h9⟩
        go_wp2
        go_ret
        exact ⟨rfl, HBX.out.trans (h9.mono HBX.out.size)⟩
      | true =>
        rw [hna] at NA
        have HNA := hid hna
        have HC := hid (refRight_any TT (fun x hx => Nat.le_trans ((names_of hna).1 x hx) (by omega)) _ _ HRT.out)
        clear hna
        go_wp2_with fail
        refine (NA.out).mono ?_
        rintro e w1 ⟨rfl, rfl⟩
        cases hra : L.rightL TT with
        | false =>
          rw [hra] at HC
          clear hra
          go_wp2_with fail
          refine (HC.out).mono ?_
          rintro e w2 ⟨rfl, h2⟩
          have HB2 := hid (HBW.out.trans (h2.mono HBW.out.size))
          clear h2
          have HTX := hid (HT.out.grows HB2.out)
          have HBX := hid (HB2.out)
          go_wp2_with fail
          refine (alive_any _ HTX.out).mono ?_
          rintro e w9 ⟨rfl, h9⟩
          go_wp2
          go_ret
          exact ⟨rfl, HBX.out.trans (h9.mono HBX.out.size)⟩
        | true =>
          rw [hra] at HC
          have HRA := hid hra
          clear hra
          go_wp2_with fail
          refine (HC.out).mono ?_
          rintro e w2 ⟨rfl, h2⟩
          go_wp2
          go_roundw
          case rel => exact ⟨i + 1, by go_num, by omega, hB.trans (h2.mono hbw), hid (HDT.out HNA.out HRA.out)⟩
          case measure => simp [intOf]; omega
    · obtain rfl : i = ts.length := by omega
      have HD := hid hD.out
      have k0 := (hB.cell (p := ⟨W.heap.size, 0, none⟩) hP).trans K0.out
      have k1 := (hB.cell (p := ⟨W.heap.size, 1, none⟩) hP).trans K1.out
      have hPr : W.heap.size < wr.heap.size := Nat.lt_of_lt_of_le hP hbw
      clear hD K0 K1 K2
      go_wp2
      go_loopw [4] (fun vi wx => ∃ i : Nat, vi = .int .i64 i ∧ i ≤ ss.length ∧ wr = wx ∧ Hid (∀ j (h : j < ss.length), j < i → ss[j].size ≤ 200)) (fun vi _ => ss.length - (intOf vi).toNat)
      case atStart => exact ⟨0, rfl, by omega, rfl, hid fun j h hj => by omega⟩
      case round =>
        obtain ⟨i, rfl, hi2, rfl, hE⟩ := hrel
        by_cases hlt : i < ss.length
        · obtain ⟨b, o, hA, hb, hcx⟩ : ∃ b o, As = some ⟨b, o, none⟩ ∧ b < W.heap.size ∧ ∀ (i : Nat) (h : i < ss.length), W.cell? ⟨b, o + i, none⟩ = some (.string ss[i]) := by
            obtain ⟨A', c', hv, hc⟩ := HS.out
            simp only [Value.slice.injEq, true_and] at hv
            obtain ⟨rfl, -⟩ := hv
            exact hc (by rintro rfl; simp at hlt)
          subst hA
          have t1 := (HBW.out.cell (p := ⟨b, o + i, none⟩) hb).trans (hcx i hlt)
          have hiz : (i : Int) < (ss.length : Int) := by omega
          have HE2 : Hid ((ss[i]'hlt).size ≤ 200 → ∀ j (h : j < ss.length), j < i + 1 → ss[j].size ≤ 200) := hid fun h1 j h hj => by
            rcases Nat.lt_or_ge j i with h2 | h2
            · exact hE.out j h h2
            · obtain rfl : j = i := by omega
              exact h1
          clear hcx hE
          generalize (ss[i]'hlt) = SI at *
          by_cases hsz : 200 < SI.size
          · have z3 : (200 : Int) < (SI.size : Int) := by omega
            clear hsz
            have HTX := hid (HT.out.grows HBW.out)
            have HBX := hid (HBW.out)
            go_wp2_with fail
            refine (alive_any _ HTX.out).mono ?_
            rintro e w9 ⟨rfl, h9⟩
            go_wp2
            go_ret
            exact ⟨rfl, HBX.out.trans (h9.mono HBX.out.size)⟩
          · have z3 : ¬ (200 : Int) < (SI.size : Int) := by omega
            go_wp2
            go_roundw
            case rel => exact ⟨i + 1, by go_num, by omega, by first | rfl | trivial, hid (HE2.out (by omega))⟩
            case measure => simp [intOf]; omega
        · obtain rfl : i = ss.length := by omega
          have HSZ : Hid (∀ s ∈ ss, s.size ≤ 200) := hid fun s hs => by
            obtain ⟨j, hj, rfl⟩ := List.getElem_of_mem hs
            exact hE.out j hj hj
          have HRI : Hid (∀ t ∈ ts, t.2 ≠ [] ∧ t.2.length ≤ 200) := hid fun t ht => by
            obtain ⟨j, hj, rfl⟩ := List.getElem_of_mem ht
            obtain ⟨h1, h2⟩ := HD.out j hj hj
            refine ⟨?_, (names_of h1).2⟩
            intro h0
            rw [h0] at h2
            simp [L.rightL] at h2
          have HR1 := hid (fun (w' : World) (h : Below W.heap.size W w') => row_said k ss ts (fun s hs => Nat.le_trans (HSZ.out s hs) (by omega)) (by omega) (by omega) (fun t ht => (HRI.out t ht).1) (fun t ht => Nat.le_trans (HRI.out t ht).2 (by omega)) _ _ w' (HS.out.below h) (HTS.out.below h))
          have HR2 := hid (fun (w' : World) (h : Below W.heap.size W w') => refRow_said k ss ts (fun s hs => Nat.le_trans (HSZ.out s hs) (by omega)) (by omega) (by omega) (fun t ht => (HRI.out t ht).1) (fun t ht => Nat.le_trans (HRI.out t ht).2 (by omega)) _ _ w' (HS.out.below h) (HTS.out.below h))
          clear hE
          go_wp2_with fail
          refine (HR1.out _ HBW.out).mono ?_
          rintro e w1 ⟨v1, c1, rfl, h1, q1⟩
          have B1 := hid (HBW.out.trans (h1.mono HBW.out.size))
          have Q1 := hid q1
          have k0 := (h1.cell (p := ⟨W.heap.size, 0, none⟩) hPr).trans k0
          have k1 := (h1.cell (p := ⟨W.heap.size, 1, none⟩) hPr).trans k1
          have k2 := (h1.cell (p := ⟨W.heap.size, 2, none⟩) hPr).trans k2
          have hP1 : W.heap.size < w1.heap.size := Nat.lt_of_lt_of_le hPr h1.size
          clear h1 q1
          go_wp2_with fail
          refine (HR2.out _ B1.out).mono ?_
          rintro e w2 ⟨v2, c2, rfl, h2, q2⟩
          obtain ⟨rfl, X, x1, x2⟩ := said_meets Q1.out h2 q2
          have B2 := hid (B1.out.trans (h2.mono B1.out.size))
          have k2 := (h2.cell (p := ⟨W.heap.size, 2, none⟩) hP1).trans k2
          have hP2 : W.heap.size < w2.heap.size := Nat.lt_of_lt_of_le hP1 h2.size
          have HON := hid (one_any X X _ _ _ x1 x2)
          rw [decide_eq_true (rfl : X = X)] at HON
          have K2 := hid k2
          clear h2 q2 x1 x2 Q1 k0 k1
          go_wp2_with fail
          refine (HON.out).mono ?_
          rintro e w3 ⟨rfl, h3⟩
          have B3 := hid (B2.out.trans (h3.mono B2.out.size))
          have k2 := (h3.cell (p := ⟨W.heap.size, 2, none⟩) hP2).trans K2.out
          have hP3 : W.heap.size < w3.heap.size := Nat.lt_of_lt_of_le hP2 h3.size
          clear h3 HON
          by_cases h2 : ts.length < 2
          · have z3 : (ts.length : Int) < 2 := by omega
            clear h2
            have HTX := hid (HT.out.grows B3.out)
            have HBX := hid (B3.out)
            go_wp2_with fail
            refine (alive_any _ HTX.out).mono ?_
            rintro e w9 ⟨rfl, h9⟩
            go_wp2
            go_ret
            exact ⟨rfl, HBX.out.trans (h9.mono HBX.out.size)⟩
          · have z3 : ¬ (ts.length : Int) < 2 := by omega
            have hl0 : 0 < ts.length := by omega
            have hl1 : 1 < ts.length := by omega
            have zl0 : (0 : Int) < (ts.length : Int) := by omega
            have zl1 : (1 : Int) < (ts.length : Int) := by omega
            have zle : ¬ ts = [] := by intro h; rw [h] at hl0; exact absurd hl0 (by simp)
            obtain ⟨b2, o2, hA2, hb2, hcx2⟩ : ∃ b o, At = some ⟨b, o, none⟩ ∧ b < W.heap.size ∧ ∀ (i : Nat) (h : i < ts.length), W.cell? ⟨b, o + i, none⟩ = some ts[i].1 := by
              obtain ⟨⟨A', c', hv, hc⟩, _⟩ := HTS.out
              simp only [Value.slice.injEq, true_and] at hv
              obtain ⟨rfl, -⟩ := hv
              exact hc zle
            subst hA2
            have g0 := hcx2 0 hl0
            have g1 := hcx2 1 hl1
            rw [Nat.add_zero] at g0
            have r0 := HTS.out.2 _ (List.getElem_mem hl0)
            have r1 := HTS.out.2 _ (List.getElem_mem hl1)
            have n0 := HRI.out _ (List.getElem_mem hl0)
            have n1 := HRI.out _ (List.getElem_mem hl1)
            obtain ⟨Aa, ca, hva, -⟩ := id r0
            obtain ⟨Ab, cb, hvb, -⟩ := id r1
            rw [hva] at g0 r0
            rw [hvb] at g1 r1
            clear hva hvb hcx2
            generalize (ts[0]'hl0).2 = L0 at *
            generalize (ts[1]'hl1).2 = L1 at *
            have HAR := hid (fun (w' : World) (h : Below W.heap.size W w') => arrow_any L0 L1 _ _ w' ((r0.below h).mono h.size) ((r1.below h).mono h.size) n0.1 n1.1 (by omega) (by omega))
            have HRF := hid (fun (w' : World) (h : Below W.heap.size W w') => refArrow_any L0 L1 _ _ w' ((r0.below h).mono h.size) ((r1.below h).mono h.size) n0.1 n1.1 (by omega) (by omega))
            have HAL := hid (fun (w' : World) (h : Below W.heap.size W w') => alive_any w' (HT.out.grows h))
            have HON := hid (fun (w' : World) (va vb : Value) (B1 B2 : Nat) (ha : Own B1 va (⟨5, ⟨#[]⟩, 0⟩ :: (L0 ++ L1)) w') (hb : Own B2 vb (⟨5, ⟨#[]⟩, 0⟩ :: (L0 ++ L1)) w') => one_any _ _ _ _ w' ha.rd hb.rd)
            have HD3 := hid (show Below W.heap.size W w3.drew from B3.out.drew)
            have HE3 := hid (show Below w3.heap.size w3 w3.drew from (Below.refl _ _).drew)
            have G0 := hid g0
            have G1 := hid g1
            have K3 := hid k2
            have HP3 := hid hP3
            have HB2 := hid hb2
            clear g0 g1 r0 r1 n0 n1 B2 K2
            go_upto_region 19 with fail
            clear k2
            go_region_held3 (fun w' => w'.cell? ⟨W.heap.size, 2, none⟩ = some (.slice (some ⟨b2, o2, none⟩) ts.length ct) ∧ w'.cell? ⟨b2, o2, none⟩ = some (.slice Aa L0.length ca) ∧ w'.cell? ⟨b2, o2 + 1, none⟩ = some (.slice Ab L1.length cb)) (first
                | exact ⟨K3.out, (B3.out.cell (p := ⟨b2, o2, none⟩) HB2.out).trans G0.out, (B3.out.cell (p := ⟨b2, o2 + 1, none⟩) HB2.out).trans G1.out⟩
                | exact ⟨(HE3.out.cell (p := ⟨W.heap.size, 2, none⟩) HP3.out).trans K3.out, (HD3.out.cell (p := ⟨b2, o2, none⟩) HB2.out).trans G0.out, (HD3.out.cell (p := ⟨b2, o2 + 1, none⟩) HB2.out).trans G1.out⟩
                | exact ⟨(E9.out.cell (p := ⟨W.heap.size, 2, none⟩) HP3.out).trans K3.out, (D9.out.cell (p := ⟨b2, o2, none⟩) HB2.out).trans G0.out, (D9.out.cell (p := ⟨b2, o2 + 1, none⟩) HB2.out).trans G1.out⟩
                | exact ⟨(E10.out.cell (p := ⟨W.heap.size, 2, none⟩) HP3.out).trans K3.out, (D10.out.cell (p := ⟨b2, o2, none⟩) HB2.out).trans G0.out, (D10.out.cell (p := ⟨b2, o2 + 1, none⟩) HB2.out).trans G1.out⟩
                | exact ⟨(E12.out.cell (p := ⟨W.heap.size, 2, none⟩) HP3.out).trans K3.out, (D12.out.cell (p := ⟨b2, o2, none⟩) HB2.out).trans G0.out, (D12.out.cell (p := ⟨b2, o2 + 1, none⟩) HB2.out).trans G1.out⟩
                | exact ⟨(E13.out.cell (p := ⟨W.heap.size, 2, none⟩) HP3.out).trans K3.out, (D13.out.cell (p := ⟨b2, o2, none⟩) HB2.out).trans G0.out, (D13.out.cell (p := ⟨b2, o2 + 1, none⟩) HB2.out).trans G1.out⟩) (first
              | (go_at_call 8; refine (HAL.out _ HD3.out).mono ?_; rintro e w9 ⟨rfl, h9⟩; have D9 := hid (HD3.out.trans (h9.mono HD3.out.size)); have E9 := hid (HE3.out.trans (h9.mono HE3.out.size)); clear h9)
              | (go_at_call 21; refine (HAR.out _ D12.out).mono ?_; rintro e w10 ⟨v10, rfl, ho, h10⟩; have D10 := hid (D12.out.trans (h10.mono D12.out.size)); have E10 := hid (E12.out.trans (h10.mono E12.out.size)); have O10 := hid ho; have O12b := hid (O12.out.below h10); clear h10 ho)
              | (go_at_call 21; refine (HAR.out _ D9.out).mono ?_; rintro e w10 ⟨v10, rfl, ho, h10⟩; have D10 := hid (D9.out.trans (h10.mono D9.out.size)); have E10 := hid (E9.out.trans (h10.mono E9.out.size)); have O10 := hid ho; clear h10 ho)
              | (go_at_call 22; refine (HRF.out _ D10.out).mono ?_; rintro e w12 ⟨v12, rfl, ho, h12⟩; have D12 := hid (D10.out.trans (h12.mono D10.out.size)); have E12 := hid (E10.out.trans (h12.mono E10.out.size)); have O12 := hid ho; have O10b := hid (O10.out.below h12); clear h12 ho)
              | (go_at_call 22; refine (HRF.out _ D9.out).mono ?_; rintro e w12 ⟨v12, rfl, ho, h12⟩; have D12 := hid (D9.out.trans (h12.mono D9.out.size)); have E12 := hid (E9.out.trans (h12.mono E9.out.size)); have O12 := hid ho; clear h12 ho)
              | (go_at_call 16; refine (HON.out _ _ _ _ _ O10b.out O12.out).mono ?_; rintro e w13 ⟨rfl, h13⟩; have D13 := hid (D12.out.trans (h13.mono D12.out.size)); have E13 := hid (E12.out.trans (h13.mono E12.out.size)); clear h13)
              | (go_at_call 16; refine (HON.out _ _ _ _ _ O10.out O12b.out).mono ?_; rintro e w13 ⟨rfl, h13⟩; have D13 := hid (D10.out.trans (h13.mono D10.out.size)); have E13 := hid (E10.out.trans (h13.mono E10.out.size)); clear h13))
            all_goals go_wp2
            all_goals go_ret
            all_goals exact ⟨ret_bool (by simp), D13.out⟩

set_option maxRecDepth 100000 in
theorem tyMakes_lifted (os : Os) (started : os.Started) (H : Type) (enc : TypeId × Value → H) :
    ReturnsInHanded {} Tryd.checked os 4 .any (fun w args => (Rows.tyMakesSpec.pre enc Tryd.prog Tryd.f4 [] false w args ∧ laidMetH Tryd.prog laidAll w) ∧ sizedMet enc Tryd.prog Tryd.f4 (OpenSpec.ofChange Rows.tyMakesSpec) false w args)
      (Rows.tyMakesSpec.post enc Tryd.prog Tryd.f4 false true false false) := by
  refine returnsInHanded_of_change_and (C := Tryd.checked) (X := fun w _ => laidMetH Tryd.prog laidAll w) (fun _ _ _ hh h => h.of_heap hh) own started (by kernel_rfl) Tryd.func4
    (ChangeSpec.witness_shaped (enc := enc) (C := Tryd.checked) (os := os) (X := fun w _ => laidMetH Tryd.prog laidAll w) false (World.doorLaid Tryd.prog 400 os) #[.agg #[.int .i64 0, .slice none 0 0, .slice none 0 0]] 8 rfl (World.shaped_of_RefB (by kernel_rfl) (by kernel_rfl)) (by kernel_rfl) (by kernel_rfl) (by kernel_rfl) (door_met os _)) ?_
  intro W base args ds gs before hval0 hW _ _ hL _
  have hT := tab_of_laid hL
  have hlts := hW.lt
  have hval : ∀ (j : Nat) t v, Tryd.f4.params[j]? = some t → args[j]? = some v → Value.okWide Tryd.prog W .any base t v := hval0
  have hW' := hW
  obtain ⟨p, q, hA0, hV, rfl, hfz, hnd⟩ := hW
  have hA : DataW.TrodAll enc Tryd.prog W 0 (fun _ => true) true Tryd.f4.params.toList args.toList ds p := hA0
  rw [Tryd.params4] at hA hval
  obtain ⟨v0, vs0, d0, ds0, p0, q0, hargs, rfl, rfl, h0, r0⟩ := trodAll_cons hA
  obtain ⟨hn, rfl, rfl⟩ := trodAll_nil r0
  obtain rfl : args = #[v0] := by cases args; simp_all
  obtain ⟨rfl, rfl⟩ := trodVars_none hV
  obtain ⟨fs0, hfs0, -⟩ := oneMakes
  obtain ⟨cs0, hv0, -⟩ := okWide_struct hfs0 (hval 0 37 v0 rfl rfl)
  obtain ⟨fuel0, hf0⟩ := h0
  obtain ⟨k, vs, ss, vt, ts, hcs, hS, hTs⟩ := makes_of_trod hf0
  have hv : v0 = .agg #[.int .i64 k, vs, vt] := by
    rw [hv0] at hcs ⊢
    have h : cs0 = #[.int .i64 k, vs, vt] := by
      apply Array.toList_inj.1
      simpa [Value.cells] using hcs
    rw [h]
  clear hA0 hval0
  simp only [List.append_nil] at hW' hlts
  have hC := tyMakes_true k vs ss hS vt ts hTs hT
  rw [← hv] at hC
  refine hC.mono fun e W' ⟨he, hB⟩ => ?_
  subst he
  refine ⟨_, rfl, _, _, _, [], (p0 ++ []), [], by simpa using hW', ?_, ?_, ?_, hB.frame _, fun h => by cases h⟩
  · exact trodAll_cons_mk (shut_bool Tryd.underlying4 _) trodAll_mk0
  · exact (trodAll_cons_mk (Below.trod (by kernel_rfl) (by kernel_rfl) (of_decide_eq_true (by kernel_rfl)) ⟨fuel0, hf0⟩ hB (fun x hx => hlts x (by simp [hx]))) trodAll_mk0)
  · rfl

/-- TyMakes: the row. -/
theorem tyMakes_holds : Rows.TyMakesSaid :=
  OpenClaim.holds_of_wide 4 Tryd.f4 rfl rfl rfl rfl rfl rfl rfl ⟨rfl, rfl, rfl, rfl, rfl⟩ rfl rfl rfl rfl rfl (by kernel_rfl) Tryd.func4 (by kernel_rfl)
    (of_decide_eq_true (by kernel_rfl)) (by unfold Func.isWrapper; first | (rw [if_pos (by decide +kernel)]; kernel_rfl) | (rw [if_neg (by decide +kernel)]; exact ⟨rfl, rfl⟩))
    (fun os started H enc _ => tyMakes_lifted os started H enc)

/-- TyMakes: the given statement, the card: the three tables are tied to the program's text. -/
theorem tyMakes_card : Rows.TyMakesCardSaid :=
  Claim7.holds_tied_plain_at .later [] [.data, .data, .data] true Rows.tyMakesCard.stood.harness false
    tyMakes_holds (fun _ h => by cases h) (by kernel_rfl) (fun _ h => by cases h) tyMakes_row_tie rfl ⟨rfl, rfl⟩ (by kernel_rfl) rfl
    (fun f fn hf hfn => by
      obtain rfl : f = 4 := Option.some.inj ((show Tryd.prog.funcNamed "leaven/leavenlaw03.TyMakes" = some 4 by kernel_rfl).symm.trans hf) |>.symm
      obtain rfl : fn = Tryd.f4 := (Option.some.inj (Tryd.func4.symm.trans hfn)).symm
      exact ⟨by kernel_rfl, fun j t ht => by
        rw [Tryd.params4] at ht
        have hm : t ∈ [37] := by simpa using Array.mem_of_getElem? ht
        have hall : ([37].all fun u => !Tryd.prog.wantsStandIn u) = true := by kernel_rfl
        exact (show Tryd.prog.wantsStandIn t = false by simpa using List.all_eq_true.1 hall t hm)⟩)
    (by kernel_rfl)

end Go.Proofs.YtimlblbmfckeiaaDoor.tyMakes
