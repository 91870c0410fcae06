/-
  The walk of container/heap's down over graph's queue. Conditions: few items, each a module's place.
-/
import Derived.Test.YtahaflapkdjmhaaGrF3
namespace Go.Proofs.Ytahaflapkdjmhaa
open Go.RowKit

theorem Gr.swapL_snoc (its : List Nat) (x i j : Nat) (hi : i < its.length) (hj : j < its.length) : swapL (its ++ [x]) i j = swapL its i j ++ [x] := by
  unfold swapL
  have e1 : (its ++ [x]).getD j 0 = its.getD j 0 := by simp [List.getD, List.getElem?_append_left hj]
  have e2 : (its ++ [x]).getD i 0 = its.getD i 0 := by simp [List.getD, List.getElem?_append_left hi]
  rw [e1, e2, List.set_append_left _ _ hi, List.set_append_left _ _ (by simpa using hj)]
theorem Gr.getD_snoc (its : List Nat) (x i : Nat) (hi : i < its.length) : (its ++ [x]).getD i 0 = its.getD i 0 := by simp [List.getD, List.getElem?_append_left hi]
/-- A least child. -/
def Gr.LeastC (l : List Gr.Md) (its : List Nat) (n i c : Nat) : Prop := 0 < c ∧ c < n ∧ (c - 1) / 2 = i ∧ ∀ k, 0 < k → k < n → (k - 1) / 2 = i → Gr.nle l (Gr.fn its c) (Gr.fn its k)
theorem Gr.leastC_right {l : List Gr.Md} {its : List Nat} {n i : Nat} (hn : 2 * i + 2 < n) (h : Gr.nlt l (its.getD (2 * i + 2) 0) (its.getD (2 * i + 1) 0) = true) : Gr.LeastC l its n i (2 * i + 2) := by
  refine ⟨by omega, hn, by omega, fun k k0 kn hk => ?_⟩
  have : k = 2 * i + 1 ∨ k = 2 * i + 2 := by omega
  rcases this with rfl | rfl
  · exact Gr.nlt_asym h
  · exact Gr.nle_refl _ _
theorem Gr.leastC_left {l : List Gr.Md} {its : List Nat} {n i : Nat} (hn : 2 * i + 1 < n) (h : 2 * i + 2 < n → Gr.nlt l (its.getD (2 * i + 2) 0) (its.getD (2 * i + 1) 0) = false) : Gr.LeastC l its n i (2 * i + 1) := by
  refine ⟨by omega, hn, by omega, fun k k0 kn hk => ?_⟩
  have : k = 2 * i + 1 ∨ k = 2 * i + 2 := by omega
  rcases this with rfl | rfl
  · exact Gr.nle_refl _ _
  · exact h kn

set_option maxHeartbeats 8000000 in
set_option maxRecDepth 1000000 in
theorem down_any {w : World} {B q : Nat} {lv : Value} {A : Option Addr} {c x : Nat} {pre : List Nat} (h : Qu w B q lv A c (pre ++ [x])) (hl : pre.length < 1000) {l : List Gr.Md} (hx : RdM w B lv l) (hB : B ≤ w.heap.size) (hlt : ∀ a ∈ pre ++ [x], a < l.length) (hu : Hp.DnI (Gr.nle l) (Gr.fn pre) pre.length 0) :
    Calls Try.prog 25 #[.iface 46 (.pointer (some ⟨q, 0, none⟩)), .int .i64 0, .int .i64 (pre.length : Int)] w fun e w' => ∃ b pre', e = .returned (.bool b) ∧ pre'.Perm pre ∧ Hp.Heap (Gr.nle l) (Gr.fn pre') pre'.length ∧ Qu w' B q lv A c (pre' ++ [x]) ∧ QK w w' q A A := by
  have HX := hid hx
  have HL := hid hlt
  have hms := m_swap
  have hml := m_less
  have H0 := hid h
  have HU := hid hu
  have hrl := h.rowlo
  have hqlo := h.lo
  clear h hu hx hlt
  obtain ⟨n, hn⟩ : ∃ n, n = pre.length := ⟨_, rfl⟩
  rw [← hn] at hl HU ⊢
  have HN := hid hn
  clear hn
  go_enter Try.func25, Try.ntmps25
  go_wp2_with fail
  go_loopw [7] (fun vi wr => ∃ (i : Nat) (pk : List Nat), vi = .int .i64 i ∧ i ≤ n ∧ Hid (pk.Perm pre ∧ Hp.DnI (Gr.nle l) (Gr.fn pk) n i) ∧ Qu wr B q lv A c (pk ++ [x]) ∧ QK w wr q A A) (fun vi _ => n - (intOf vi).toNat)
  case atStart => exact ⟨0, pre, rfl, by omega, hid ⟨.refl _, HU.out⟩, H0.out, QK.refl _ _ _⟩
  case round =>
    obtain ⟨i, pk, rfl, hk, hE, hQ, hK⟩ := hrel
    have HLEN : Hid (pk.length = n) := hid (hE.out.1.length_eq.trans HN.out.symm)
    have HQ := hid hQ
    have HK := hid hK
    clear hQ hK
    have HXR := hid ((HX.out.below (HK.out.below hqlo (fun g hg => (hrl g hg).1) hB)).mono (Nat.le_trans hB HK.out.size))
    have HLT : Hid (∀ a ∈ pk ++ [x], a < l.length) := hid (fun a ha => HL.out a (by
      rcases List.mem_append.1 ha with h1 | h1
      · exact List.mem_append_left _ (hE.out.1.mem_iff.1 h1)
      · exact List.mem_append_right _ h1))
    obtain ⟨a, ha⟩ : ∃ a : Nat, a = 2 * i + 1 := ⟨_, rfl⟩
    have e1 : 2 * (i : Int) + 1 = (a : Int) := by omega
    have hz : decide ((a : Int) < 0) = false := decide_eq_false (by omega)
    by_cases h1 : a < n
    · have h1z : (a : Int) < (n : Int) := by omega
      have h1d : decide ((n : Int) ≤ (a : Int)) = false := decide_eq_false (by omega)
      have h1e : decide (n ≤ a) = false := decide_eq_false (by omega)
      obtain ⟨b, hb⟩ : ∃ b : Nat, b = 2 * i + 2 := ⟨_, rfl⟩
      have e2 : (a : Int) + 1 = (b : Int) := by omega
      by_cases h2 : b < n
      · have h2z : (b : Int) < (n : Int) := by omega
        have HC1 := hid (qless_any HQ.out (by have := HLEN.out; simp; omega) HXR.out HLT.out (i := b) (j := a) (by have := HLEN.out; simp; omega) (by have := HLEN.out; simp; omega))
        rw [Gr.getD_snoc pk x b (by have := HLEN.out; omega), Gr.getD_snoc pk x a (by have := HLEN.out; omega)] at HC1
        cases hb1 : Gr.nlt l (pk.getD b 0) (pk.getD a 0) with
        | true =>
          rw [hb1] at HC1
          have HB1 := hid hb1
          clear hb1
          have HLC : Hid (Gr.LeastC l pk n i b) := hid (by rw [hb]; exact Gr.leastC_right (by omega) (by rw [← hb, ← ha]; exact HB1.out))
          have hia : i < b := by omega
          have hcn : b < n := h2
          have HA := hid ha
          have HBb := hid hb
          clear ha hb
          go_wp2_with fail
          refine (HC1.out).mono ?_
          rintro e w1 ⟨rfl, m, hm⟩
          clear HC1
          have HQR := hid (HQ.out.heap (w' := w1) (by rw [hm]; rfl))
          have HKR := hid (HK.out.heap (w2 := w1) (by rw [hm]; rfl) (by rw [hm]; rfl) (by rw [hm]; rfl) (by rw [hm]; rfl))
          have HXS := hid ((HXR.out.below (show Below wr.heap.size wr w1 from hm ▸ below_drewN _ wr m)).mono (show wr.heap.size ≤ w1.heap.size by rw [hm]; exact Nat.le_refl _))
          clear hm
          have HC2 := hid (qless_any HQR.out (by have := HLEN.out; simp; omega) HXS.out HLT.out (i := b) (j := i) (by have := HLEN.out; simp; omega) (by have := HLEN.out; simp; omega))
          rw [Gr.getD_snoc pk x b (by have := HLEN.out; omega), Gr.getD_snoc pk x i (by have := HLEN.out; omega)] at HC2
          cases hb2 : Gr.nlt l (pk.getD b 0) (pk.getD i 0) with
          | false =>
            rw [hb2] at HC2
            have HE : Hid (∃ pre', pre'.Perm pre ∧ Hp.Heap (Gr.nle l) (Gr.fn pre') pre'.length ∧ Qu (w1) B q lv A c (pre' ++ [x]) ∧ QK w (w1) q A A) := hid ⟨pk, hE.out.1, by
              rw [HLEN.out]
              exact Hp.dn_done _ _ _ _ hE.out.2 (fun k k0 kn hk => Gr.nle_trans l _ _ _ hb2 (HLC.out.2.2.2 k k0 kn hk)), HQR.out, HKR.out⟩
            clear hb2
            go_wp2_with fail
            refine (HC2.out).mono ?_
            rintro e w2 ⟨rfl, m2, hm2⟩
            have HM := hid hm2
            clear hm2
            go_wp2_with fail
            go_ret
            obtain ⟨pre', r1, r2, r3, r4⟩ := HE.out
            exact ⟨_, pre', rfl, r1, r2, r3.heap (by rw [HM.out]; rfl), r4.heap (by rw [HM.out]; rfl) (by rw [HM.out]; rfl) (by rw [HM.out]; rfl) (by rw [HM.out]; rfl)⟩
          | true =>
            rw [hb2] at HC2
            have HB2 := hid hb2
            clear hb2
            go_wp2_with fail
            refine (HC2.out).mono ?_
            rintro e w2 ⟨rfl, m2, hm2⟩
            have HQ2 := hid (HQR.out.heap (w' := w2) (by rw [hm2]; rfl))
            have HK2 := hid (HKR.out.heap (w2 := w2) (by rw [hm2]; rfl) (by rw [hm2]; rfl) (by rw [hm2]; rfl) (by rw [hm2]; rfl))
            clear hm2
            have HS := hid (qswap_any HQ2.out (by have := HLEN.out; simp; omega) (i := i) (j := b) (by have := HLEN.out; simp; omega) (by have := HLEN.out; simp; omega) (by omega))
            rw [Gr.swapL_snoc pk x i b (by have := HLEN.out; omega) (by have := HLEN.out; omega)] at HS
            go_wp2_with fail
            refine (HS.out).mono ?_
            rintro e w3 ⟨rfl, hq3, hk3⟩
            have HQ3 := hid hq3
            have HK3 := hid (HK2.out.trans hk3)
            clear hq3 hk3
            go_wp2_with fail
            go_roundw
            case rel =>
              have hl1 := HLEN.out
              refine ⟨b, swapL pk i b, by go_num, by omega, hid ⟨(Gr.swapL_perm pk i b (by omega) (by omega)).trans hE.out.1, ?_⟩, HQ3.out, HK3.out⟩
              rw [Gr.fn_swap pk i b (by omega) (by omega)]
              obtain ⟨q1, q2, q3, q4⟩ := HLC.out
              refine Hp.dn_step (Gr.nle l) (Gr.nle_tot l) (Gr.fn pk) n i b hE.out.2 q1 q2 q3 q4 ?_
              unfold Gr.nle
              show ¬ Gr.nlt l (pk.getD b 0) (pk.getD i 0) = false
              rw [HB2.out]
              simp
            case measure => simp [intOf]; omega
        | false =>
          rw [hb1] at HC1
          have HB1 := hid hb1
          clear hb1
          have HLC : Hid (Gr.LeastC l pk n i a) := hid (by rw [ha]; exact Gr.leastC_left (by omega) (fun _ => by rw [← hb, ← ha]; exact HB1.out))
          have hia : i < a := by omega
          have hcn : a < n := h1
          have HA := hid ha
          have HBb := hid hb
          clear ha hb
          go_wp2_with fail
          refine (HC1.out).mono ?_
          rintro e w1 ⟨rfl, m, hm⟩
          clear HC1
          have HQR := hid (HQ.out.heap (w' := w1) (by rw [hm]; rfl))
          have HKR := hid (HK.out.heap (w2 := w1) (by rw [hm]; rfl) (by rw [hm]; rfl) (by rw [hm]; rfl) (by rw [hm]; rfl))
          have HXS := hid ((HXR.out.below (show Below wr.heap.size wr w1 from hm ▸ below_drewN _ wr m)).mono (show wr.heap.size ≤ w1.heap.size by rw [hm]; exact Nat.le_refl _))
          clear hm
          have HC2 := hid (qless_any HQR.out (by have := HLEN.out; simp; omega) HXS.out HLT.out (i := a) (j := i) (by have := HLEN.out; simp; omega) (by have := HLEN.out; simp; omega))
          rw [Gr.getD_snoc pk x a (by have := HLEN.out; omega), Gr.getD_snoc pk x i (by have := HLEN.out; omega)] at HC2
          cases hb2 : Gr.nlt l (pk.getD a 0) (pk.getD i 0) with
          | false =>
            rw [hb2] at HC2
            have HE : Hid (∃ pre', pre'.Perm pre ∧ Hp.Heap (Gr.nle l) (Gr.fn pre') pre'.length ∧ Qu (w1) B q lv A c (pre' ++ [x]) ∧ QK w (w1) q A A) := hid ⟨pk, hE.out.1, by
              rw [HLEN.out]
              exact Hp.dn_done _ _ _ _ hE.out.2 (fun k k0 kn hk => Gr.nle_trans l _ _ _ hb2 (HLC.out.2.2.2 k k0 kn hk)), HQR.out, HKR.out⟩
            clear hb2
            go_wp2_with fail
            refine (HC2.out).mono ?_
            rintro e w2 ⟨rfl, m2, hm2⟩
            have HM := hid hm2
            clear hm2
            go_wp2_with fail
            go_ret
            obtain ⟨pre', r1, r2, r3, r4⟩ := HE.out
            exact ⟨_, pre', rfl, r1, r2, r3.heap (by rw [HM.out]; rfl), r4.heap (by rw [HM.out]; rfl) (by rw [HM.out]; rfl) (by rw [HM.out]; rfl) (by rw [HM.out]; rfl)⟩
          | true =>
            rw [hb2] at HC2
            have HB2 := hid hb2
            clear hb2
            go_wp2_with fail
            refine (HC2.out).mono ?_
            rintro e w2 ⟨rfl, m2, hm2⟩
            have HQ2 := hid (HQR.out.heap (w' := w2) (by rw [hm2]; rfl))
            have HK2 := hid (HKR.out.heap (w2 := w2) (by rw [hm2]; rfl) (by rw [hm2]; rfl) (by rw [hm2]; rfl) (by rw [hm2]; rfl))
            clear hm2
            have HS := hid (qswap_any HQ2.out (by have := HLEN.out; simp; omega) (i := i) (j := a) (by have := HLEN.out; simp; omega) (by have := HLEN.out; simp; omega) (by omega))
            rw [Gr.swapL_snoc pk x i a (by have := HLEN.out; omega) (by have := HLEN.out; omega)] at HS
            go_wp2_with fail
            refine (HS.out).mono ?_
            rintro e w3 ⟨rfl, hq3, hk3⟩
            have HQ3 := hid hq3
            have HK3 := hid (HK2.out.trans hk3)
            clear hq3 hk3
            go_wp2_with fail
            go_roundw
            case rel =>
              have hl1 := HLEN.out
              refine ⟨a, swapL pk i a, by go_num, by omega, hid ⟨(Gr.swapL_perm pk i a (by omega) (by omega)).trans hE.out.1, ?_⟩, HQ3.out, HK3.out⟩
              rw [Gr.fn_swap pk i a (by omega) (by omega)]
              obtain ⟨q1, q2, q3, q4⟩ := HLC.out
              refine Hp.dn_step (Gr.nle l) (Gr.nle_tot l) (Gr.fn pk) n i a hE.out.2 q1 q2 q3 q4 ?_
              unfold Gr.nle
              show ¬ Gr.nlt l (pk.getD a 0) (pk.getD i 0) = false
              rw [HB2.out]
              simp
            case measure => simp [intOf]; omega
      · have h2z : decide ((b : Int) < (n : Int)) = false := decide_eq_false (by omega)
        have h2e : decide (b < n) = false := decide_eq_false (by omega)
        have HLC : Hid (Gr.LeastC l pk n i a) := hid (by rw [ha]; exact Gr.leastC_left (by omega) (fun _ => by omega))
        have hia : i < a := by omega
        have hcn : a < n := h1
        have HA := hid ha
        have HBb := hid hb
        clear ha hb
        have HQR := HQ
        have HKR := HK
        have HXS := HXR
        have HC2 := hid (qless_any HQR.out (by have := HLEN.out; simp; omega) HXS.out HLT.out (i := a) (j := i) (by have := HLEN.out; simp; omega) (by have := HLEN.out; simp; omega))
        rw [Gr.getD_snoc pk x a (by have := HLEN.out; omega), Gr.getD_snoc pk x i (by have := HLEN.out; omega)] at HC2
        cases hb2 : Gr.nlt l (pk.getD a 0) (pk.getD i 0) with
        | false =>
          rw [hb2] at HC2
          have HE : Hid (∃ pre', pre'.Perm pre ∧ Hp.Heap (Gr.nle l) (Gr.fn pre') pre'.length ∧ Qu (wr) B q lv A c (pre' ++ [x]) ∧ QK w (wr) q A A) := hid ⟨pk, hE.out.1, by
            rw [HLEN.out]
            exact Hp.dn_done _ _ _ _ hE.out.2 (fun k k0 kn hk => Gr.nle_trans l _ _ _ hb2 (HLC.out.2.2.2 k k0 kn hk)), HQR.out, HKR.out⟩
          clear hb2
          go_wp2_with fail
          refine (HC2.out).mono ?_
          rintro e w2 ⟨rfl, m2, hm2⟩
          have HM := hid hm2
          clear hm2
          go_wp2_with fail
          go_ret
          obtain ⟨pre', r1, r2, r3, r4⟩ := HE.out
          exact ⟨_, pre', rfl, r1, r2, r3.heap (by rw [HM.out]; rfl), r4.heap (by rw [HM.out]; rfl) (by rw [HM.out]; rfl) (by rw [HM.out]; rfl) (by rw [HM.out]; rfl)⟩
        | true =>
          rw [hb2] at HC2
          have HB2 := hid hb2
          clear hb2
          go_wp2_with fail
          refine (HC2.out).mono ?_
          rintro e w2 ⟨rfl, m2, hm2⟩
          have HQ2 := hid (HQR.out.heap (w' := w2) (by rw [hm2]; rfl))
          have HK2 := hid (HKR.out.heap (w2 := w2) (by rw [hm2]; rfl) (by rw [hm2]; rfl) (by rw [hm2]; rfl) (by rw [hm2]; rfl))
          clear hm2
          have HS := hid (qswap_any HQ2.out (by have := HLEN.out; simp; omega) (i := i) (j := a) (by have := HLEN.out; simp; omega) (by have := HLEN.out; simp; omega) (by omega))
          rw [Gr.swapL_snoc pk x i a (by have := HLEN.out; omega) (by have := HLEN.out; omega)] at HS
          go_wp2_with fail
          refine (HS.out).mono ?_
          rintro e w3 ⟨rfl, hq3, hk3⟩
          have HQ3 := hid hq3
          have HK3 := hid (HK2.out.trans hk3)
          clear hq3 hk3
          go_wp2_with fail
          go_roundw
          case rel =>
            have hl1 := HLEN.out
            refine ⟨a, swapL pk i a, by go_num, by omega, hid ⟨(Gr.swapL_perm pk i a (by omega) (by omega)).trans hE.out.1, ?_⟩, HQ3.out, HK3.out⟩
            rw [Gr.fn_swap pk i a (by omega) (by omega)]
            obtain ⟨q1, q2, q3, q4⟩ := HLC.out
            refine Hp.dn_step (Gr.nle l) (Gr.nle_tot l) (Gr.fn pk) n i a hE.out.2 q1 q2 q3 q4 ?_
            unfold Gr.nle
            show ¬ Gr.nlt l (pk.getD a 0) (pk.getD i 0) = false
            rw [HB2.out]
            simp
          case measure => simp [intOf]; omega
    · have h1d : decide ((n : Int) ≤ (a : Int)) = true := decide_eq_true (by omega)
      have h1z : (n : Int) ≤ (a : Int) := by omega
      have HA := hid ha
      clear ha
      have HE : Hid (∃ pre', pre'.Perm pre ∧ Hp.Heap (Gr.nle l) (Gr.fn pre') pre'.length ∧ Qu wr B q lv A c (pre' ++ [x]) ∧ QK w wr q A A) := hid ⟨pk, hE.out.1, by
        rw [HLEN.out]
        refine Hp.dn_done _ _ _ _ hE.out.2 (fun k k0 kn hk => ?_)
        have := HA.out
        omega, HQ.out, HK.out⟩
      go_wp2_with fail
      go_ret
      obtain ⟨pre', r⟩ := HE.out
      exact ⟨_, pre', rfl, r⟩

end Go.Proofs.Ytahaflapkdjmhaa
