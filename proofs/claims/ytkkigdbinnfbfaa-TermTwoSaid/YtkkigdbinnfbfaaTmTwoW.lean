/-
  TermTwo is true for any type, any two numbers, any two types. No conditions.
-/
import Derived.Test.YtkkigdbinnfbfaaRows
import Derived.Test.YtkkigdbinnfbfaaTmLp
import Derived.Test.YtkkigdbinnfbfaaTmW4
import Derived.Test.YtkkigdbinnfbfaaTmT2
import Derived.BigQuiet
import Derived.Deep.RegionHeld3
namespace Go.Proofs.Ytkkigdbinnfbfaa.termTwo
open Go.ChangeShapes Go.WideShapes Go.ChangeAt Go.RowKit

theorem own : ownKnob Try.prog.godebug = none := by kernel_rfl

abbrev Post (w : World) (e : Ending) (w' : World) : Prop := e = .returned (.bool true) ∧ Below w.heap.size w w'

theorem fewR3 {a b c : List L.Nd} : L.fewR [a, b, c] = (L.fewL 60 a && (L.fewL 60 b && L.fewL 60 c)) := by simp [L.fewR]
theorem few_len {l : List L.Nd} (h : L.fewL 60 l = true) : l.length ≤ 60 := by
  simp only [L.fewL, Bool.and_eq_true, decide_eq_true_eq] at h
  exact h.1
theorem vr_none {l : List L.Nd} {n : Int} (h : n ∉ L.varsL l) : l.any (L.vr n) = false := by
  rw [List.any_eq_false]
  intro x hx hv
  refine h ((L.vars_mem l n).2 ⟨x, hx, ?_⟩)
  simpa [L.vr] using hv

/-- What the four puts tell. -/
theorem two_facts {n0 n1 : Int} (hne : ¬ n0 = n1) {l la lb : List L.Nd} (g0 : L.fewL 60 l = true) (g1 : L.fewL 60 la = true) (g2 : L.fewL 60 lb = true) (hn : ∀ y ∈ l, InN y) (na : ∀ y ∈ la, InN y) (nb : ∀ y ∈ lb, InN y)
    (va : n0 ∉ L.varsL la ∧ n1 ∉ L.varsL la) (vb : n0 ∉ L.varsL lb ∧ n1 ∉ L.varsL lb) :
    ∃ a c b d, (∀ (V : World) (vt vu : Value), Rd V V.heap.size vt l → Rd V V.heap.size vu la → Calls Try.prog 8 #[vt, .int .i64 n0, vu] V (PutPost (a, c) V)) ∧
      (∀ (V : World) (vt vu : Value), Rd V V.heap.size vt l → Rd V V.heap.size vu lb → Calls Try.prog 8 #[vt, .int .i64 n1, vu] V (PutPost (b, d) V)) ∧
      (c = 0 → d = 0 → ∃ P e, a.length ≠ 0 ∧ b.length ≠ 0 ∧ (∀ (V : World) (vt vu : Value), Rd V V.heap.size vt a → Rd V V.heap.size vu lb → Calls Try.prog 8 #[vt, .int .i64 n1, vu] V (PutPost (P, e) V)) ∧
        (∀ (V : World) (vt vu : Value), Rd V V.heap.size vt b → Rd V V.heap.size vu la → Calls Try.prog 8 #[vt, .int .i64 n0, vu] V (PutPost (P, e) V))) := by
  obtain ⟨x, ks, rfl, hT⟩ := L.few_get g0
  obtain ⟨y0, k0, rfl, hA⟩ := L.few_get g1
  obtain ⟨y1, k1, rfl, hB⟩ := L.few_get g2
  obtain ⟨a, c, h0⟩ : ∃ a c, L.putRes n0 y0 k0 (.cons x ks .nil) = (a, c) := ⟨_, _, rfl⟩
  obtain ⟨b, d, h1⟩ : ∃ b d, L.putRes n1 y1 k1 (.cons x ks .nil) = (b, d) := ⟨_, _, rfl⟩
  refine ⟨a, c, b, d, fun V vt vu r1 r2 => ?_, fun V vt vu r1 r2 => ?_, ?_⟩
  · have := put_any x ks (FewT.ty hT hn) y0 k0 (FewT.ty hA na) n0 vt vu V r1 r2
    rwa [h0] at this
  · have := put_any x ks (FewT.ty hT hn) y1 k1 (FewT.ty hB nb) n1 vt vu V r1 r2
    rwa [h1] at this
  rintro rfl rfl
  obtain ⟨p0, b0, xa, ka, ea, rfl, oa, ba, la⟩ := L.put_get hT hA h0
  obtain ⟨p1, b1, xb, kb, eb, rfl, ob, bb, lb⟩ := L.put_get hT hB h1
  obtain ⟨P, e, hP⟩ : ∃ P e, L.putRes n1 y1 k1 (.cons xa ka .nil) = (P, e) := ⟨_, _, rfl⟩
  have hQ := L.two_res hne hT hA hB (vr_none va.2) (vr_none vb.1) p0 p1 b0 b1 ea eb
  rw [hP] at hQ
  refine ⟨P, e, by simp, by simp, fun V vt vu r1 r2 => ?_, fun V vt vu r1 r2 => ?_⟩
  · have := put_any xa ka (put_in hT hn hA na ea oa ba la) y1 k1 (FewT.ty hB nb) n1 vt vu V r1 r2
    rwa [hP] at this
  · have := put_any xb kb (put_in hT hn hB nb eb ob bb lb) y0 k0 (FewT.ty hA na) n0 vt vu V r1 r2
    rwa [← hQ] at this

set_option maxHeartbeats 16000000 in
set_option maxRecDepth 1000000 in
theorem two_true {W : World} (v0 : Value) (l : List L.Nd) (hR : Rd W W.heap.size v0 l) (hn : ∀ y ∈ l, InN y) (n0 n1 : Int) (va vb : Value) (la lb : List L.Nd) (ra : Rd W W.heap.size va la) (rb : Rd W W.heap.size vb lb) (na : ∀ y ∈ la, InN y) (nb : ∀ y ∈ lb, InN y) :
    Calls Try.prog 3 #[v0, .agg #[.int .i64 n0, .int .i64 n1], .agg #[va, vb]] W (Post W) := by
  obtain ⟨W1, hW1⟩ : ∃ W1, W.alloc (.cells #[.int .i64 n0, .int .i64 n1] 24) = W1 := ⟨_, rfl⟩
  have B1 : Below W.heap.size W W1 := hW1 ▸ below_new _
  have s1 : W1.heap.size = W.heap.size + 1 := by rw [← hW1]; simp
  have p0 : W1.cell? ⟨W.heap.size, 0, none⟩ = some (.int .i64 n0) := by rw [← hW1]; exact (Lib.cell_of_heap (heap_alloc_new W _) 0).trans rfl
  have p1 : W1.cell? ⟨W.heap.size, 1, none⟩ = some (.int .i64 n1) := by rw [← hW1]; exact (Lib.cell_of_heap (heap_alloc_new W _) 1).trans rfl
  obtain ⟨W0, hW0⟩ : ∃ W0, W1.alloc (.cells #[va, vb] 25) = W0 := ⟨_, rfl⟩
  have B2 : Below W1.heap.size W1 W0 := hW0 ▸ below_new _
  have B0 : Below W.heap.size W W0 := B1.trans (B2.mono B1.size)
  have s0 : W0.heap.size = W.heap.size + 2 := by rw [← hW0]; simp [s1]
  have q0 : W0.cell? ⟨W1.heap.size, 0, none⟩ = some va := by rw [← hW0]; exact (Lib.cell_of_heap (heap_alloc_new W1 _) 0).trans rfl
  have q1 : W0.cell? ⟨W1.heap.size, 1, none⟩ = some vb := by rw [← hW0]; exact (Lib.cell_of_heap (heap_alloc_new W1 _) 1).trans rfl
  rw [s1] at q0 q1
  have HW1 := hid hW1
  have HW0 := hid hW0
  have HB0 := hid B0
  have HR := hid ((hR.below B0).mono B0.size)
  have HRA := hid ((ra.below B0).mono B0.size)
  have HRB := hid ((rb.below B0).mono B0.size)
  have HN := hid hn
  have HNA := hid na
  have HNB := hid nb
  have HAL := hid (fun w => alive_any w)
  obtain ⟨A, cap, rfl, hl1, hl2⟩ := hR.len
  obtain ⟨Aa, ka, rfl, ha1, ha2⟩ := ra.len
  obtain ⟨Ab, kb, rfl, hb1, hb2⟩ := rb.len
  unfold maxLen at hl2 ha2 hb2
  have HBOX := hid (fun (V : World) (hV : Below W0.heap.size W0 V) => And.intro ((hV.cell (p := ⟨W.heap.size, 0, none⟩) (show W.heap.size < W0.heap.size by omega)).trans ((B2.cell (p := ⟨W.heap.size, 0, none⟩) (show W.heap.size < W1.heap.size by omega)).trans p0)) (And.intro ((hV.cell (p := ⟨W.heap.size, 1, none⟩) (show W.heap.size < W0.heap.size by omega)).trans ((B2.cell (p := ⟨W.heap.size, 1, none⟩) (show W.heap.size < W1.heap.size by omega)).trans p1)) (And.intro ((hV.cell (p := ⟨W.heap.size + 1, 0, none⟩) (show W.heap.size + 1 < W0.heap.size by omega)).trans q0) ((hV.cell (p := ⟨W.heap.size + 1, 1, none⟩) (show W.heap.size + 1 < W0.heap.size by omega)).trans q1))))
  have HFW := hid (fews_any [(_, l), (_, la), (_, lb)] (fun t ht y hy => by
    simp only [List.mem_cons, List.not_mem_nil, or_false] at ht
    rcases ht with rfl | rfl | rfl
    · exact (hn y hy).2.1
    · exact (na y hy).2.1
    · exact (nb y hy).2.1) _ _ (rdr_lit W0 [(_, l), (_, la), (_, lb)] (by simp) (fun t ht => by
    simp only [List.mem_cons, List.not_mem_nil, or_false] at ht
    rcases ht with rfl | rfl | rfl
    · exact HR.out
    · exact HRA.out
    · exact HRB.out)))
  have HNW := hid (below_new (w := W0) (.cells #[.slice A l.length cap, .slice Aa la.length ka, .slice Ab lb.length kb] 23))
  clear hR hn ra rb na nb hW1 hW0 B1 B2 B0 p0 p1 q0 q1
  go_enter Try.func3, Try.ntmps3
  go_upto_region 1 with fail
  rw [HW1.out, HW0.out]
  obtain ⟨y0, y1, y2, y3⟩ := HBOX.out W0 (Below.refl _ _)
  obtain ⟨fb, hfb⟩ : ∃ b, L.fewR [l, la, lb] = b := ⟨_, rfl⟩
  have HF : Hid (Calls Try.prog 4 #[.slice (some ⟨W.heap.size + 2, 0, none⟩) 3 3] (W0.alloc (.cells #[.slice A l.length cap, .slice Aa la.length ka, .slice Ab lb.length kb] 23)) fun e w' => e = .returned (.bool fb) ∧ Below W0.heap.size W0 w') := hid (by
    rw [← hfb, ← s0]
    exact (HFW.out).mono (by rintro e w' ⟨rfl, hb⟩; exact ⟨rfl, HNW.out.trans (hb.mono HNW.out.size)⟩))
  have HFB := hid hfb
  clear HFW HNW hfb
  go_wp2_with fail
  refine (HF.out).mono ?_
  rintro e w1 ⟨rfl, h0⟩
  have X1 := hid h0
  clear h0 HF y0 y1 y2 y3
  obtain ⟨y0, y1, y2, y3⟩ := HBOX.out w1 X1.out
  cases fb with
  | false =>
    go_wp2_with fail
    refine (HAL.out _).mono ?_
    rintro e w99 ⟨rfl, h0⟩
    have X99 := hid (HB0.out.trans ((X1.out.trans (h0.mono X1.out.size)).mono HB0.out.size))
    clear h0
    go_wp2_with fail
    go_ret
    exact ⟨rfl, X99.out⟩
  | true =>
    have hfw := HFB.out
    rw [fewR3, Bool.and_eq_true, Bool.and_eq_true] at hfw
    obtain ⟨g0, g1, g2⟩ := hfw
    have b0 := few_len g0
    have b1 := few_len g1
    have b2 := few_len g2
    have G0 := hid g0
    have G1 := hid g1
    have G2 := hid g2
    clear g0 g1 g2 HFB
    by_cases h90 : 90 < l.length + la.length + lb.length
    · have e90 : decide ((90 : Int) < (l.length : Int) + la.length + lb.length) = true := by rw [decide_eq_true_eq]; omega
      go_wp2_with fail
      refine (HAL.out _).mono ?_
      rintro e w99 ⟨rfl, h0⟩
      have X99 := hid (HB0.out.trans ((X1.out.trans (h0.mono X1.out.size)).mono HB0.out.size))
      clear h0
      go_wp2_with fail
      go_ret
      exact ⟨rfl, X99.out⟩
    have e90 : decide ((90 : Int) < (l.length : Int) + la.length + lb.length) = false := by rw [decide_eq_false_iff_not]; omega
    by_cases hne : n0 = n1
    · have e01 : (n0 == n1) = true := by simpa using hne
      subst hne
      go_wp2_with fail
      refine (HAL.out _).mono ?_
      rintro e w99 ⟨rfl, h0⟩
      have X99 := hid (HB0.out.trans ((X1.out.trans (h0.mono X1.out.size)).mono HB0.out.size))
      clear h0
      go_wp2_with fail
      go_ret
      exact ⟨rfl, X99.out⟩
    have e01 : (n0 == n1) = false := by simpa using hne
    have HNE := hid hne
    clear hne h90
    go_wp2_with fail
    go_loopw [7] (fun v7 wr => ∃ k : Nat, v7 = .int .i64 k ∧ k ≤ 2 ∧ Hid (Below W0.heap.size W0 wr) ∧ Hid ((1 ≤ k → n0 ∉ L.varsL la ∧ n1 ∉ L.varsL la) ∧ (2 ≤ k → n0 ∉ L.varsL lb ∧ n1 ∉ L.varsL lb))) (fun v7 _ => 2 - (intOf v7).toNat)
    case atStart => exact ⟨0, rfl, by omega, X1, hid ⟨fun h => absurd h (by omega), fun h => absurd h (by omega)⟩⟩
    case round =>
      clear X1 y0 y1 y2 y3
      obtain ⟨k, rfl, hk, X2, HK⟩ := hrel
      obtain ⟨wo, hwo⟩ : ∃ wo, wo = wr := ⟨_, rfl⟩
      subst hwo
      have hk3 : k < 2 ∨ k = 2 := by omega
      rcases hk3 with hk2 | rfl
      · obtain ⟨lu, Au, ku, HRU, HCU, hlu, HNM⟩ : ∃ lu Au ku, Hid (Rd W0 W0.heap.size (.slice Au lu.length ku) lu) ∧ Hid (∀ V : World, Below W0.heap.size W0 V → V.cell? ⟨W.heap.size + 1, k, none⟩ = some (.slice Au lu.length ku)) ∧ lu.length ≤ 60 ∧ Hid ((k = 0 → lu = la) ∧ (k = 1 → lu = lb)) := by
          have hk01 : k = 0 ∨ k = 1 := by omega
          rcases hk01 with rfl | rfl
          · exact ⟨la, Aa, ka, HRA, hid fun V hV => (HBOX.out V hV).2.2.1, b1, hid ⟨fun _ => rfl, fun h => absurd h (by omega)⟩⟩
          · exact ⟨lb, Ab, kb, HRB, hid fun V hV => (HBOX.out V hV).2.2.2, b2, hid ⟨fun h => absurd h (by omega), fun _ => rfl⟩⟩
        have HVA := hid (fun (V : World) (hV : Below W0.heap.size W0 V) => vars_any lu (by omega) _ V ((HRU.out.below hV).mono hV.size))
        obtain ⟨c0, hc0⟩ : ∃ c, decide (n0 ∈ L.varsL lu) = c := ⟨_, rfl⟩
        obtain ⟨c1, hc1⟩ : ∃ c, decide (n1 ∈ L.varsL lu) = c := ⟨_, rfl⟩
        have HI0 := hid (fun (B : Nat) (v : Value) (w : World) (h : OwnZ B v (L.varsL lu) w) => show Calls Try.prog 6 #[v, .int .i64 n0] w (fun e w' => e = .returned (.bool c0) ∧ w = w') from by
          rw [← hc0]; exact in_any _ _ v w h)
        have HI1 := hid (fun (B : Nat) (v : Value) (w : World) (h : OwnZ B v (L.varsL lu) w) => show Calls Try.prog 6 #[v, .int .i64 n1] w (fun e w' => e = .returned (.bool c1) ∧ w = w') from by
          rw [← hc1]; exact in_any _ _ v w h)
        have HC0 := hid hc0
        have HC1 := hid hc1
        clear hc0 hc1
        obtain ⟨y0, y1, -⟩ := HBOX.out _ X2.out
        have yk := HCU.out _ X2.out
        go_upto_region 6 with fail
        go_cut [64] from 45 to 65 (fun v64 wx => v64 = .bool (c0 || c1) ∧ Hid (Below W0.heap.size W0 wx))
        case first =>
          cases c0 with
          | true =>
            first
            | (go_region_with (first
                 | (go_at_call 7
                    refine (HVA.out _ X3.out).mono ?_
                    rintro e w4 ⟨v4, rfl, hO2, h02⟩
                    have X4 := hid (X3.out.trans (h02.mono X3.out.size))
                    have O4 := hid hO2
                    obtain ⟨A4, d4, rfl, -⟩ := hO2.val
                    have z0 := (HBOX.out w4 X4.out).1
                    have z1 := (HBOX.out w4 X4.out).2.1
                    have z2 := HCU.out w4 X4.out
                    clear h02 hO2)
                 | (go_at_call 7
                    refine (HVA.out _ ?_).mono ?_
                    exact ⟨X2.out.os, X2.out.tape, X2.out.output, X2.out.size, X2.out.block⟩
                    rintro e w3 ⟨v3, rfl, hO1, h01⟩
                    have X3 := hid (X2.out.trans (Below.mono (show Below wo.heap.size wo w3 from ⟨h01.os, h01.tape, h01.output, h01.size, h01.block⟩) X2.out.size))
                    have O3 := hid hO1
                    obtain ⟨A3, d3, rfl, -⟩ := hO1.val
                    have z0' := (HBOX.out w3 X3.out).1
                    have z1' := (HBOX.out w3 X3.out).2.1
                    have z2' := HCU.out w3 X3.out
                    clear h01 hO1)
                 | (go_at_call 6
                    refine (HI1.out _ _ _ O4.out).mono ?_
                    rintro e w5 ⟨rfl, h5⟩
                    subst h5)
                 | (go_at_call 6
                    refine (HI0.out _ _ _ O3.out).mono ?_
                    rintro e w5 ⟨rfl, h5⟩
                    subst h5)))
            | fail
            all_goals (go_wp2_with fail; go_meet; exact ⟨rfl, X3⟩)
          | false =>
            first
            | (go_region_with (first
                 | (go_at_call 7
                    refine (HVA.out _ X3.out).mono ?_
                    rintro e w4 ⟨v4, rfl, hO2, h02⟩
                    have X4 := hid (X3.out.trans (h02.mono X3.out.size))
                    have O4 := hid hO2
                    obtain ⟨A4, d4, rfl, -⟩ := hO2.val
                    have z0 := (HBOX.out w4 X4.out).1
                    have z1 := (HBOX.out w4 X4.out).2.1
                    have z2 := HCU.out w4 X4.out
                    clear h02 hO2)
                 | (go_at_call 7
                    refine (HVA.out _ ?_).mono ?_
                    exact ⟨X2.out.os, X2.out.tape, X2.out.output, X2.out.size, X2.out.block⟩
                    rintro e w3 ⟨v3, rfl, hO1, h01⟩
                    have X3 := hid (X2.out.trans (Below.mono (show Below wo.heap.size wo w3 from ⟨h01.os, h01.tape, h01.output, h01.size, h01.block⟩) X2.out.size))
                    have O3 := hid hO1
                    obtain ⟨A3, d3, rfl, -⟩ := hO1.val
                    have z0' := (HBOX.out w3 X3.out).1
                    have z1' := (HBOX.out w3 X3.out).2.1
                    have z2' := HCU.out w3 X3.out
                    clear h01 hO1)
                 | (go_at_call 6
                    refine (HI1.out _ _ _ O4.out).mono ?_
                    rintro e w5 ⟨rfl, h5⟩
                    subst h5)
                 | (go_at_call 6
                    refine (HI0.out _ _ _ O3.out).mono ?_
                    rintro e w5 ⟨rfl, h5⟩
                    subst h5)))
            | fail
            all_goals (go_wp2_with fail; go_meet; exact ⟨rfl, X4⟩)
        case rest =>
          obtain ⟨rfl, X5⟩ := hcut
          clear y0 y1 yk X2 HVA HI0 HI1
          cases hb : (c0 || c1) with
          | true =>
            go_wp2_with fail
            refine (HAL.out _).mono ?_
            rintro e w99 ⟨rfl, h0⟩
            have X99 := hid (HB0.out.trans ((X5.out.trans (h0.mono X5.out.size)).mono HB0.out.size))
            clear h0
            go_wp2_with fail
            go_ret
            exact ⟨rfl, X99.out⟩
          | false =>
            go_wp2_with fail
            go_round
            case rel =>
              rw [Bool.or_eq_false_iff] at hb
              have m0 : n0 ∉ L.varsL lu := of_decide_eq_false (HC0.out.trans hb.1)
              have m1 : n1 ∉ L.varsL lu := of_decide_eq_false (HC1.out.trans hb.2)
              refine ⟨k + 1, by go_num, by omega, X5, hid ?_⟩
              have hkk := HK.out
              have hnm := HNM.out
              constructor
              · intro _
                by_cases hz : k = 0
                · rw [← hnm.1 hz]; exact ⟨m0, m1⟩
                · exact hkk.1 (by omega)
              · intro _
                have hz : k = 1 := by omega
                rw [← hnm.2 hz]; exact ⟨m0, m1⟩
            case measure => simp [intOf]; omega
      · obtain ⟨a, c, b, d, P0, P1, P2⟩ := two_facts HNE.out G0.out G1.out G2.out HN.out HNA.out HNB.out (HK.out.1 (by omega)) (HK.out.2 (by omega))
        have HP0 := hid (P0 wo _ _ ((HR.out.below X2.out).mono X2.out.size) ((HRA.out.below X2.out).mono X2.out.size))
        have HP1 := hid P1
        have HP2 := hid P2
        clear P0 P1 P2 HK G0 G1 G2 HN HNA HNB HNE e90 e01
        obtain ⟨y0, y1, y2, y3⟩ := HBOX.out _ X2.out
        go_wp2_with fail
        refine (HP0.out).mono ?_
        rintro e w3 ⟨v3, rfl, hO, h0⟩
        have X3 := hid (X2.out.trans (h0.mono X2.out.size))
        have O3 := hid hO.rd
        obtain ⟨A3, c3, rfl, -⟩ := hO.rd.len
        clear hO h0 HP0 X2 y0 y1 y2 y3
        obtain ⟨y0, y1, y2, y3⟩ := HBOX.out _ X3.out
        have HC := hid (HP1.out w3 _ _ ((HR.out.below X3.out).mono X3.out.size) ((HRB.out.below X3.out).mono X3.out.size))
        clear HP1
        go_wp2_with fail
        refine (HC.out).mono ?_
        rintro e w4 ⟨v4, rfl, hO, h0⟩
        have X4 := hid (X3.out.trans (h0.mono X3.out.size))
        have O34 := hid ((O3.out.below h0).mono h0.size)
        have O4 := hid hO.rd
        obtain ⟨A4, c4, rfl, -⟩ := hO.rd.len
        clear hO h0 HC X3 O3 y0 y1 y2 y3
        obtain ⟨y0, y1, y2, y3⟩ := HBOX.out _ X4.out
        simp only
        by_cases hc : c = 0
        · by_cases hd : d = 0
          · obtain ⟨P, e, hla, hlb, Q0, Q1⟩ := HP2.out hc hd
            have HQ0 := hid (Q0 w4 _ _ O34.out ((HRB.out.below X4.out).mono X4.out.size))
            have HQ1 := hid Q1
            subst hc hd
            have ea : ((a.length : Int) == 0) = false := by rw [beq_eq_false_iff_ne]; omega
            have eb : ((b.length : Int) == 0) = false := by rw [beq_eq_false_iff_ne]; omega
            clear Q0 Q1 HP2 hla hlb
            go_wp2_with fail
            refine (HQ0.out).mono ?_
            rintro e w5 ⟨v5, rfl, hO, h0⟩
            have X5 := hid (X4.out.trans (h0.mono X4.out.size))
            have O45 := hid ((O4.out.below h0).mono h0.size)
            have O5 := hid hO.rd
            obtain ⟨A5, c5, rfl, -⟩ := hO.rd.len
            clear hO h0 HQ0 X4 O34 O4 y0 y1 y2 y3
            obtain ⟨y0, y1, y2, y3⟩ := HBOX.out _ X5.out
            have HC := hid (HQ1.out w5 _ _ O45.out ((HRA.out.below X5.out).mono X5.out.size))
            clear HQ1
            go_wp2_with fail
            refine (HC.out).mono ?_
            rintro e w6 ⟨v6, rfl, hO, h0⟩
            have X6 := hid (X5.out.trans (h0.mono X5.out.size))
            have O56 := hid ((O5.out.below h0).mono h0.size)
            have O6 := hid hO.rd
            obtain ⟨A6, c6, rfl, -⟩ := hO.rd.len
            clear hO h0 HC X5 O5 O45 y0 y1 y2 y3 ea eb
            simp only
            by_cases he : e = 0
            · subst he
              have HAL2 := hid (HAL.out w6)
              go_wp2_with fail
              refine (HAL2.out).mono ?_
              rintro e w7 ⟨rfl, h0⟩
              have X7 := hid (X6.out.trans (h0.mono X6.out.size))
              have HC := hid (one_any P P _ _ w7 ((O56.out.below h0).mono h0.size) ((O6.out.below h0).mono h0.size))
              rw [decide_eq_true rfl] at HC
              clear h0 HAL2 X6 O56 O6
              go_wp2_with fail
              refine (HC.out).mono ?_
              rintro e w8 ⟨rfl, h0⟩
              have X8 := hid (HB0.out.trans ((X7.out.trans (h0.mono X7.out.size)).mono HB0.out.size))
              clear h0
              go_wp2_with fail
              go_ret
              exact ⟨rfl, X8.out⟩
            · have en : (e != 0) = true := by simpa using he
              have HAL2 := hid (HAL.out w6)
              go_wp2_with fail
              refine (HAL2.out).mono ?_
              rintro e w7 ⟨rfl, h0⟩
              have X7 := hid (HB0.out.trans ((X6.out.trans (h0.mono X6.out.size)).mono HB0.out.size))
              clear h0 HAL2
              go_wp2_with fail
              go_ret
              exact ⟨rfl, X7.out⟩
          · have dn : (d != 0) = true := by simpa using hd
            subst hc
            clear HP2
            go_wp2_with fail
            refine (HAL.out _).mono ?_
            rintro e w99 ⟨rfl, h0⟩
            have X99 := hid (HB0.out.trans ((X4.out.trans (h0.mono X4.out.size)).mono HB0.out.size))
            clear h0
            go_wp2_with fail
            go_ret
            exact ⟨rfl, X99.out⟩
        · have cn : (c != 0) = true := by simpa using hc
          clear HP2
          go_wp2_with fail
          refine (HAL.out _).mono ?_
          rintro e w99 ⟨rfl, h0⟩
          have X99 := hid (HB0.out.trans ((X4.out.trans (h0.mono X4.out.size)).mono HB0.out.size))
          clear h0
          go_wp2_with fail
          go_ret
          exact ⟨rfl, X99.out⟩

end Go.Proofs.Ytkkigdbinnfbfaa.termTwo
