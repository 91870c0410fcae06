/-
  AssignTwice is true for any type, any expression, any two rows of choices. No conditions.
-/
import Derived.Test.YtmcdggjcpfkchaaRows
import Derived.Test.YtmcdggjcpfkchaaAgF
import Derived.Test.YtmcdggjcpfkchaaAgLq
import Derived.Test.YtmcdggjcpfkchaaAgW
import Derived.Test.YtmcdggjcpfkchaaAgL2
import Derived.BigQuiet
import Derived.IntWalk
import Derived.Deep.RegionHeld3
import Derived.Maps.AppendAt
namespace Go.Proofs.Ytmcdggjcpfkchaa.assignTwice
open Go.ChangeShapes Go.WideShapes Go.ChangeAt Go.RowKit

theorem own : ownKnob Try.prog.godebug = none := by kernel_rfl

abbrev Post (w : World) (e : Ending) (w' : World) : Prop := e = .returned (.bool true) ∧ Below w.heap.size w w'

set_option maxHeartbeats 32000000 in
set_option maxRecDepth 1000000 in
theorem twice_true {W : World} (v0 : Value) (t : List L.Nd) (hx : Rd W W.heap.size v0 t) (hn0 : ∀ y ∈ t, y.n ≤ 9223372036854775807 ∧ y.name.size ≤ 9223372036854775807) (v1 : Value) (l : List E.Pt) (hx1 : RdP W W.heap.size v1 l) (hn1 : ∀ y ∈ l, NumP y) (va vb : Value) (ca cb : List L.Ch) (hca : RdC W W.heap.size va ca) (hcb : RdC W W.heap.size vb cb) (hna : ∀ c ∈ ca, c.site ≤ 9223372036854775807 ∧ ∀ y ∈ c.t, y.n ≤ 9223372036854775807 ∧ y.name.size ≤ 9223372036854775807) (hnb : ∀ c ∈ cb, c.site ≤ 9223372036854775807 ∧ ∀ y ∈ c.t, y.n ≤ 9223372036854775807 ∧ y.name.size ≤ 9223372036854775807) :
    Calls Try.prog 5 #[v0, v1, .agg #[va, vb]] W (Post W) := by
  obtain ⟨W0, hW0⟩ : ∃ W0, W.alloc (.cells #[va, vb] 42) = W0 := ⟨_, rfl⟩
  have B0 : Below W.heap.size W W0 := hW0 ▸ below_new _
  have s0 : W0.heap.size = W.heap.size + 1 := by rw [← hW0]; simp
  have q0 : W0.cell? ⟨W.heap.size, 0, none⟩ = some va := by rw [← hW0]; exact (heap_cell (heap_alloc_new W _) 0).trans rfl
  have q1 : W0.cell? ⟨W.heap.size, 1, none⟩ = some vb := by rw [← hW0]; exact (heap_cell (heap_alloc_new W _) 1).trans rfl
  have HW0 := hid hW0
  have HB0 := hid B0
  have HX := hid ((hx.low B0).mono B0.size)
  have HX1 := hid (rdp_below hx1 B0)
  have HCA := hid ((hca.below B0).mono B0.size)
  have HCB := hid ((hcb.below B0).mono B0.size)
  have HN0 := hid hn0
  have HN1 := hid hn1
  have HNA := hid hna
  have HNB := hid hnb
  have HAL := hid (fun w => alive_any w)
  obtain ⟨A, cap, rfl, -⟩ := hx
  obtain ⟨A1, cap1, rfl, -⟩ := hx1
  obtain ⟨Aa, ka, rfl, -⟩ := hca
  obtain ⟨Ab, kb, rfl, -⟩ := hcb
  have HBOX := hid (fun (V : World) (hV : Below W0.heap.size W0 V) => And.intro ((hV.cell (p := ⟨W.heap.size, 0, none⟩) (show W.heap.size < W0.heap.size by omega)).trans q0) ((hV.cell (p := ⟨W.heap.size, 1, none⟩) (show W.heap.size < W0.heap.size by omega)).trans q1))
  have HP : Hid (Calls Try.prog 10 #[.slice A t.length cap, .int .i64 60] W0 fun e w' => e = .returned (.bool (L.good 60 t)) ∧ Below W0.heap.size W0 w') := hid (plain7_any t 60 (by omega) _ W0 HX.out)
  clear hn0 hn1 hna hnb hW0 B0 q0 q1
  go_enter Try.func5, Try.ntmps5
  go_wp2_with fail
  rw [HW0.out]
  refine (HP.out).mono ?_
  rintro e w1 ⟨rfl, h0⟩
  have X1 := hid h0
  obtain ⟨y0, y1⟩ := HBOX.out w1 X1.out
  clear h0 HP
  obtain ⟨b1, hb1⟩ : ∃ b, L.good 60 t = b := ⟨_, rfl⟩
  have V1 := hid hb1
  rw [hb1]
  clear hb1
  cases b1 with
  | false =>
    go_wp2_with fail
    refine (HAL.out _).mono ?_
    rintro e w99 ⟨rfl, h0⟩
    have X99 := hid (HB0.out.trans ((X1.out.trans (h0.mono X1.out.size)).mono HB0.out.size))
    clear h0
    go_wp2_with fail
    go_ret
    exact ⟨rfl, X99.out⟩
  | true =>
    have HF : Hid (Calls Try.prog 11 #[.slice Aa ca.length ka, .int .i64 20] w1 fun e w' => e = .returned (.bool (L.fewC 20 ca)) ∧ Below w1.heap.size w1 w') := hid (fewC_any ca 20 (by omega) _ w1 ((HCA.out.below X1.out).mono X1.out.size))
    go_wp2_with fail
    refine (HF.out).mono ?_
    rintro e w2 ⟨rfl, h0⟩
    have X2 := hid (X1.out.trans (h0.mono X1.out.size))
    clear h0 HF X1 y0 y1
    obtain ⟨y0, y1⟩ := HBOX.out w2 X2.out
    obtain ⟨b2, hb2⟩ : ∃ b, L.fewC 20 ca = b := ⟨_, rfl⟩
    have V2 := hid hb2
    rw [hb2]
    clear hb2
    cases b2 with
    | false =>
      go_wp2_with fail
      refine (HAL.out _).mono ?_
      rintro e w99 ⟨rfl, h0⟩
      have X99 := hid (HB0.out.trans ((X2.out.trans (h0.mono X2.out.size)).mono HB0.out.size))
      clear h0
      go_wp2_with fail
      go_ret
      exact ⟨rfl, X99.out⟩
    | true =>
      have HF : Hid (Calls Try.prog 11 #[.slice Ab cb.length kb, .int .i64 20] w2 fun e w' => e = .returned (.bool (L.fewC 20 cb)) ∧ Below w2.heap.size w2 w') := hid (fewC_any cb 20 (by omega) _ w2 ((HCB.out.below X2.out).mono X2.out.size))
      go_wp2_with fail
      refine (HF.out).mono ?_
      rintro e w3 ⟨rfl, h0⟩
      have X3 := hid (X2.out.trans (h0.mono X2.out.size))
      clear h0 HF X2 y0 y1
      have HG : Hid (Calls Try.prog 12 #[.slice A1 l.length cap1, .int .i64 60] w3 fun e w' => e = .returned (.bool (E.fewL l 60)) ∧ w' = w3) := hid (rfew_any l 60 (by omega) _ w3 (rdp_below HX1.out X3.out))
      obtain ⟨b3, hb3⟩ : ∃ b, L.fewC 20 cb = b := ⟨_, rfl⟩
      have V3 := hid hb3
      rw [hb3]
      clear hb3
      cases b3 with
      | false =>
        go_wp2_with fail
        refine (HAL.out _).mono ?_
        rintro e w99 ⟨rfl, h0⟩
        have X99 := hid (HB0.out.trans ((X3.out.trans (h0.mono X3.out.size)).mono HB0.out.size))
        clear h0
        go_wp2_with fail
        go_ret
        exact ⟨rfl, X99.out⟩
      | true =>
        go_wp2_with fail
        refine (HG.out).mono ?_
        rintro e w4 ⟨rfl, rfl⟩
        clear HG
        obtain ⟨b4, hb4⟩ : ∃ b, E.fewL l 60 = b := ⟨_, rfl⟩
        have V4 := hid hb4
        rw [hb4]
        clear hb4
        cases b4 with
        | false =>
          go_wp2_with fail
          refine (HAL.out _).mono ?_
          rintro e w99 ⟨rfl, h0⟩
          have X99 := hid (HB0.out.trans ((X3.out.trans (h0.mono X3.out.size)).mono HB0.out.size))
          clear h0
          go_wp2_with fail
          go_ret
          exact ⟨rfl, X99.out⟩
        | true =>
          obtain ⟨hll, hfew⟩ := fewL_parts V4.out
          have HR := hid (raright_any l (fun x hx => E.small_of_few (hfew x hx)) _ w4 (rdp_below HX1.out X3.out))
          have HFEW := hid hfew
          clear hfew
          go_wp2_with fail
          refine (HR.out).mono ?_
          rintro e w5 ⟨rfl, h0⟩
          have X5 := hid (X3.out.trans (h0.mono X3.out.size))
          clear h0 HR X3
          obtain ⟨b5, hb5⟩ : ∃ b, E.rightL l = b := ⟨_, rfl⟩
          have V5 := hid hb5
          rw [hb5]
          clear hb5
          cases b5 with
          | false =>
            go_wp2_with fail
            refine (HAL.out _).mono ?_
            rintro e w99 ⟨rfl, h0⟩
            have X99 := hid (HB0.out.trans ((X5.out.trans (h0.mono X5.out.size)).mono HB0.out.size))
            clear h0
            go_wp2_with fail
            go_ret
            exact ⟨rfl, X99.out⟩
          | true =>
            obtain ⟨hasa, hra, hla⟩ := few_asg V2.out (by omega) (fun c hc => (HNA.out c hc).1)
            obtain ⟨hasb, hrb, hlb⟩ := few_asg V3.out (by omega) (fun c hc => (HNB.out c hc).1)
            obtain ⟨hg1, hg2, hg3, -⟩ := good_parts V1.out
            have HASA := hid hasa
            have HASB := hid hasb
            have HRA := hid hra
            have HSA := hid (show ∀ c ∈ ca, L.staticL c.t = true from asg_static (fewC_asg V2.out))
            have HWF := hid (show Wf t from fun x hx => by
              have h1 := L.n_pos (L.numbered_right hg3 x hx)
              exact ⟨by omega, (HN0.out x hx).1⟩)
            have hlne : l ≠ [] := by
              intro e
              have := V5.out
              rw [e] at this
              cases this
            have hlt5 : ∀ p ∈ l, p.t.length ≤ 60 ∧ p.u.length ≤ 60 := by
              intro p hp
              exact few_types (HFEW.out p hp)
            have HEX := hid (show ExOk l from ⟨hlne, by omega, fun p hp => by have := hlt5 p hp; omega, fun p hp => HN1.out p hp⟩)
            have HWF2 := hid (show Wf (L.fillL ca t) from wf_fill HWF.out (fun c hc y hy => ⟨L.n_pos (L.numbered_right (HRA.out c hc) y hy), ((HNA.out c hc).2 y hy).1⟩))
            have hft : (L.fillL ca t).length ≤ 5000 := by have := L.fillL_len HASA.out.l60 t; omega
            have HEX2 := hid (show ExOk (E.fillE ca l) from exok_fill HEX.out HASA.out hlt5 (fun c hc y hy => ⟨L.n_pos (L.numbered_right (HRA.out c hc) y hy), ((HNA.out c hc).2 y hy).1⟩))
            obtain ⟨j0, hj0, hk0, hk1, hk2⟩ := info_parts infoChoice
            have HO0 := hid (show (w5.alloc (.cells #[] 27)).ownsRow w5.heap.size 27 2 (.slice (some ⟨w5.heap.size, 0, none⟩) 0 0) 0 (cellsC []) from World.ownsRow_lit w5 #[] 0 (Nat.le_refl _) (by decide) rfl)
            have HBL := hid (below_new (w := w5) (.cells #[] 27))
            obtain ⟨y0, y1⟩ := HBOX.out _ (X5.out.trans (HBL.out.mono X5.out.size))
            clear hasa hasb hra hrb hg2 hg3 hlne hlt5
            go_wp2_with fail
            go_loopw [7, 8, 9] (fun vB vi vk wr => ∃ (i k m c g : Nat) (ys : List (L.Ch × Value)), vB = .slice (some ⟨g, 0, none⟩) m c ∧ vi = .int .i64 i ∧ vk = .int .i64 k ∧ i ≤ ca.length ∧ k ≤ cb.length ∧ m = i + k ∧ Hid (L.Mg ca cb i k (ys.map (·.1))) ∧ Hid (wr.ownsRow w5.heap.size 27 2 (.slice (some ⟨g, 0, none⟩) m c) m (cellsC ys)) ∧ Hid (∀ y ∈ ys, Rd W0 W0.heap.size y.2 y.1.t) ∧ Below w5.heap.size w5 wr) (fun _ vi vk _ => ca.length + cb.length - (intOf vi).toNat - (intOf vk).toNat)
            case atStart => exact ⟨0, 0, 0, 0, w5.heap.size, [], rfl, rfl, rfl, by omega, by omega, rfl, hid (L.mg_zero ca cb), HO0, hid (by simp), HBL.out⟩
            case round =>
              clear HO0 HBL y0 y1
              obtain ⟨i, k, m, c, g, ys, rfl, rfl, rfl, hi, hk, rfl, hM, hO, hY, hbel⟩ := hrel
              obtain ⟨wo, hwo⟩ : ∃ wo : World, wo = wr := ⟨_, rfl⟩
              subst hwo
              have hsz := hbel.size
              have HBO := hid (X5.out.trans (hbel.mono X5.out.size))
              have HB := hid hbel
              obtain ⟨y0, y1⟩ := HBOX.out wo HBO.out
              clear hbel
              have HO := hid hO.out
              have HYY := hid hY.out
              have HMM := hid hM.out
              clear hO hY hM
              by_cases hal : i < ca.length
              · have haz : (i : Int) < (ca.length : Int) := by omega
                obtain ⟨ba, oa, qa, Aat, cat, hv, hba, za0, za1, ra⟩ := HCA.out.at_ (Below.refl _ _) (show i < ca.length from hal)
                simp only [Value.slice.injEq, true_and] at hv
                obtain ⟨rfl, rfl⟩ := hv
                obtain ⟨Sa, hSa⟩ : ∃ S, ca[i].site = S := ⟨_, rfl⟩
                obtain ⟨Ta, hTa⟩ : ∃ T, ca[i].t.length = T := ⟨_, rfl⟩
                rw [hSa] at za0
                have HRa := hid ra
                rw [hTa] at za1 HRa
                have HZa := hid (fun (V : World) (hV : Below W0.heap.size W0 V) => And.intro ((hV.cell (p := ⟨ba, oa + i * 2, none⟩) hba).trans za0) ((hV.cell (p := ⟨ba, oa + i * 2 + 1, none⟩) hba).trans za1))
                have HSa := hid hSa
                clear ra hTa za0 za1
                by_cases hbl : k < cb.length
                · have hbz : (k : Int) < (cb.length : Int) := by omega
                  have hbd : decide (cb.length ≤ k) = false := decide_eq_false (by omega)
                  obtain ⟨bb, ob, qb, Abt, cbt, hv, hbb, zb0, zb1, rb⟩ := HCB.out.at_ (Below.refl _ _) (show k < cb.length from hbl)
                  simp only [Value.slice.injEq, true_and] at hv
                  obtain ⟨rfl, rfl⟩ := hv
                  obtain ⟨Sb, hSb⟩ : ∃ S, cb[k].site = S := ⟨_, rfl⟩
                  obtain ⟨Tb, hTb⟩ : ∃ T, cb[k].t.length = T := ⟨_, rfl⟩
                  rw [hSb] at zb0
                  have HRb := hid rb
                  rw [hTb] at zb1 HRb
                  have HZb := hid (fun (V : World) (hV : Below W0.heap.size W0 V) => And.intro ((hV.cell (p := ⟨bb, ob + k * 2, none⟩) hbb).trans zb0) ((hV.cell (p := ⟨bb, ob + k * 2 + 1, none⟩) hbb).trans zb1))
                  have HSb := hid hSb
                  clear rb hTb zb0 zb1
                  obtain ⟨xa0, xa1⟩ := HZa.out wo HBO.out
                  obtain ⟨xb0, xb1⟩ := HZb.out wo HBO.out
                  by_cases heq : Sa = Sb
                  · have hz : (Sa == Sb) = true := by simpa using heq
                    subst heq
                    go_wp2_with fail
                    go_quiet (fail)
                    obtain ⟨wq, hwq⟩ : ∃ wq, wo.drewN nq = wq := ⟨_, rfl⟩
                    have HBwq := hid (show Below w5.heap.size w5 wq from hwq ▸ HB.out.trans ((drew_b _ _ _).mono (Nat.le_refl _)))
                    have HXwq := hid (X5.out.trans (HBwq.out.mono X5.out.size))
                    have HOwq := hid (show wq.ownsRow w5.heap.size 27 2 (.slice (some ⟨g, 0, none⟩) (i + k) c) (i + k) (cellsC ys) from hwq ▸ HO.out)
                    rw [hwq]
                    clear hwq y0 y1 xa0 xa1 xb0 xb1
                    obtain ⟨y0, y1⟩ := HBOX.out wq HXwq.out
                    obtain ⟨xa0, xa1⟩ := HZa.out wq HXwq.out
                    obtain ⟨xb0, xb1⟩ := HZb.out wq HXwq.out
                    go_wp2_with fail
                    refine (HAL.out _).mono ?_
                    rintro e w99 ⟨rfl, h0⟩
                    have X99 := hid (HB0.out.trans ((HXwq.out.trans (h0.mono HXwq.out.size)).mono HB0.out.size))
                    clear h0
                    go_wp2_with fail
                    go_ret
                    exact ⟨rfl, X99.out⟩
                  · have hz : (Sa == Sb) = false := by simpa using heq
                    by_cases hlt : Sa < Sb
                    · have hzd : decide (Sa < Sb) = true := decide_eq_true hlt
                      have HMN := hid (L.mg_a HASA.out.up HMM.out hal (fun h => by have := HSa.out; have := HSb.out; omega))
                      clear heq hlt
                      go_wp2_with fail
                      go_quiet (fail)
                      obtain ⟨wq, hwq⟩ : ∃ wq, wo.drewN nq = wq := ⟨_, rfl⟩
                      have HBwq := hid (show Below w5.heap.size w5 wq from hwq ▸ HB.out.trans ((drew_b _ _ _).mono (Nat.le_refl _)))
                      have HXwq := hid (X5.out.trans (HBwq.out.mono X5.out.size))
                      have HOwq := hid (show wq.ownsRow w5.heap.size 27 2 (.slice (some ⟨g, 0, none⟩) (i + k) c) (i + k) (cellsC ys) from hwq ▸ HO.out)
                      rw [hwq]
                      clear hwq y0 y1 xa0 xa1 xb0 xb1
                      obtain ⟨y0, y1⟩ := HBOX.out wq HXwq.out
                      obtain ⟨xa0, xa1⟩ := HZa.out wq HXwq.out
                      obtain ⟨xb0, xb1⟩ := HZb.out wq HXwq.out
                      go_wp2_with fail
                      go_quiet (fail)
                      obtain ⟨wp, hwp⟩ : ∃ wp, wq.drewN nq = wp := ⟨_, rfl⟩
                      have HBwp := hid (show Below w5.heap.size w5 wp from hwp ▸ HBwq.out.trans ((drew_b _ _ _).mono (Nat.le_refl _)))
                      have HXwp := hid (X5.out.trans (HBwp.out.mono X5.out.size))
                      have HOwp := hid (show wp.ownsRow w5.heap.size 27 2 (.slice (some ⟨g, 0, none⟩) (i + k) c) (i + k) (cellsC ys) from hwp ▸ HOwq.out)
                      rw [hwp]
                      clear hwp y0 y1 xa0 xa1 xb0 xb1
                      obtain ⟨y0, y1⟩ := HBOX.out wp HXwp.out
                      obtain ⟨xa0, xa1⟩ := HZa.out wp HXwp.out
                      obtain ⟨xb0, xb1⟩ := HZb.out wp HXwp.out
                      have HYS := hid (cellsC_snoc ys (ca[i], Value.slice Aat Ta cat))
                      rw [show ((ca[i], Value.slice Aat Ta cat) : L.Ch × Value).1.site = Sa from HSa.out] at HYS
                      have HYR := hid (show ∀ y ∈ ys ++ [(ca[i], Value.slice Aat Ta cat)], Rd W0 W0.heap.size y.2 y.1.t from fun y hy => by
                        rcases List.mem_append.1 hy with h1 | h1
                        · exact HYY.out y h1
                        · rw [List.mem_singleton] at h1
                          rw [h1]; exact HRa.out)
                      have HM2 := hid (show L.Mg ca cb (i + 1) (k) ((ys ++ [(ca[i], Value.slice Aat Ta cat)]).map (·.1)) from by
                        rw [List.map_append]
                        exact HMN.out)
                      have HONE := hid (ch_one Sa Aat Ta cat)
                      have hs9 := HBwp.out.size
                      go_wp2_with (
                        at_builtin
                        refine wpList_append_own_at _ rfl _ _ 22 rfl w5.heap.size 27 j0 (.agg #[.int .i64 0, .slice none 0 0]) 2 32 Try.underlying22 hj0 hk0 hk1 hk2 rfl (by decide) _ _ _ rfl (World.ownsRow.alloc HOwp.out _) ⟨wp.heap.size, 0, none⟩ 1 1 [.int .i64 Sa, .slice Aat Ta cat] rfl rfl (cells_new2 _ _ _ _) HONE.out (by unfold maxLen; omega) (by omega) (by simp; omega) ?_
                        intro v9 w9 hown hgrow hnil hloc
                        obtain ⟨g9, c9, rfl⟩ := row_succ hown
                        have HB9 := hid ((HBwp.out.alloc hs9 (.cells #[.int .i64 Sa, .slice Aat Ta cat] 27)).grown hgrow (by simp; omega) (fun q hq => (World.ownsRow.lt HOwp.out q hq).1))
                        have HO9 := hid hown
                        obtain ⟨y0', y1'⟩ := HBOX.out w9 (X5.out.trans (HB9.out.mono X5.out.size))
                        clear hown hgrow hnil hloc)
                      go_roundw
                      case rel => exact ⟨i + 1, k, i + k + 1, c9, g9, ys ++ [(ca[i], Value.slice Aat Ta cat)], rfl, by go_num, by go_num, by omega, by omega, by omega, HM2, hid (by rw [HYS.out]; exact HO9.out), HYR, HB9.out⟩
                      case measure => simp [intOf] <;> omega
                    · have hzd : decide (Sa < Sb) = false := decide_eq_false hlt
                      have HMN := hid (L.mg_b HASB.out.up HMM.out hbl (fun h => by have := HSa.out; have := HSb.out; omega))
                      clear heq hlt
                      go_wp2_with fail
                      go_quiet (fail)
                      obtain ⟨wq, hwq⟩ : ∃ wq, wo.drewN nq = wq := ⟨_, rfl⟩
                      have HBwq := hid (show Below w5.heap.size w5 wq from hwq ▸ HB.out.trans ((drew_b _ _ _).mono (Nat.le_refl _)))
                      have HXwq := hid (X5.out.trans (HBwq.out.mono X5.out.size))
                      have HOwq := hid (show wq.ownsRow w5.heap.size 27 2 (.slice (some ⟨g, 0, none⟩) (i + k) c) (i + k) (cellsC ys) from hwq ▸ HO.out)
                      rw [hwq]
                      clear hwq y0 y1 xa0 xa1 xb0 xb1
                      obtain ⟨y0, y1⟩ := HBOX.out wq HXwq.out
                      obtain ⟨xa0, xa1⟩ := HZa.out wq HXwq.out
                      obtain ⟨xb0, xb1⟩ := HZb.out wq HXwq.out
                      go_wp2_with fail
                      go_quiet (fail)
                      obtain ⟨wp, hwp⟩ : ∃ wp, wq.drewN nq = wp := ⟨_, rfl⟩
                      have HBwp := hid (show Below w5.heap.size w5 wp from hwp ▸ HBwq.out.trans ((drew_b _ _ _).mono (Nat.le_refl _)))
                      have HXwp := hid (X5.out.trans (HBwp.out.mono X5.out.size))
                      have HOwp := hid (show wp.ownsRow w5.heap.size 27 2 (.slice (some ⟨g, 0, none⟩) (i + k) c) (i + k) (cellsC ys) from hwp ▸ HOwq.out)
                      rw [hwp]
                      clear hwp y0 y1 xa0 xa1 xb0 xb1
                      obtain ⟨y0, y1⟩ := HBOX.out wp HXwp.out
                      obtain ⟨xa0, xa1⟩ := HZa.out wp HXwp.out
                      obtain ⟨xb0, xb1⟩ := HZb.out wp HXwp.out
                      have HYS := hid (cellsC_snoc ys (cb[k], Value.slice Abt Tb cbt))
                      rw [show ((cb[k], Value.slice Abt Tb cbt) : L.Ch × Value).1.site = Sb from HSb.out] at HYS
                      have HYR := hid (show ∀ y ∈ ys ++ [(cb[k], Value.slice Abt Tb cbt)], Rd W0 W0.heap.size y.2 y.1.t from fun y hy => by
                        rcases List.mem_append.1 hy with h1 | h1
                        · exact HYY.out y h1
                        · rw [List.mem_singleton] at h1
                          rw [h1]; exact HRb.out)
                      have HM2 := hid (show L.Mg ca cb (i) (k + 1) ((ys ++ [(cb[k], Value.slice Abt Tb cbt)]).map (·.1)) from by
                        rw [List.map_append]
                        exact HMN.out)
                      have HONE := hid (ch_one Sb Abt Tb cbt)
                      have hs9 := HBwp.out.size
                      go_wp2_with (
                        at_builtin
                        refine wpList_append_own_at _ rfl _ _ 22 rfl w5.heap.size 27 j0 (.agg #[.int .i64 0, .slice none 0 0]) 2 32 Try.underlying22 hj0 hk0 hk1 hk2 rfl (by decide) _ _ _ rfl (World.ownsRow.alloc HOwp.out _) ⟨wp.heap.size, 0, none⟩ 1 1 [.int .i64 Sb, .slice Abt Tb cbt] rfl rfl (cells_new2 _ _ _ _) HONE.out (by unfold maxLen; omega) (by omega) (by simp; omega) ?_
                        intro v9 w9 hown hgrow hnil hloc
                        obtain ⟨g9, c9, rfl⟩ := row_succ hown
                        have HB9 := hid ((HBwp.out.alloc hs9 (.cells #[.int .i64 Sb, .slice Abt Tb cbt] 27)).grown hgrow (by simp; omega) (fun q hq => (World.ownsRow.lt HOwp.out q hq).1))
                        have HO9 := hid hown
                        obtain ⟨y0', y1'⟩ := HBOX.out w9 (X5.out.trans (HB9.out.mono X5.out.size))
                        clear hown hgrow hnil hloc)
                      go_roundw
                      case rel => exact ⟨i, k + 1, i + k + 1, c9, g9, ys ++ [(cb[k], Value.slice Abt Tb cbt)], rfl, by go_num, by go_num, by omega, by omega, by omega, HM2, hid (by rw [HYS.out]; exact HO9.out), HYR, HB9.out⟩
                      case measure => simp [intOf] <;> omega
                · have hbz : ¬ (k : Int) < (cb.length : Int) := by omega
                  have hbd : decide (cb.length ≤ k) = true := decide_eq_true (by omega)
                  have hbn : decide (k < cb.length) = false := decide_eq_false (by omega)
                  have HMN := hid (L.mg_a HASA.out.up HMM.out hal (fun h => absurd h hbl))
                  obtain ⟨xa0, xa1⟩ := HZa.out wo HBO.out
                  go_wp2_with fail
                  go_quiet (fail)
                  obtain ⟨wq, hwq⟩ : ∃ wq, wo.drewN nq = wq := ⟨_, rfl⟩
                  have HBwq := hid (show Below w5.heap.size w5 wq from hwq ▸ HB.out.trans ((drew_b _ _ _).mono (Nat.le_refl _)))
                  have HXwq := hid (X5.out.trans (HBwq.out.mono X5.out.size))
                  have HOwq := hid (show wq.ownsRow w5.heap.size 27 2 (.slice (some ⟨g, 0, none⟩) (i + k) c) (i + k) (cellsC ys) from hwq ▸ HO.out)
                  rw [hwq]
                  clear hwq y0 y1 xa0 xa1
                  obtain ⟨y0, y1⟩ := HBOX.out wq HXwq.out
                  obtain ⟨xa0, xa1⟩ := HZa.out wq HXwq.out
                  go_wp2_with fail
                  go_quiet (fail)
                  obtain ⟨wp, hwp⟩ : ∃ wp, wq.drewN nq = wp := ⟨_, rfl⟩
                  have HBwp := hid (show Below w5.heap.size w5 wp from hwp ▸ HBwq.out.trans ((drew_b _ _ _).mono (Nat.le_refl _)))
                  have HXwp := hid (X5.out.trans (HBwp.out.mono X5.out.size))
                  have HOwp := hid (show wp.ownsRow w5.heap.size 27 2 (.slice (some ⟨g, 0, none⟩) (i + k) c) (i + k) (cellsC ys) from hwp ▸ HOwq.out)
                  rw [hwp]
                  clear hwp y0 y1 xa0 xa1
                  obtain ⟨y0, y1⟩ := HBOX.out wp HXwp.out
                  obtain ⟨xa0, xa1⟩ := HZa.out wp HXwp.out
                  have HYS := hid (cellsC_snoc ys (ca[i], Value.slice Aat Ta cat))
                  rw [show ((ca[i], Value.slice Aat Ta cat) : L.Ch × Value).1.site = Sa from HSa.out] at HYS
                  have HYR := hid (show ∀ y ∈ ys ++ [(ca[i], Value.slice Aat Ta cat)], Rd W0 W0.heap.size y.2 y.1.t from fun y hy => by
                    rcases List.mem_append.1 hy with h1 | h1
                    · exact HYY.out y h1
                    · rw [List.mem_singleton] at h1
                      rw [h1]; exact HRa.out)
                  have HM2 := hid (show L.Mg ca cb (i + 1) (k) ((ys ++ [(ca[i], Value.slice Aat Ta cat)]).map (·.1)) from by
                    rw [List.map_append]
                    exact HMN.out)
                  have HONE := hid (ch_one Sa Aat Ta cat)
                  have hs9 := HBwp.out.size
                  go_wp2_with (
                    at_builtin
                    refine wpList_append_own_at _ rfl _ _ 22 rfl w5.heap.size 27 j0 (.agg #[.int .i64 0, .slice none 0 0]) 2 32 Try.underlying22 hj0 hk0 hk1 hk2 rfl (by decide) _ _ _ rfl (World.ownsRow.alloc HOwp.out _) ⟨wp.heap.size, 0, none⟩ 1 1 [.int .i64 Sa, .slice Aat Ta cat] rfl rfl (cells_new2 _ _ _ _) HONE.out (by unfold maxLen; omega) (by omega) (by simp; omega) ?_
                    intro v9 w9 hown hgrow hnil hloc
                    obtain ⟨g9, c9, rfl⟩ := row_succ hown
                    have HB9 := hid ((HBwp.out.alloc hs9 (.cells #[.int .i64 Sa, .slice Aat Ta cat] 27)).grown hgrow (by simp; omega) (fun q hq => (World.ownsRow.lt HOwp.out q hq).1))
                    have HO9 := hid hown
                    obtain ⟨y0', y1'⟩ := HBOX.out w9 (X5.out.trans (HB9.out.mono X5.out.size))
                    clear hown hgrow hnil hloc)
                  go_roundw
                  case rel => exact ⟨i + 1, k, i + k + 1, c9, g9, ys ++ [(ca[i], Value.slice Aat Ta cat)], rfl, by go_num, by go_num, by omega, by omega, by omega, HM2, hid (by rw [HYS.out]; exact HO9.out), HYR, HB9.out⟩
                  case measure => simp [intOf] <;> omega
              · have haz : ¬ (i : Int) < (ca.length : Int) := by omega
                have han : decide (i < ca.length) = false := decide_eq_false (by omega)
                by_cases hbl : k < cb.length
                · have hbz : (k : Int) < (cb.length : Int) := by omega
                  have hbd : decide (cb.length ≤ k) = false := decide_eq_false (by omega)
                  have HMN := hid (L.mg_b HASB.out.up HMM.out hbl (fun h => absurd h hal))
                  obtain ⟨bb, ob, qb, Abt, cbt, hv, hbb, zb0, zb1, rb⟩ := HCB.out.at_ (Below.refl _ _) (show k < cb.length from hbl)
                  simp only [Value.slice.injEq, true_and] at hv
                  obtain ⟨rfl, rfl⟩ := hv
                  obtain ⟨Sb, hSb⟩ : ∃ S, cb[k].site = S := ⟨_, rfl⟩
                  obtain ⟨Tb, hTb⟩ : ∃ T, cb[k].t.length = T := ⟨_, rfl⟩
                  rw [hSb] at zb0
                  have HRb := hid rb
                  rw [hTb] at zb1 HRb
                  have HZb := hid (fun (V : World) (hV : Below W0.heap.size W0 V) => And.intro ((hV.cell (p := ⟨bb, ob + k * 2, none⟩) hbb).trans zb0) ((hV.cell (p := ⟨bb, ob + k * 2 + 1, none⟩) hbb).trans zb1))
                  have HSb := hid hSb
                  clear rb hTb zb0 zb1
                  obtain ⟨xb0, xb1⟩ := HZb.out wo HBO.out
                  go_wp2_with fail
                  go_quiet (fail)
                  obtain ⟨wq, hwq⟩ : ∃ wq, wo.drewN nq = wq := ⟨_, rfl⟩
                  have HBwq := hid (show Below w5.heap.size w5 wq from hwq ▸ HB.out.trans ((drew_b _ _ _).mono (Nat.le_refl _)))
                  have HXwq := hid (X5.out.trans (HBwq.out.mono X5.out.size))
                  have HOwq := hid (show wq.ownsRow w5.heap.size 27 2 (.slice (some ⟨g, 0, none⟩) (i + k) c) (i + k) (cellsC ys) from hwq ▸ HO.out)
                  rw [hwq]
                  clear hwq y0 y1 xb0 xb1
                  obtain ⟨y0, y1⟩ := HBOX.out wq HXwq.out
                  obtain ⟨xb0, xb1⟩ := HZb.out wq HXwq.out
                  go_wp2_with fail
                  go_quiet (fail)
                  obtain ⟨wp, hwp⟩ : ∃ wp, wq.drewN nq = wp := ⟨_, rfl⟩
                  have HBwp := hid (show Below w5.heap.size w5 wp from hwp ▸ HBwq.out.trans ((drew_b _ _ _).mono (Nat.le_refl _)))
                  have HXwp := hid (X5.out.trans (HBwp.out.mono X5.out.size))
                  have HOwp := hid (show wp.ownsRow w5.heap.size 27 2 (.slice (some ⟨g, 0, none⟩) (i + k) c) (i + k) (cellsC ys) from hwp ▸ HOwq.out)
                  rw [hwp]
                  clear hwp y0 y1 xb0 xb1
                  obtain ⟨y0, y1⟩ := HBOX.out wp HXwp.out
                  obtain ⟨xb0, xb1⟩ := HZb.out wp HXwp.out
                  have HYS := hid (cellsC_snoc ys (cb[k], Value.slice Abt Tb cbt))
                  rw [show ((cb[k], Value.slice Abt Tb cbt) : L.Ch × Value).1.site = Sb from HSb.out] at HYS
                  have HYR := hid (show ∀ y ∈ ys ++ [(cb[k], Value.slice Abt Tb cbt)], Rd W0 W0.heap.size y.2 y.1.t from fun y hy => by
                    rcases List.mem_append.1 hy with h1 | h1
                    · exact HYY.out y h1
                    · rw [List.mem_singleton] at h1
                      rw [h1]; exact HRb.out)
                  have HM2 := hid (show L.Mg ca cb (i) (k + 1) ((ys ++ [(cb[k], Value.slice Abt Tb cbt)]).map (·.1)) from by
                    rw [List.map_append]
                    exact HMN.out)
                  have HONE := hid (ch_one Sb Abt Tb cbt)
                  have hs9 := HBwp.out.size
                  go_wp2_with (
                    at_builtin
                    refine wpList_append_own_at _ rfl _ _ 22 rfl w5.heap.size 27 j0 (.agg #[.int .i64 0, .slice none 0 0]) 2 32 Try.underlying22 hj0 hk0 hk1 hk2 rfl (by decide) _ _ _ rfl (World.ownsRow.alloc HOwp.out _) ⟨wp.heap.size, 0, none⟩ 1 1 [.int .i64 Sb, .slice Abt Tb cbt] rfl rfl (cells_new2 _ _ _ _) HONE.out (by unfold maxLen; omega) (by omega) (by simp; omega) ?_
                    intro v9 w9 hown hgrow hnil hloc
                    obtain ⟨g9, c9, rfl⟩ := row_succ hown
                    have HB9 := hid ((HBwp.out.alloc hs9 (.cells #[.int .i64 Sb, .slice Abt Tb cbt] 27)).grown hgrow (by simp; omega) (fun q hq => (World.ownsRow.lt HOwp.out q hq).1))
                    have HO9 := hid hown
                    obtain ⟨y0', y1'⟩ := HBOX.out w9 (X5.out.trans (HB9.out.mono X5.out.size))
                    clear hown hgrow hnil hloc)
                  go_roundw
                  case rel => exact ⟨i, k + 1, i + k + 1, c9, g9, ys ++ [(cb[k], Value.slice Abt Tb cbt)], rfl, by go_num, by go_num, by omega, by omega, by omega, HM2, hid (by rw [HYS.out]; exact HO9.out), HYR, HB9.out⟩
                  case measure => simp [intOf] <;> omega
                · have hbz : ¬ (k : Int) < (cb.length : Int) := by omega
                  have e1 : i = ca.length := by omega
                  have e2 : k = cb.length := by omega
                  subst e1
                  subst e2
                  have hM := HMM.out
                  obtain ⟨B, hB⟩ : ∃ B, ys.map (·.1) = B := ⟨_, rfl⟩
                  rw [hB] at hM
                  have hBl : ys.length = ca.length + cb.length := by
                    have := hM.len
                    rw [← hB, List.length_map] at this
                    exact this
                  have hfnd := L.mg_end hM
                  have hmemB : ∀ c ∈ B, c ∈ ca ∨ c ∈ cb := fun c hc => by
                    rcases hM.mem c hc with ⟨j, hj, -, rfl⟩ | ⟨j, hj, -, rfl⟩
                    · exact Or.inl (List.getElem_mem hj)
                    · exact Or.inr (List.getElem_mem hj)
                  have HASC := hid (show Asg B from ⟨hM.up, fun c hc => by
                      rcases hmemB c hc with h | h
                      · exact HASA.out.ne c h
                      · exact HASB.out.ne c h, fun c hc => by
                      rcases hmemB c hc with h | h
                      · exact HASA.out.l60 c h
                      · exact HASB.out.l60 c h, by rw [hM.len]; omega, fun c hc => by
                      rcases hmemB c hc with h | h
                      · exact HASA.out.wf c h
                      · exact HASB.out.wf c h⟩)
                  have HFT := hid (L.fill_twice HSA.out hfnd t)
                  have HFE := hid (E.fillE_twice HSA.out hfnd l)
                  have HRC := hid (show RdC wo wo.heap.size (.slice (some ⟨g, 0, none⟩) (ca.length + cb.length) c) B from by
                    have h := rdc_own (w := wo) (ys := ys) (g := g) (c := c) (B := w5.heap.size) (by rw [hBl]; exact HO.out) (fun y hy => ((HYY.out y hy).low HBO.out).mono HBO.out.size)
                    rw [hBl, hB] at h
                    exact h)
                  have hbxn : W.heap.size < W0.heap.size := by omega
                  have HT1 := hid (fun (V : World) (hV : Below W0.heap.size W0 V) => type_any ca HASA.out t (by omega) HWF.out _ _ V ((HX.out.low hV).mono hV.size) ((HCA.out.below hV).mono hV.size))
                  have HT2 := hid (fun (V : World) (hV : Below W0.heap.size W0 V) (v : Value) (hv : Rd V V.heap.size v (L.fillL ca t)) => type_any cb HASB.out (L.fillL ca t) hft HWF2.out v _ V hv ((HCB.out.below hV).mono hV.size))
                  have HE1 := hid (fun (V : World) (hV : Below W0.heap.size W0 V) => expr_any ca HASA.out l HEX.out _ _ V (rdp_below HX1.out hV) ((HCA.out.below hV).mono hV.size))
                  have HE2 := hid (fun (V : World) (hV : Below W0.heap.size W0 V) (v : Value) (hv : RdP V V.heap.size v (E.fillE ca l)) => expr_any cb HASB.out (E.fillE ca l) HEX2.out v _ V hv ((HCB.out.below hV).mono hV.size))
                  have X6 := hid HBO.out
                  clear hM hB hBl hfnd hmemB HMM HO HYY HB HBO y0 y1
                  obtain ⟨y0, y1⟩ := HBOX.out wo X6.out
                  go_wp2_with fail
                  go_region_held3 (fun w' => w'.cell? ⟨W.heap.size, 0, none⟩ = some (.slice Aa ca.length ka) ∧ w'.cell? ⟨W.heap.size, 1, none⟩ = some (.slice Ab cb.length kb)) (go_keep) (first
                    | (go_at_call_of 15 (Value.slice Aa ca.length ka)
                       refine (HT1.out _ ?_).mono ?_
                       exact ⟨X6.out.os, X6.out.tape, X6.out.output, X6.out.size, X6.out.block⟩
                       rintro e w7 ⟨u1, rfl, hO1, h0⟩
                       have H67 := hid (show Below wo.heap.size wo w7 from ⟨h0.os, h0.tape, h0.output, h0.size, h0.block⟩)
                       have X7 := hid (X6.out.trans (H67.out.mono X6.out.size))
                       obtain ⟨B1, d1, rfl, -⟩ := hO1.rd
                       have U1 := hid hO1.rd
                       have k0 := (HBOX.out w7 X7.out).1
                       have k1 := (HBOX.out w7 X7.out).2
                       clear h0 hO1)
                    | (go_at_call_of 15 (Value.slice Ab cb.length kb)
                       refine (HT2.out _ X7.out _ U1.out).mono ?_
                       rintro e w8 ⟨u2, rfl, hO2, h0⟩
                       have X8 := hid (X7.out.trans (h0.mono X7.out.size))
                       obtain ⟨B2, d2, rfl, -⟩ := hO2.rd
                       have U2 := hid hO2
                       have HRC8 := hid (show RdC w8 w8.heap.size (.slice (some ⟨g, 0, none⟩) (ca.length + cb.length) c) B from (HRC.out.below (H67.out.trans (h0.mono H67.out.size))).mono (Nat.le_trans H67.out.size h0.size))
                       have k0' := (HBOX.out w8 X8.out).1
                       have k1' := (HBOX.out w8 X8.out).2
                       clear h0 hO2))
                  have hle : (E.fillE ca l).length = l.length := by unfold E.fillE; rw [List.length_map]
                  have HLE := hid hle
                  have hbx8 := X8.out.size
                  clear HT1 HT2 U1 H67 X7 HRC X6 k0 k1 k0' k1' y0 y1 hle
                  obtain ⟨y0, y1⟩ := HBOX.out w8 X8.out
                  go_wp2_with fail
                  go_region_held3 (fun w' => w'.cell? ⟨W.heap.size, 0, none⟩ = some (.slice Aa ca.length ka) ∧ w'.cell? ⟨W.heap.size, 1, none⟩ = some (.slice Ab cb.length kb)) (go_keep) (first
                    | (go_at_call_of 18 (Value.slice Aa ca.length ka)
                       refine (HE1.out _ ?_).mono ?_
                       exact ⟨X8.out.os, X8.out.tape, X8.out.output, X8.out.size, X8.out.block⟩
                       rintro e w9 ⟨g1, q1, z1, rfl, hZ1, hz1l, hR1, h0⟩
                       have H89 := hid (show Below w8.heap.size w8 w9 from ⟨h0.os, h0.tape, h0.output, h0.size, h0.block⟩)
                       have X9 := hid (X8.out.trans (H89.out.mono X8.out.size))
                       have E1 := hid (show RdP w9 w9.heap.size (.slice (some ⟨g1, 0, none⟩) l.length q1) (E.fillE ca l) from by
                         have h := hR1.rdp (ne_of_len hz1l HEX.out.ne)
                         rw [hZ1, hz1l] at h
                         exact h)
                       have k0 := (HBOX.out w9 X9.out).1
                       have k1 := (HBOX.out w9 X9.out).2
                       clear h0 hR1 hZ1 hz1l)
                    | (go_at_call_of 18 (Value.slice Ab cb.length kb)
                       refine (HE2.out _ X9.out _ E1.out).mono ?_
                       rintro e w10 ⟨g2, q2, z2, rfl, hZ2, hz2l, hR2, h0⟩
                       have X10 := hid (X9.out.trans (h0.mono X9.out.size))
                       have H810 := hid (H89.out.trans (h0.mono H89.out.size))
                       have E2 := hid (show RdP w10 w10.heap.size (.slice (some ⟨g2, 0, none⟩) l.length q2) (E.fillE cb (E.fillE ca l)) from by
                         have h := hR2.rdp (ne_of_len hz2l HEX2.out.ne)
                         rw [hZ2, hz2l, HLE.out] at h
                         exact h)
                       have k0' := (HBOX.out w10 X10.out).1
                       have k1' := (HBOX.out w10 X10.out).2
                       rw [HLE.out]
                       clear h0 hR2 hZ2 hz2l))
                  have U10 := hid (U2.out.below H810.out).rd
                  have HRC10 := hid ((HRC8.out.below H810.out).mono H810.out.size)
                  clear HE1 HE2 E1 H89 X9 H810 U2 HRC8 X8 k0 k1 k0' k1' y0 y1
                  go_wp2_with fail
                  refine (HAL.out _).mono ?_
                  rintro e w11 ⟨rfl, h0⟩
                  have X11 := hid (X10.out.trans (h0.mono X10.out.size))
                  have U11 := hid ((U10.out.below h0).mono h0.size)
                  have E11 := hid (rdp_below E2.out h0)
                  have HRC11 := hid ((HRC10.out.below h0).mono h0.size)
                  have HT := hid (type_any B HASC.out t (by omega) HWF.out _ _ w11 ((HX.out.low X11.out).mono X11.out.size) HRC11.out)
                  clear h0 HAL U10 E2 HRC10 X10
                  go_wp2_with fail
                  refine (HT.out).mono ?_
                  rintro e w12 ⟨u3, rfl, hO3, h0⟩
                  obtain ⟨B3, d3, rfl, -⟩ := hO3.rd
                  have X12 := hid (X11.out.trans (h0.mono X11.out.size))
                  have E12 := hid (rdp_below E11.out h0)
                  have HRC12 := hid ((HRC11.out.below h0).mono h0.size)
                  have HO := hid (one_any (L.fillL cb (L.fillL ca t)) (L.fillL B t) _ _ w12 ((U11.out.below h0).mono h0.size) hO3.rd)
                  rw [show decide (L.fillL cb (L.fillL ca t) = L.fillL B t) = true from decide_eq_true HFT.out] at HO
                  clear h0 hO3 HT U11 E11 HRC11 X11
                  go_wp2_with fail
                  refine (HO.out).mono ?_
                  rintro e w13 ⟨rfl, h0⟩
                  have X13 := hid (X12.out.trans (h0.mono X12.out.size))
                  have E13 := hid (rdp_below E12.out h0)
                  have HRC13 := hid ((HRC12.out.below h0).mono h0.size)
                  have HT := hid (expr_any B HASC.out l HEX.out _ _ w13 (rdp_below HX1.out X13.out) HRC13.out)
                  clear h0 HO E12 HRC12 X12
                  go_wp2_with fail
                  refine (HT.out).mono ?_
                  rintro e w14 ⟨g3, q3, z3, rfl, hZ3, hz3l, hR3, h0⟩
                  have X14 := hid (X13.out.trans (h0.mono X13.out.size))
                  have E3 := hR3.rdp (ne_of_len hz3l HEX.out.ne)
                  rw [hZ3, hz3l] at E3
                  have HO := hid (refaone_any (E.fillE cb (E.fillE ca l)) (E.fillE B l) _ _ w14 (rdp_below E13.out h0) E3)
                  rw [show decide (E.fillE cb (E.fillE ca l) = E.fillE B l) = true from decide_eq_true HFE.out] at HO
                  clear h0 hR3 hZ3 hz3l E3 HT E13 HRC13 X13
                  go_wp2_with fail
                  refine (HO.out).mono ?_
                  rintro e w15 ⟨rfl, h0⟩
                  have X15 := hid (X14.out.trans (h0.mono X14.out.size))
                  have HT := hid (type_any [] asg_nil t (by omega) HWF.out _ (.slice none 0 0) w15 ((HX.out.low X15.out).mono X15.out.size) (rdc_nil _ _))
                  clear h0 HO X14
                  go_wp2_with fail
                  refine (HT.out).mono ?_
                  rintro e w16 ⟨u5, rfl, hO5, h0⟩
                  rw [L.fill_nil] at hO5
                  obtain ⟨B5, d5, rfl, -⟩ := hO5.rd
                  have X16 := hid (X15.out.trans (h0.mono X15.out.size))
                  have HO := hid (one_any t t _ _ w16 hO5.rd ((HX.out.low X16.out).mono X16.out.size))
                  rw [show decide (t = t) = true from decide_eq_true rfl] at HO
                  clear h0 hO5 HT X15
                  go_wp2_with fail
                  refine (HO.out).mono ?_
                  rintro e w17 ⟨rfl, h0⟩
                  have X17 := hid (X16.out.trans (h0.mono X16.out.size))
                  have HT := hid (expr_any [] asg_nil l HEX.out _ (.slice none 0 0) w17 (rdp_below HX1.out X17.out) (rdc_nil _ _))
                  clear h0 HO X16
                  go_wp2_with fail
                  refine (HT.out).mono ?_
                  rintro e w18 ⟨g6, q6, z6, rfl, hZ6, hz6l, hR6, h0⟩
                  have X18 := hid (X17.out.trans (h0.mono X17.out.size))
                  have E6 := hR6.rdp (ne_of_len hz6l HEX.out.ne)
                  rw [hZ6, hz6l, E.fillE_nil] at E6
                  have HO := hid (refaone_any l l _ _ w18 E6 (rdp_below HX1.out X18.out))
                  rw [show decide (l = l) = true from decide_eq_true rfl] at HO
                  clear h0 hR6 hZ6 hz6l E6 HT X17
                  go_wp2_with fail
                  refine (HO.out).mono ?_
                  rintro e w19 ⟨rfl, h0⟩
                  have X19 := hid (HB0.out.trans ((X18.out.trans (h0.mono X18.out.size)).mono HB0.out.size))
                  clear h0 HO
                  go_wp2_with fail
                  go_ret
                  exact ⟨rfl, X19.out⟩

set_option maxRecDepth 100000 in
theorem assignTwice_lifted (os : Os) (started : os.Started) (H : Type) (enc : TypeId × Value → H) :
    ReturnsInHanded {} Try.checked os 5 .any (Rows.assignTwiceSpec.pre6 enc Try.prog Try.f5 Rows.assignTwiceRow.domain false) (Rows.assignTwiceSpec.post enc Try.prog Try.f5 false true false false) := by
  refine returnsInHanded_of_change (C := Try.checked) own started (by kernel_rfl) Try.func5
    (ChangeSpec.witness6 (enc := enc) (C := Try.checked) false ⟨#[], #[.slice none 0 0, .slice none 0 0, .agg #[.slice none 0 0, .slice none 0 0]], []⟩ 8 (by kernel_rfl) (by kernel_rfl) (by kernel_rfl) (by kernel_rfl)) ?_
  intro W base args ds gs before hval0 hW hcnd _
  have hlts := hW.lt
  have hval : ∀ (j : Nat) t v, Try.f5.params[j]? = some t → args[j]? = some v → Value.okWide Try.prog W .any base t v := hval0
  have hW' := hW
  obtain ⟨p, q, hA0, hV, rfl, hfz, hnd⟩ := hW
  have hA : DataW.TrodAll enc Try.prog W 0 (fun _ => true) true Try.f5.params.toList args.toList ds p := hA0
  rw [Try.params5] at hA hval
  obtain ⟨v0, vs0, d0, ds0, p0, q0, hargs0, rfl, rfl, h0, r0⟩ := trodAll_cons hA
  obtain ⟨v1, vs1, d1, ds1, p1, q1, hargs1, rfl, rfl, h1, r1⟩ := trodAll_cons r0
  obtain ⟨v2, vs2, d2, ds2, p2, q2, hargs2, rfl, rfl, h2, r2⟩ := trodAll_cons r1
  obtain ⟨hn, rfl, rfl⟩ := trodAll_nil r2
  obtain rfl : args = #[v0, v1, v2] := by cases args; simp_all
  obtain ⟨rfl, rfl⟩ := trodVars_none hV
  obtain ⟨sa0, sl0, sc0, hsv0⟩ := okWide_slice Try.underlying25 (hval 0 25 v0 rfl rfl)
  obtain ⟨fuel0, hf0⟩ := h0
  obtain ⟨u0, l0, hu0, hR0, hn0⟩ := rd_of_trod hf0
  obtain rfl : v0 = u0 := by
    rw [hsv0] at hu0
    rw [hsv0]
    simpa [Value.cells] using hu0
  obtain ⟨sa1, sl1, sc1, hsv1⟩ := okWide_slice Try.underlying32 (hval 1 32 v1 rfl rfl)
  obtain ⟨fuel1, hf1⟩ := h1
  obtain ⟨u1, l1, hu1, hR1, hn1⟩ := rdp_of_trod hf1
  obtain rfl : v1 = u1 := by
    rw [hsv1] at hu1
    rw [hsv1]
    simpa [Value.cells] using hu1
  obtain ⟨cs2, hv2⟩ := arr_of7 Try.underlying42 (hval 2 42 v2 rfl rfl)
  obtain ⟨fuel2, hf2⟩ := h2
  have htwo2 := two_of_trod hv2 hf2
  obtain ⟨va2, vb2, la2, lb2, rfl, ra2, rb2, na2, nb2⟩ := htwo2
  clear hA0 hval0
  simp only [List.append_nil] at hW' hlts
  refine (twice_true v0 l0 hR0 hn0 v1 l1 hR1 hn1 va2 vb2 la2 lb2 ra2 rb2 na2 nb2 (W := W)).mono fun e W' ⟨he, hB⟩ => ?_
  subst he
  refine ⟨_, rfl, _, _, _, [], (p0 ++ (p1 ++ (p2 ++ []))), [], by simpa using hW', ?_, ?_, ?_, hB.frame _, fun h => by cases h⟩
  · exact trodAll_cons_mk (shut_bool Try.underlying4 _) trodAll_mk0
  · exact (trodAll_cons_mk (Below.trod (by kernel_rfl) (by kernel_rfl) (of_decide_eq_true (by kernel_rfl)) ⟨fuel0, hf0⟩ hB (fun x hx => hlts x (by simp [hx]))) (trodAll_cons_mk (Below.trod (by kernel_rfl) (by kernel_rfl) (of_decide_eq_true (by kernel_rfl)) ⟨fuel1, hf1⟩ hB (fun x hx => hlts x (by simp [hx]))) (trodAll_cons_mk (Below.trod (by kernel_rfl) (by kernel_rfl) (of_decide_eq_true (by kernel_rfl)) ⟨fuel2, hf2⟩ hB (fun x hx => hlts x (by simp [hx]))) trodAll_mk0)))
  · rfl

/-- AssignTwice: the given statement. -/
theorem assignTwice_holds : Rows.AssignTwiceSaid :=
  OpenClaim.holds_of_wide 5 Try.f5 rfl rfl rfl rfl rfl rfl rfl ⟨rfl, rfl, rfl, rfl, rfl⟩ rfl rfl rfl rfl rfl (by kernel_rfl) Try.func5 (by kernel_rfl)
    (of_decide_eq_true (by kernel_rfl)) (by unfold Func.isWrapper; first | (rw [if_pos (by decide +kernel)]; kernel_rfl) | (rw [if_neg (by decide +kernel)]; exact ⟨rfl, rfl⟩))
    (fun os started H enc _ => assignTwice_lifted os started H enc)

end Go.Proofs.Ytmcdggjcpfkchaa.assignTwice
