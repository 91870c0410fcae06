/-
  The walk of the reference's Order. Conditions: few modules, short names.
-/
import Derived.Test.YtifcilhcjghmkaaGrXf
namespace Go.Proofs.Ytifcilhcjghmkaa
open Go.RowKit

set_option maxRecDepth 1000000 in
set_option maxHeartbeats 16000000 in
theorem rorder_any (l : List Gr.Md) (hq : Gr.Few l) (v : Value) (w : World) (hx : RdM w w.heap.size v l) :
    Calls Try.prog 12 #[v] w (OrderPost l w) := by
  have HX := hid hx
  have HQ := hid hq
  have hn := hq.n
  obtain ⟨i0, hi0, hz0, hz1, hz2⟩ := info_parts info_int
  obtain ⟨A, cap, rfl, -, -, -⟩ := hx
  have hmk := run_make_row' (P := Try.prog) 39 4 (.bool false) 1 Try.underlying39 info_bool rfl .i64 .i64 l.length (by omega) (by omega)
  clear hq
  go_enter Try.func12, Try.ntmps12
  go_wp2_with fail
  go_loop [5] (fun vi => ∃ k : Nat, vi = .int .i64 k ∧ k ≤ l.length ∧ Hid (Gr.firstP (Gr.againP l) (l.drop k) k = Gr.againL l)) (fun vi => l.length - (intOf vi).toNat)
  case atStart => exact ⟨0, rfl, by omega, hid rfl⟩
  case round =>
    obtain ⟨k, rfl, hk, hE⟩ := hrel
    by_cases hlt : k < l.length
    · have hkz : (k : Int) < (l.length : Int) := by omega
      obtain ⟨b, o, c', Ai, ci, Ad, nd, cd, As, ns, cs, hv, hb, x0, x1, x2, x3, hS⟩ := HX.out.at_ (Below.refl _ _) hlt
      simp only [Value.slice.injEq, true_and] at hv
      obtain ⟨rfl, rfl⟩ := hv
      have hst := hE.out
      rw [List.drop_eq_getElem_cons hlt, Gr.firstP, Gr.againP] at hst
      obtain ⟨s, hs⟩ : ∃ s, s = l[k].name := ⟨_, rfl⟩
      rw [← hs] at x0 hst
      have HF := hid (find_any l s _ w HX.out)
      obtain ⟨q, hqe⟩ : ∃ q, Gr.find s l 0 = q := ⟨_, rfl⟩
      rw [hqe] at hst HF
      clear hs hE hqe x1 x2 x3 hS
      by_cases g : q < (k : Int)
      · rw [decide_eq_true g, cond_true] at hst
        have HV := hid hst
        clear hst
        go_wp2_with fail
        refine (HF.out).mono ?_
        rintro e w2 ⟨rfl, rfl⟩
        go_wp2_with fail
        go_ret3
        exact ⟨_, [], k, 7, rfl, rdN_nil _ _, .again (by rw [← HV.out]; omega) rfl HV.out rfl, Below.refl _ _⟩
      · rw [decide_eq_false g, cond_false] at hst
        have HV := hid hst
        clear hst
        go_wp2_with fail
        refine (HF.out).mono ?_
        rintro e w2 ⟨rfl, rfl⟩
        go_wp2_with fail
        go_round
        case rel => exact ⟨k + 1, by go_num, by omega, HV⟩
        case measure => simp [intOf]; omega
    · have hkz : ¬ (k : Int) < (l.length : Int) := by omega
      have HA0 := hid (show Gr.againL l < 0 from by rw [← hE.out, List.drop_eq_nil_of_le (by omega)]; simp [Gr.firstP])
      clear hE
      go_wp2_with fail
      go_loop [6] (fun vi => ∃ k : Nat, vi = .int .i64 k ∧ k ≤ l.length ∧ Hid (Gr.firstP (Gr.lostP l) (l.drop k) k = Gr.lostL l)) (fun vi => l.length - (intOf vi).toNat)
      case atStart => exact ⟨0, rfl, by omega, hid rfl⟩
      case round =>
        obtain ⟨k, rfl, hk, hE⟩ := hrel
        by_cases hlt : k < l.length
        · have hkz : (k : Int) < (l.length : Int) := by omega
          obtain ⟨b, o, c', Ai, ci, Ad, nd, cd, As, ns, cs, hv, hb, x0, x1, x2, x3, hS⟩ := HX.out.at_ (Below.refl _ _) hlt
          simp only [Value.slice.injEq, true_and] at hv
          obtain ⟨rfl, rfl⟩ := hv
          have hst := hE.out
          rw [List.drop_eq_getElem_cons hlt, Gr.firstP, Gr.lostP] at hst
          obtain ⟨is, hni⟩ : ∃ is, l[k].imps = is := ⟨_, rfl⟩
          have hil := HQ.out.imps l[k] (List.getElem_mem hlt)
          rw [hni] at x1 hS hst hil
          have HST := hid hst
          have HS := hid hS
          clear hni hE x0 x2 x3 hS hst
          go_wp2_with fail
          go_loop [7] (fun vj => ∃ j : Nat, vj = .int .i64 j ∧ j ≤ is.length ∧ Hid (((is.drop j).any fun s => decide (Gr.find s l 0 < 0)) = is.any fun s => decide (Gr.find s l 0 < 0))) (fun vj => is.length - (intOf vj).toNat)
          case atStart => exact ⟨0, rfl, by omega, hid rfl⟩
          case round =>
            obtain ⟨j, rfl, hj, hE⟩ := hrel
            by_cases hjl : j < is.length
            · have hjz : (j : Int) < (is.length : Int) := by omega
              obtain ⟨b2, o2, c', hv, hb2, y0⟩ := HS.out.at_ (Below.refl _ _) hjl
              simp only [Value.slice.injEq, true_and] at hv
              obtain ⟨rfl, rfl⟩ := hv
              have hst := hE.out
              rw [List.drop_eq_getElem_cons hjl, List.any_cons] at hst
              obtain ⟨s, hs⟩ : ∃ s, s = is[j] := ⟨_, rfl⟩
              rw [← hs] at y0 hst
              have HF := hid (find_any l s _ w HX.out)
              obtain ⟨q, hqe⟩ : ∃ q, Gr.find s l 0 = q := ⟨_, rfl⟩
              rw [hqe] at hst HF
              clear hs hE hqe
              by_cases g : q < 0
              · rw [decide_eq_true g, Bool.true_or] at hst
                have HV := hid (HST.out.symm.trans (by rw [← hst, cond_true]))
                clear hst
                go_wp2_with fail
                refine (HF.out).mono ?_
                rintro e w2 ⟨rfl, rfl⟩
                go_wp2_with fail
                go_ret3
                exact ⟨_, [], k, 6, rfl, rdN_nil _ _, .lost HA0.out (by rw [HV.out]; omega) rfl HV.out.symm rfl, Below.refl _ _⟩
              · rw [decide_eq_false g, Bool.false_or] at hst
                have HV := hid hst
                clear hst
                go_wp2_with fail
                refine (HF.out).mono ?_
                rintro e w2 ⟨rfl, rfl⟩
                go_wp2_with fail
                go_round
                case rel => exact ⟨j + 1, by go_num, by omega, HV⟩
                case measure => simp [intOf]; omega
            · have hjz : ¬ (j : Int) < (is.length : Int) := by omega
              have HV := hid (show Gr.firstP (Gr.lostP l) (l.drop (k + 1)) (k + 1) = Gr.lostL l from by
                have h1 := hE.out
                rw [List.drop_eq_nil_of_le (by omega), List.any_nil] at h1
                have h2 := HST.out
                rw [← h1, cond_false] at h2
                exact h2)
              clear hE
              go_wp2_with fail
              go_round
              case rel => exact ⟨k + 1, by go_num, by omega, HV⟩
              case measure => simp [intOf]; omega
        · have hkz : ¬ (k : Int) < (l.length : Int) := by omega
          have HL0 := hid (show Gr.lostL l < 0 from by rw [← hE.out, List.drop_eq_nil_of_le (by omega)]; simp [Gr.firstP])
          have HUN := hid (Gr.again_unlike HA0.out)
          clear hE
          have HO0 := hid (OwnB.made w l.length (by omega))
          have hB0 := hid (below_new (w := w) (.cells (madeCells #[.bool false] l.length) 4))
          go_wp2_with fail
          go_loopw [9] (fun vi wr => ∃ k : Nat, vi = .int .i64 k ∧ k ≤ l.length ∧ OwnB wr w.heap.size l.length (Gr.upto (fun j => Gr.reachM l j j) k) ∧ Below w.heap.size w wr) (fun vi _ => l.length - (intOf vi).toNat)
          case atStart => exact ⟨0, rfl, by omega, by
            have e : Gr.upto (fun j => Gr.reachM l j j) 0 = fun _ => false := by funext j; simp [Gr.upto]
            rw [e]; exact HO0.out, hB0.out⟩
          case round =>
            clear HO0 hB0
            obtain ⟨k, rfl, hk, hO, hbel⟩ := hrel
            obtain ⟨wo, hwo⟩ : ∃ wo : World, wo = wr := ⟨_, rfl⟩
            subst hwo
            have hsz := hO.lt
            by_cases hlt : k < l.length
            · have hkz : (k : Int) < (l.length : Int) := by omega
              have HR := hid (reached_any l HQ.out (.slice A l.length cap) k hlt wo ((HX.out.below hbel).mono hbel.size))
              have HO := hid hO
              have HB := hid hbel
              clear hO hbel
              go_wp2_with fail
              refine (HR.out).mono ?_
              rintro e w1 ⟨rfl, hO1, hb⟩
              obtain ⟨m1, m2⟩ := hO1.at_ hlt
              have HO2 := hid (HO.out.below (hb.block _ hsz))
              have HB2 := hid (HB.out.trans (hb.mono (by omega)))
              obtain ⟨m3, m4⟩ := HO2.out.at_ hlt
              obtain ⟨bb, hbb⟩ : ∃ bb, Gr.reachM l k k = bb := ⟨_, rfl⟩
              rw [hbb] at m1
              have HU := hid (Gr.upto_next (fun j => Gr.reachM l j j) k hbb)
              clear hO1 hb HR hbb
              go_wp2_with fail
              go_roundw
              case rel => exact ⟨k + 1, by go_num, by omega, by rw [← HU.out]; exact HO2.out.put hlt bb, HB2.out.setCell (Nat.le_refl _) _⟩
              case measure => simp [intOf]; omega
            · have hkz : ¬ (k : Int) < (l.length : Int) := by omega
              have e : k = l.length := by omega
              subst e
              have HLE := rleast_any l hn (Gr.upto (fun j => Gr.reachM l j j) l.length) (.slice A l.length cap) w.heap.size wo ((HX.out.below hbel).mono hbel.size) hsz (fun i hi => (hO.at_ hi).1)
              rw [Gr.upto_filter] at HLE
              have hbest := Gr.best_filter HUN.out (fun j => Gr.reachM l j j)
              have hbest := hbest.congr (Q := fun w => w < l.length ∧ Gr.Cyc (Gr.nxL l) w) (fun w => and_congr_right fun h => Gr.reachM_iff h w)
              obtain ⟨bo, hbo⟩ : ∃ bo, Gr.leastL (Gr.nlt l) none ((List.range l.length).filter fun j => Gr.reachM l j j) = bo := ⟨_, rfl⟩
              rw [hbo] at HLE hbest
              have HLE := hid HLE
              have HB := hid hbel
              clear hO hbel hbo
              cases bo with
              | some m =>
                have HBE := hid hbest
                have hmp : (0 : Int) ≤ (m : Int) := by omega
                clear hbest
                rw [Gr.bestI] at HLE
                go_wp2_with fail
                refine (HLE.out).mono ?_
                rintro e w1 ⟨rfl, -, hb⟩
                have HB1 := hid (HB.out.trans (hb.mono HB.out.size))
                clear hb
                go_wp2_with fail
                go_ret3
                exact ⟨_, [], m, 8, rfl, rdN_nil _ _, .cycle m HA0.out HL0.out HBE.out rfl rfl rfl, HB1.out⟩
              | none =>
                have HNC := hid (show ∀ i, i < l.length → ¬ Gr.Cyc (Gr.nxL l) i from fun i hi hc => hbest.no rfl i ⟨hi, hc⟩)
                clear hbest
                rw [Gr.bestI] at HLE
                go_wp2_with fail
                refine (HLE.out).mono ?_
                rintro e w1 ⟨rfl, -, hb⟩
                have HB1 := hid (HB.out.trans (hb.mono HB.out.size))
                have hbs := HB1.out.size
                have HN1 := hid (((OwnN.lit w1).mono (B' := w.heap.size) (fun g hg => by simp at hg; omega)))
                have HB2 := hid (HB1.out.trans ((below_new (w := w1) (.cells #[] 3)).mono HB1.out.size))
                clear hb HB HLE
                go_wp2_with fail
                go_loopw [11, 85] (fun vo vi wr => ∃ (k : Nat) (out : List Nat) (g c : Nat), vo = .slice (some ⟨g, 0, none⟩) out.length c ∧ vi = .int .i64 k ∧ k ≤ l.length ∧ Hid (out.length = k) ∧ Hid (Gr.Greedy (Gr.ltP l) (Gr.nxL l) l.length out) ∧ OwnN wr w.heap.size (some ⟨g, 0, none⟩) c out ∧ Below w.heap.size w wr) (fun _ vi _ => l.length - (intOf vi).toNat)
                case atStart => exact ⟨0, [], w1.heap.size, 0, rfl, rfl, by omega, hid rfl, hid .nil, HN1.out, HB2.out⟩
                case round =>
                  clear HN1 HB2 HB1
                  obtain ⟨k, out, g, c, rfl, rfl, hk, HOL, hG, hN, hbel⟩ := hrel
                  have hol2 : out.length ≤ 20 := by have := HOL.out; omega
                  obtain ⟨wo, hwo⟩ : ∃ wo : World, wo = wr := ⟨_, rfl⟩
                  subst hwo
                  have hgl := (hN.lt g rfl).2
                  have HN := hid hN
                  have HB := hid hbel
                  have hbs2 := hbel.size
                  clear hN hbel
                  by_cases hlt : k < l.length
                  · have hkz : (k : Int) < (l.length : Int) := by omega
                    have HO0 := hid (OwnB.made wo l.length (by omega))
                    have HBW := hid (below_new (w := wo) (.cells (madeCells #[.bool false] l.length) 4))
                    go_wp2_with fail
                    go_loopw [13] (fun vj wi => ∃ j : Nat, vj = .int .i64 j ∧ j ≤ l.length ∧ OwnB wi wo.heap.size l.length (Gr.upto (Gr.mayB l out) j) ∧ Below wo.heap.size wo wi) (fun vj _ => l.length - (intOf vj).toNat)
                    case atStart => exact ⟨0, rfl, by omega, by
                      have e : Gr.upto (Gr.mayB l out) 0 = fun _ => false := by funext j; simp [Gr.upto]
                      rw [e]; exact HO0.out, HBW.out⟩
                    case round =>
                      clear HO0 HBW
                      obtain ⟨j, rfl, hj, hO, hbel⟩ := hrel
                      obtain ⟨wj, hwj⟩ : ∃ wj : World, wj = wr := ⟨_, rfl⟩
                      subst hwj
                      have HXJ := hid ((HX.out.below (HB.out.trans (hbel.mono hbs2))).mono (show w.heap.size ≤ wj.heap.size from by have := hbel.size; omega))
                      have hNJ := HN.out.kept (w' := wj) (fun x hx => hbel.block x (by simp at hx; omega))
                      have HO := hid hO
                      have HBJ := hid hbel
                      have hsz := hO.lt
                      clear hO hbel
                      by_cases hjl : j < l.length
                      · have hjz : (j : Int) < (l.length : Int) := by omega
                        obtain ⟨m1, m2⟩ := HO.out.at_ hjl
                        have HI := hid (in_any (out.map fun k : Nat => (k : Int)) (by simp; omega) (j : Int) _ wj hNJ.rd.rdi)
                        have HRY := hid (ready_any l HQ.out _ _ j hjl out (by omega) wj HXJ.out hNJ.rd)
                        have hmay : Gr.mayB l out j = (!((out.map fun k : Nat => (k : Int)).any fun x => decide (x = (j : Int))) && Gr.readyB l l[j].imps out) := by simp [Gr.mayB, hjl]
                        obtain ⟨b1, hb1⟩ : ∃ b1, ((out.map fun k : Nat => (k : Int)).any fun x => decide (x = (j : Int))) = b1 := ⟨_, rfl⟩
                        obtain ⟨b2, hb2⟩ : ∃ b2, Gr.readyB l l[j].imps out = b2 := ⟨_, rfl⟩
                        rw [hb1] at hmay HI
                        rw [hb2] at hmay HRY
                        clear hb1 hb2 hNJ
                        cases b1 with
                        | true =>
                          rw [Bool.not_true, Bool.false_and] at hmay
                          have HU := hid (Gr.upto_next (Gr.mayB l out) j hmay)
                          clear hmay
                          go_wp2_with fail
                          refine (HI.out).mono ?_
                          rintro e w2 ⟨rfl, rfl⟩
                          go_wp2_with fail
                          go_roundw
                          case rel => exact ⟨j + 1, by go_num, by omega, by rw [← HU.out]; exact HO.out.put hjl false, HBJ.out.setCell (Nat.le_refl _) _⟩
                          case measure => simp [intOf]; omega
                        | false =>
                          rw [Bool.not_false, Bool.true_and] at hmay
                          have HU := hid (Gr.upto_next (Gr.mayB l out) j hmay)
                          clear hmay
                          go_wp2_with fail
                          refine (HI.out).mono ?_
                          rintro e w2 ⟨rfl, rfl⟩
                          go_wp2_with fail
                          refine (HRY.out).mono ?_
                          rintro e w2 ⟨rfl, rfl⟩
                          go_wp2_with fail
                          go_roundw
                          case rel => exact ⟨j + 1, by go_num, by omega, by rw [← HU.out]; exact HO.out.put hjl b2, HBJ.out.setCell (Nat.le_refl _) _⟩
                          case measure => simp [intOf]; omega
                      · have hjz : ¬ (j : Int) < (l.length : Int) := by omega
                        have e : j = l.length := by omega
                        subst e
                        have HLE := rleast_any l hn (Gr.upto (Gr.mayB l out) l.length) (.slice A l.length cap) wo.heap.size wj HXJ.out hsz (fun i hi => (HO.out.at_ hi).1)
                        rw [Gr.upto_filter] at HLE
                        obtain ⟨m, hm, hgr⟩ := Gr.next_one HUN.out HL0.out HNC.out hG.out (by have := HOL.out; omega)
                        rw [hm, Gr.bestI] at HLE
                        have HLE := hid HLE
                        have HGR := hid hgr
                        have HBW := hid (HB.out.trans (HBJ.out.mono hbs2))
                        clear hm hgr HO HBJ
                        go_wp2_with fail
                        refine (HLE.out).mono ?_
                        rintro e w3 ⟨rfl, hh3, hb3⟩
                        have HNJ := hid (hNJ.kept (w' := w3) (fun x _ => by rw [hh3]))
                        have HB3 := hid (HBW.out.trans (hb3.mono HBW.out.size))
                        have hbs3 := HB3.out.size
                        clear hb3 hNJ HLE HBW hh3
                        go_wp2_with (at_builtin; refine wpList_append_own_at _ rfl _ _ 25 rfl w.heap.size 3 i0 (.int .i64 0) 1 8 Try.underlying25 hi0 hz0 hz1 hz2 rfl (by decide) _ _ _ rfl (World.ownsRow.alloc HNJ.out _) ⟨w3.heap.size, 0, none⟩ 1 1 [.int .i64 (m : Int)] rfl rfl (cell_one_new _ _ _) (ints_oneCell .i64 [(m : Int)]) (by unfold maxLen; omega) (by omega) (by simp; omega) ?_; intro v' w4 hown' hgrow hnil hloc; obtain ⟨g', cap', rfl⟩ := row_succ hown'; obtain ⟨z1, z2, z3, z4⟩ := HNJ.out.more HB3.out.size hown' hgrow hloc; clear hown' hgrow hnil hloc)
                        go_roundw
                        case rel => exact ⟨k + 1, out ++ [m], g', cap', by simp, by go_num, by omega, hid (by simp [HOL.out]), HGR, z1, HB3.out.trans z2⟩
                        case measure => simp [intOf]; omega
                  · have hkz : ¬ (k : Int) < (l.length : Int) := by omega
                    go_wp2_with fail
                    go_ret3
                    exact ⟨_, out, 0, 0, rfl, HN.out.rd, .order HA0.out HL0.out hG.out (by have := HOL.out; omega) HNC.out rfl rfl, HB.out⟩

end Go.Proofs.Ytifcilhcjghmkaa
