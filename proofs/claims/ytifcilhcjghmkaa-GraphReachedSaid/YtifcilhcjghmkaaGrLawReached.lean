/-
  GraphReached is true for any modules, any number. No conditions.
-/
import Derived.Test.YtifcilhcjghmkaaRows
import Derived.Test.YtifcilhcjghmkaaGrZa
namespace Go.Proofs.Ytifcilhcjghmkaa.graphReached
open Go.ChangeShapes Go.WideShapes Go.ChangeAt Go.RowKit

theorem own : ownKnob Try.prog.godebug = none := by kernel_rfl

abbrev Post (w : World) (e : Ending) (w' : World) : Prop := e = .returned (.bool true) ∧ Below w.heap.size w w'

theorem atN_some {l : List Gr.Md} {s : ByteArray} {q : Nat} (h : Gr.find s l 0 = q) : Gr.atN l s = some q := by
  unfold Gr.atN
  rw [h, if_pos (by omega), Int.toNat_natCast]
theorem atN_none {l : List Gr.Md} {s : ByteArray} (h : Gr.find s l 0 < 0) : Gr.atN l s = none := by
  unfold Gr.atN
  rw [if_neg (by omega)]

theorem rdn_set {w : World} {B n c : Nat} {A : Option Addr} {l : List Nat} (h : RdN w B (.slice A n c) l) (a : Addr) (v : Value) (hne : ∀ g, A.map (·.block) = some g → g ≠ a.block) : RdN (w.setCell a v) B (.slice A n c) l := by
  obtain ⟨A2, c2, e, h1, h2, hc⟩ := h
  simp only [Value.slice.injEq] at e
  obtain ⟨rfl, rfl, rfl⟩ := e
  refine ⟨_, _, rfl, h1, h2, fun hn => ?_⟩
  obtain ⟨b, rfl, hb, hc⟩ := hc hn
  refine ⟨b, rfl, hb, fun i hi => ?_⟩
  have h3 := Below.heap_setCell w a v b (hne b rfl)
  rw [← hc i hi]
  simp only [World.cell?, h3]

set_option maxHeartbeats 16000000 in
set_option maxRecDepth 1000000 in
theorem reached_true {W : World} (v : Value) (l : List Gr.Md) (hl : RdM W W.heap.size v l) (i : Int) (hi : (Lit.int .i64 i).wf = true) :
    Calls Try.prog 8 #[v, .int .i64 i] W (Post W) := by
  have hi2 : -9223372036854775808 ≤ i ∧ i < 9223372036854775808 := by
    simp only [Lit.wf, Bool.and_eq_true, decide_eq_true_eq] at hi
    exact ⟨hi.1, Int.lt_of_le_of_lt hi.2 (by decide)⟩
  have L0 := hid hl
  have HI := hid hi2
  have HF := hid (few_any l v W hl)
  have hlm : l.length ≤ maxLen := by
    obtain ⟨A, cap, -, h1, h2, -⟩ := hl
    omega
  obtain ⟨i0, hi0, hz0, hz1, hz2⟩ := info_parts info_int
  obtain ⟨A, cap, rfl, -, -, -⟩ := hl
  unfold maxLen at hlm
  clear hi hi2
  go_enter Try.func8, Try.ntmps8
  go_wp2_with fail
  refine (HF.out).mono ?_
  rintro e w1 ⟨b, rfl, hb, rfl⟩
  have HAL := hid (law_alive W)
  cases b with
  | false =>
    clear hb HF
    go_wp2_with fail
    refine (HAL.out).mono ?_
    rintro e w2 ⟨rfl, h0⟩
    have X2 := hid h0
    clear h0
    go_wp2_with fail
    go_ret
    exact ⟨rfl, X2.out⟩
  | true =>
    have HQ := hid (hb.1 rfl)
    clear hb HF
    by_cases c0 : i < 0
    · go_wp2_with fail
      refine (HAL.out).mono ?_
      rintro e w2 ⟨rfl, h0⟩
      have X2 := hid h0
      clear h0
      go_wp2_with fail
      go_ret
      exact ⟨rfl, X2.out⟩
    · by_cases c1 : (l.length : Int) ≤ i
      · go_wp2_with fail
        refine (HAL.out).mono ?_
        rintro e w2 ⟨rfl, h0⟩
        have X2 := hid h0
        clear h0
        go_wp2_with fail
        go_ret
        exact ⟨rfl, X2.out⟩
      · obtain ⟨p, rfl⟩ : ∃ p : Nat, i = p := ⟨i.toNat, by omega⟩
        have hpl : p < l.length := by omega
        have hn := HQ.out.n
        have hmk := run_make_row' (P := Try.prog) 39 4 (.bool false) 1 Try.underlying39 info_bool rfl .i64 .i64 l.length (by omega) (by omega)
        have HN := hid (needs_any l HQ.out _ (p : Int) HI.out.1 HI.out.2 W L0.out)
        clear HAL c0 c1
        go_wp2_with fail
        refine (HN.out).mono ?_
        rintro e w3 ⟨v3, ns, rfl, hr, ha, h0, -⟩
        have X3 := hid h0
        have L3 := hid ((L0.out.below h0).mono h0.size)
        have R3 := hid hr
        have A3 := hid ha
        obtain ⟨A1, k1, rfl, -, -, -⟩ := hr
        have HO := OwnB.made w3 l.length (by omega)
        obtain ⟨m3, m4⟩ := HO.at_ hpl
        have HO := HO.set hpl
        rw [World.setCell_alloc_new] at HO
        have HO := hid HO
        have HB0 := ((below_new (w := w3) (.cells (madeCells #[.bool false] l.length) 4)).setCell (p := ⟨w3.heap.size, p, none⟩) (Nat.le_refl _) (.bool true))
        rw [World.setCell_alloc_new] at HB0
        have HB0 := hid HB0
        obtain ⟨b, o, c', Ai, ci, Ad, nd, cd, As, nn, cs, hv, hbb, x0, x1, x2, x3, hS⟩ := L3.out.at_ (Below.refl _ _) hpl
        simp only [Value.slice.injEq, true_and] at hv
        obtain ⟨rfl, rfl⟩ := hv
        have hil := HQ.out.imps l[p] (List.getElem_mem hpl)
        have HNX := hid (Gr.nxL_at hpl)
        obtain ⟨is, hni⟩ : ∃ is, l[p].imps = is := ⟨_, rfl⟩
        rw [hni] at x1 hS hil HNX
        have HS := hid hS
        have X1 := hid (fun (V : World) (hV : Below w3.heap.size w3 V) => (hV.cell (p := ⟨b, o + p * 4 + 1, none⟩) hbb).trans x1)
        clear h0 ha HN hS hni x0 x1 x2 x3
        go_wp2_with fail
        go_loopw [7] (fun vj wr => ∃ (k : Nat) (M : Nat → Bool), vj = .int .i64 k ∧ k ≤ is.length ∧ Hid (∀ x, M x = true ↔ (x = p ∨ ∃ q ∈ (is.take k).filterMap (Gr.atN l), Gr.Rch (Gr.nxL l) q x)) ∧ OwnB wr w3.heap.size l.length M ∧ Below w3.heap.size w3 wr) (fun vj _ => is.length - (intOf vj).toNat)
        case atStart => exact ⟨0, _, rfl, by omega, hid (fun x => by simp [Gr.mark1]), HO.out, HB0.out⟩
        case round =>
          clear HO HB0 m3 m4
          obtain ⟨k, M, rfl, hk, hE, hO, hbel⟩ := hrel
          obtain ⟨wo, hwo⟩ : ∃ wo : World, wo = wr := ⟨_, rfl⟩
          subst hwo
          have x1 := X1.out _ hbel
          have hsz := hO.lt
          by_cases hlt : k < is.length
          · have hkz : (k : Int) < (is.length : Int) := by omega
            obtain ⟨b2, o2, c', hv, hb2, y0⟩ := HS.out.at_ hbel hlt
            simp only [Value.slice.injEq, true_and] at hv
            obtain ⟨rfl, rfl⟩ := hv
            have htk : (is.take (k + 1)).filterMap (Gr.atN l) = (is.take k).filterMap (Gr.atN l) ++ [is[k]].filterMap (Gr.atN l) := by rw [List.take_succ_eq_append_getElem hlt, List.filterMap_append]
            obtain ⟨s, hs⟩ : ∃ s, s = is[k] := ⟨_, rfl⟩
            rw [← hs] at y0 htk
            have LO := (L3.out.below hbel).mono hbel.size
            have hF := hid (place_any l s (.slice (some ⟨b, o, none⟩) l.length cap) wo LO)
            have hfl := Gr.find_lt s l
            have HO := hid hO
            have HB := hid hbel
            have HLO := hid LO
            clear hs hO hbel LO
            by_cases gf : Gr.find s l 0 < 0
            · have hno := atN_none gf
              have HE := hid (show ∀ x, M x = true ↔ (x = p ∨ ∃ q ∈ (is.take (k + 1)).filterMap (Gr.atN l), Gr.Rch (Gr.nxL l) q x) from fun x => by rw [htk, List.filterMap_cons, hno]; simpa using hE.out x)
              obtain ⟨q, hqe⟩ : ∃ q : Int, Gr.find s l 0 = q := ⟨_, rfl⟩
              rw [hqe] at hF gf
              clear htk hno hqe hfl
              go_wp2_with fail
              refine (hF.out).mono ?_
              rintro e w2 ⟨rfl, rfl⟩
              go_wp2_with fail
              go_roundw
              case rel => exact ⟨k + 1, M, by go_num, by omega, HE, HO.out, HB.out⟩
              case measure => simp [intOf]; omega
            · obtain ⟨q, hqe⟩ : ∃ q : Nat, Gr.find s l 0 = q := ⟨(Gr.find s l 0).toNat, by omega⟩
              have hso := atN_some hqe
              rw [hqe] at hF hfl
              have hql : q < l.length := by omega
              have hqn : ¬ (q : Int) < 0 := by omega
              have HTK := hid (show (is.take (k + 1)).filterMap (Gr.atN l) = (is.take k).filterMap (Gr.atN l) ++ [q] from by rw [htk, List.filterMap_cons, hso]; rfl)
              have HN := hid (needs_any l HQ.out _ (q : Int) (by omega) (by omega) wo HLO.out)
              clear htk hso hqe hfl gf
              go_wp2_with fail
              refine (hF.out).mono ?_
              rintro e w2 ⟨rfl, rfl⟩
              go_wp2_with fail
              refine (HN.out).mono ?_
              rintro e w4 ⟨v4, ms, rfl, hr, ha, h0, hfr⟩
              have HMS := hid (show ∀ x, x ∈ ms ↔ Gr.Rch (Gr.nxL l) q x from by
                cases ha with
                | out g => omega
                | of q2 g1 g2 g3 g4 =>
                  have e : q2 = q := by omega
                  exact e ▸ g4)
              have hml : ms.length ≤ l.length := by
                cases ha with
                | out g => omega
                | of q2 g1 g2 g3 g4 => exact Gr.nodup_le _ ms (g3.imp fun h => Nat.ne_of_lt h) (fun x hx => ((g4 x).1 hx).lt (Gr.nxL_lt l) g2)
              have HLT := hid (show ∀ x ∈ ms, x < l.length from fun x hx => ((HMS.out x).1 hx).lt (Gr.nxL_lt l) hql)
              have R4 := hid hr
              obtain ⟨A4, k4, rfl, -, -, -⟩ := hr
              have HO4 := hid (HO.out.below (h0.block _ hsz))
              have HB4 := hid (HB.out.trans (h0.mono (by omega)))
              have hs4 : w4.heap.size = w4.heap.size := rfl
              have hw34 : w3.heap.size < w4.heap.size := by have := h0.size; omega
              have HB40 := hid h0
              clear h0 ha HN HO HB hF y0 x1
              go_wp2_with fail
              go_loopw [10] (fun vj wi => ∃ (j : Nat) (M2 : Nat → Bool), vj = .int .i64 j ∧ j ≤ ms.length ∧ Hid (∀ x, M2 x = true ↔ (M x = true ∨ x ∈ ms.take j)) ∧ OwnB wi w3.heap.size l.length M2 ∧ Below w3.heap.size w3 wi ∧ Hid (RdN wi w4.heap.size (.slice A4 ms.length k4) ms)) (fun vj _ => ms.length - (intOf vj).toNat)
              case atStart => exact ⟨0, M, rfl, by omega, hid (fun x => by simp), HO4.out, HB4.out, R4⟩
              case round =>
                clear HO4 HB4 R4
                obtain ⟨j, M2, rfl, hj, hE2, hO, hbel, HR⟩ := hrel
                obtain ⟨wj, hwj⟩ : ∃ wj : World, wj = wr := ⟨_, rfl⟩
                subst hwj
                by_cases hjl : j < ms.length
                · have hjz : (j : Int) < (ms.length : Int) := by omega
                  obtain ⟨g, rfl, hg, y2⟩ := HR.out.atv (Below.refl _ _) hjl
                  have hxl := HLT.out ms[j] (List.getElem_mem hjl)
                  have htk : ms.take (j + 1) = ms.take j ++ [ms[j]] := List.take_succ_eq_append_getElem hjl
                  obtain ⟨x, hx⟩ : ∃ x, ms[j] = x := ⟨_, rfl⟩
                  rw [hx] at y2 hxl htk
                  have HE3 := hid (show ∀ y, Gr.mark1 M2 x y = true ↔ (M y = true ∨ y ∈ ms.take (j + 1)) from fun y => by
                    rw [htk]
                    simp only [Gr.mark1, Bool.or_eq_true, decide_eq_true_eq, List.mem_append, List.mem_singleton, hE2.out y, or_assoc])
                  obtain ⟨m3, m4⟩ := hO.at_ hxl
                  have hxn : ¬ (x : Int) < 0 := by omega
                  have hxz : (x : Int) < (l.length : Int) := by omega
                  have HO := hid hO
                  have HB := hid hbel
                  have HNE := hid (show g ≠ w3.heap.size from by
                    have := hfr g rfl
                    omega)
                  clear hx htk hO hbel hE2
                  go_wp2_with fail
                  go_roundw
                  case rel => exact ⟨j + 1, Gr.mark1 M2 x, by go_num, by omega, HE3, HO.out.set hxl, HB.out.setCell (Nat.le_refl _) _, hid (rdn_set HR.out _ _ (fun g2 hg2 => by simp at hg2; rw [← hg2]; exact HNE.out))⟩
                  case measure => simp [intOf]; omega
                · have hjz : ¬ (j : Int) < (ms.length : Int) := by omega
                  have HE := hid (show ∀ x, M2 x = true ↔ (x = p ∨ ∃ q ∈ (is.take (k + 1)).filterMap (Gr.atN l), Gr.Rch (Gr.nxL l) q x) from fun x => by
                    rw [hE2.out x, HTK.out, hE.out x, show ms.take j = ms from List.take_of_length_le (by omega), HMS.out x]
                    simp only [List.mem_append, List.mem_singleton, or_assoc]
                    constructor
                    · rintro (h | ⟨q2, h, h3⟩ | h)
                      · exact Or.inl h
                      · exact Or.inr ⟨q2, Or.inl h, h3⟩
                      · exact Or.inr ⟨q, Or.inr rfl, h⟩
                    · rintro (h | ⟨q2, h | h, h3⟩)
                      · exact Or.inl h
                      · exact Or.inr (Or.inl ⟨q2, h, h3⟩)
                      · exact Or.inr (Or.inr (h ▸ h3)))
                  have HO := hid hO
                  have HB := hid hbel
                  clear hO hbel hE2
                  go_wp2_with fail
                  go_roundw
                  case rel => exact ⟨k + 1, M2, by go_num, by omega, HE, HO.out, HB.out⟩
                  case measure => simp [intOf]; omega
          · have hkz : ¬ (k : Int) < (is.length : Int) := by omega
            have HM := hid (show ∀ x, M x = true ↔ Gr.Rch (Gr.nxL l) p x from fun x => by
              rw [hE.out x, List.take_of_length_le (by omega), ← HNX.out]
              constructor
              · rintro (h | ⟨q, h, h3⟩)
                · exact h ▸ .refl _
                · exact .step h h3
              · intro h
                cases h with
                | refl => exact Or.inl rfl
                | step h1 h2 => exact Or.inr ⟨_, h1, h2⟩)
            have HO := hid hO
            have HB := hid hbel
            have hN0 := hid (OwnN.lit wo)
            have hBo := hid (below_new (w := wo) (.cells #[] 3))
            clear hO hbel hE
            go_wp2_with fail
            go_loopw [11, 12] (fun vo vi wr => ∃ (k g c : Nat), vo = .slice (some ⟨g, 0, none⟩) ((List.range k).filter M).length c ∧ vi = .int .i64 k ∧ k ≤ l.length ∧ OwnN wr wo.heap.size (some ⟨g, 0, none⟩) c ((List.range k).filter M) ∧ Below wo.heap.size wo wr) (fun _ vi _ => l.length - (intOf vi).toNat)
            case atStart => exact ⟨0, _, _, rfl, rfl, by omega, hN0.out, hBo.out⟩
            case round =>
              clear hN0 hBo
              obtain ⟨k, g, c, rfl, rfl, hk, hN, hbel⟩ := hrel
              obtain ⟨wj, hwj⟩ : ∃ wj : World, wj = wr := ⟨_, rfl⟩
              subst hwj
              have hlen := Gr.range_filter_len k M
              by_cases hlt : k < l.length
              · have hkz : (k : Int) < (l.length : Int) := by omega
                have m1 : wj.cell? ⟨w3.heap.size, k, none⟩ = some (.bool (M k)) := (hbel.cell (p := ⟨w3.heap.size, k, none⟩) hsz).trans (HO.out.at_ hlt).1
                have hst := Gr.range_filter_next k M
                obtain ⟨bb, hbb⟩ : ∃ bb, M k = bb := ⟨_, rfl⟩
                rw [hbb] at hst m1
                obtain ⟨xs, hxs⟩ : ∃ xs, (List.range k).filter M = xs := ⟨_, rfl⟩
                rw [hxs] at hst hlen hN ⊢
                have HN := hid hN
                have HBJ := hid hbel
                have hsj := hbel.size
                clear hxs hbb hN hbel
                cases bb with
                | true =>
                  rw [if_pos rfl] at hst
                  have HST := hid hst
                  clear hst
                  go_wp2_with (at_builtin; refine wpList_append_own_at _ rfl _ _ 25 rfl wo.heap.size 3 i0 (.int .i64 0) 1 8 Try.underlying25 hi0 hz0 hz1 hz2 rfl (by decide) _ _ _ rfl (World.ownsRow.alloc HN.out _) ⟨wj.heap.size, 0, none⟩ 1 1 [.int .i64 (k : Int)] rfl rfl (cell_one_new _ _ _) (ints_oneCell .i64 [(k : Int)]) (by unfold maxLen; omega) (by omega) (by simp; omega) ?_; intro v' w5 hown' hgrow hnil hloc; obtain ⟨g', cap', rfl⟩ := row_succ hown'; obtain ⟨z1, z2, z3, z4⟩ := HN.out.more hsj hown' hgrow hloc; clear hown' hgrow hnil hloc)
                  go_roundw
                  case rel => exact ⟨k + 1, g', cap', by rw [HST.out]; simp, by go_num, by omega, by rw [HST.out]; exact z1, HBJ.out.trans z2⟩
                  case measure => simp [intOf]; omega
                | false =>
                  rw [if_neg (by simp)] at hst
                  have HST := hid hst
                  clear hst
                  go_wp2_with fail
                  go_roundw
                  case rel => exact ⟨k + 1, g, c, by rw [HST.out], by go_num, by omega, by rw [HST.out]; exact HN.out, HBJ.out⟩
                  case measure => simp [intOf]; omega
              · have hkz : ¬ (k : Int) < (l.length : Int) := by omega
                have e : k = l.length := by omega
                subst e
                have HEQ := hid (show ns = (List.range l.length).filter M from by
                  cases A3.out with
                  | out g => omega
                  | of q2 g1 g2 g3 g4 =>
                    have e : q2 = p := by omega
                    subst e
                    refine Gr.rising_one g3 (Gr.range_filter_rising _ _) fun x => ?_
                    rw [g4 x]
                    simp only [List.mem_filter, List.mem_range, HM.out x]
                    exact ⟨fun h => ⟨h.lt (Gr.nxL_lt l) g2, h⟩, fun h => h.2⟩)
                obtain ⟨xs, hxs⟩ : ∃ xs, (List.range l.length).filter M = xs := ⟨_, rfl⟩
                rw [hxs] at HEQ hlen hN ⊢
                have HBW := hid (X3.out.trans ((HB.out.trans (hbel.mono (by omega))).mono X3.out.size))
                have HB3 := hid (HB.out.trans (hbel.mono (by omega)))
                have HNR := hid hN.rd
                have HAL := hid (law_alive wj)
                clear hxs hN hbel
                have e3 := HEQ.out
                subst e3
                go_wp2_with fail
                refine (HAL.out).mono ?_
                rintro e w6 ⟨rfl, h0⟩
                have X6 := hid (HBW.out.trans (h0.mono HBW.out.size))
                have HE := hid (ints_any ns ns (by omega) (by omega) _ _ w6 ((R3.out.below (HB3.out.trans (h0.mono HB3.out.size))).mono (by have := HB3.out.size; have := h0.size; omega)) ((HNR.out.below h0).mono h0.size))
                rw [decide_eq_true rfl] at HE
                clear h0 HAL
                go_wp2_with fail
                refine (HE.out).mono ?_
                rintro e w7 ⟨rfl, -, h0⟩
                have X7 := hid (X6.out.trans (h0.mono X6.out.size))
                clear h0
                go_wp2_with fail
                go_ret
                exact ⟨rfl, X7.out⟩

set_option maxRecDepth 100000 in
theorem graphReached_lifted (os : Os) (started : os.Started) (H : Type) (enc : TypeId × Value → H) :
    ReturnsInHanded {} Try.checked os 8 .any (Rows.graphReachedSpec.pre6 enc Try.prog Try.f8 Rows.graphReachedRow.domain false) (Rows.graphReachedSpec.post enc Try.prog Try.f8 false true false false) := by
  refine returnsInHanded_of_change (C := Try.checked) own started (by kernel_rfl) Try.func8
    (ChangeSpec.witness6 (enc := enc) (C := Try.checked) false ⟨#[], #[.slice none 0 0, .int .i64 0], []⟩ 8 (by kernel_rfl) (by kernel_rfl) (by kernel_rfl) (by kernel_rfl)) ?_
  intro W base args ds gs before hval0 hW hcnd _
  have hlts := hW.lt
  have hval : ∀ (j : Nat) t v, Try.f8.params[j]? = some t → args[j]? = some v → Value.okWide Try.prog W .any base t v := hval0
  have hW' := hW
  obtain ⟨p, q, hA0, hV, rfl, hfz, hnd⟩ := hW
  have hA : DataW.TrodAll enc Try.prog W 0 (fun _ => true) true Try.f8.params.toList args.toList ds p := hA0
  rw [Try.params8] at hA hval
  obtain ⟨v0, vs0, d0, ds0, p0, q0, hargs0, rfl, rfl, h0, r0⟩ := trodAll_cons hA
  obtain ⟨v1, vs1, d1, ds1, p1, q1, hargs1, rfl, rfl, h1, r1⟩ := trodAll_cons r0
  obtain ⟨hn, rfl, rfl⟩ := trodAll_nil r1
  obtain rfl : args = #[v0, v1] := by cases args; simp_all
  obtain ⟨rfl, rfl⟩ := trodVars_none hV
  obtain ⟨sa0, sl0, sc0, hsv0⟩ := okWide_slice Try.underlying22 (hval 0 22 v0 rfl rfl)
  obtain ⟨fuel0, hf0⟩ := h0
  obtain ⟨u0, l0, hu0, hR0⟩ := rdm_of_trod hf0
  obtain rfl : v0 = u0 := by
    rw [hsv0] at hu0
    rw [hsv0]
    simpa [Value.cells] using hu0
  obtain ⟨a1, rfl, rfl, rfl, w1⟩ := open_int Try.underlying3 (hval 1 3 v1 rfl rfl) h1
  clear hA0 hval0
  simp only [List.append_nil] at hW' hlts
  refine (reached_true v0 l0 hR0 a1 w1 (W := W)).mono fun e W' ⟨he, hB⟩ => ?_
  subst he
  refine ⟨_, rfl, _, _, _, [], (p0 ++ ([] ++ [])), [], by simpa using hW', ?_, ?_, ?_, hB.frame _, fun h => by cases h⟩
  · exact trodAll_cons_mk (shut_bool Try.underlying4 _) trodAll_mk0
  · exact (trodAll_cons_mk (Below.trod (by kernel_rfl) (by kernel_rfl) (of_decide_eq_true (by kernel_rfl)) ⟨fuel0, hf0⟩ hB (fun x hx => hlts x (by simp [hx]))) (trodAll_cons_mk (shut_int Try.underlying3 w1) trodAll_mk0))
  · rfl

/-- GraphReached: the given statement. -/
theorem graphReached_holds : Rows.GraphReachedSaid :=
  OpenClaim.holds_of_wide 8 Try.f8 rfl rfl rfl rfl rfl rfl rfl ⟨rfl, rfl, rfl, rfl, rfl⟩ rfl rfl rfl rfl rfl (by kernel_rfl) Try.func8 (by kernel_rfl)
    (of_decide_eq_true (by kernel_rfl)) (by unfold Func.isWrapper; first | (rw [if_pos (by decide +kernel)]; kernel_rfl) | (rw [if_neg (by decide +kernel)]; exact ⟨rfl, rfl⟩))
    (fun os started H enc _ => graphReached_lifted os started H enc)

end Go.Proofs.Ytifcilhcjghmkaa.graphReached
