/-
  GraphTurned is true for any modules. No conditions.
-/
import Derived.Test.YtahaflapkdjmhaaRows
import Derived.Test.YtahaflapkdjmhaaGrZa
import Derived.Test.YtahaflapkdjmhaaGrZb
import Derived.Test.YtahaflapkdjmhaaGrZd
import Derived.Deep.RegionHeld3
namespace Go.Proofs.Ytahaflapkdjmhaa.graphTurned
open Go.ChangeShapes Go.WideShapes Go.ChangeAt Go.RowKit

theorem own : ownKnob Try.prog.godebug = none := by kernel_rfl

abbrev Post (w : World) (e : Ending) (w' : World) : Prop := e = .returned (.bool true) ∧ Below w.heap.size w w'

set_option maxHeartbeats 16000000 in
set_option maxRecDepth 1000000 in
theorem turned_true {W : World} (v : Value) (l : List Gr.Md) (hl : RdM W W.heap.size v l) :
    Calls Try.prog 3 #[v] W (Post W) := by
  have L0 := hid hl
  have HF := hid (few_any l v W hl)
  obtain ⟨i0, hi0, hz0, hz1, hz2⟩ := info_parts info_mod
  obtain ⟨ys, hym, hyo, hyc⟩ := rows_of hl
  obtain ⟨A, cap, rfl, -, -, -⟩ := hl
  have HYM := hid hym
  have HYO := hid hyo
  have HYC := hid hyc
  clear hym hyo hyc
  go_enter Try.func3, Try.ntmps3
  go_wp2_with fail
  refine (HF.out).mono ?_
  rintro e w1 ⟨b, rfl, hb, rfl⟩
  cases b with
  | false =>
    have HAL := hid (law_alive W)
    clear hb HF
    go_wp2_with fail
    refine (HAL.out).mono ?_
    rintro e w2 ⟨rfl, h0⟩
    have X2 := hid h0
    clear h0
    go_wp2_with fail
    go_ret
    exact ⟨rfl, X2.out⟩
  | true =>
    have HQ := hid (hb.1 rfl)
    have hn := HQ.out.n
    clear hb HF
    have hyl : ys.length = l.length := by have := congrArg List.length HYM.out; simpa using this
    have HYL := hid hyl
    have hOW : (W.alloc (.cells #[] 29)).ownsRow W.heap.size 29 4 (.slice (some ⟨W.heap.size, 0, none⟩) 0 0) 0 (cellsR []) := World.ownsRow_lit W #[] 0 (Nat.le_refl _) (by decide) rfl
    have HOW := hid hOW
    have HBW := hid (below_new (w := W) (.cells #[] 29))
    clear hOW hyl
    go_wp2_with fail
    go_loopw [3, 4] (fun vo vi wr => ∃ (k g c : Nat) (z : Int), vo = .slice (some ⟨g, 0, none⟩) k c ∧ vi = .int .i64 z ∧ Hid (z = (l.length : Int) - 1 - (k : Int)) ∧ k ≤ l.length ∧ Hid (wr.ownsRow W.heap.size 29 4 (.slice (some ⟨g, 0, none⟩) k c) k (cellsR (ys.reverse.take k))) ∧ Below W.heap.size W wr) (fun _ vi _ => (intOf vi + 1).toNat)
    case atStart => exact ⟨0, W.heap.size, 0, _, rfl, rfl, hid (by omega), by omega, HOW, HBW.out⟩
    case round =>
      clear HOW HBW
      obtain ⟨k, g, c, z, rfl, rfl, hz, hk, HO, hbel⟩ := hrel
      obtain ⟨wo, hwo⟩ : ∃ wo : World, wo = wr := ⟨_, rfl⟩
      subst hwo
      have hsz := hbel.size
      by_cases hlt : k < l.length
      · obtain ⟨x, rfl⟩ : ∃ x : Nat, z = x := ⟨z.toNat, by have := hz.out; omega⟩
        have hxk : x + 1 + k = l.length := by have := hz.out; omega
        have HXK := hid hxk
        have hxl : x < l.length := by omega
        have hxz : (x : Int) < (l.length : Int) := by omega
        have hxy : x < ys.length := by rw [HYL.out]; exact hxl
        obtain ⟨b, o, c', Ai, ci, Ad, nd, cd, As, nn, cs, hv, hbb, -⟩ := L0.out.at_ (Below.refl _ _) hxl
        simp only [Value.slice.injEq, true_and] at hv
        obtain ⟨rfl, rfl⟩ := hv
        obtain ⟨c0, c1, c2, c3⟩ := HYC.out x hxy b o cap rfl
        have htk : ys.reverse.take (k + 1) = ys.reverse.take k ++ [ys[x]] := by
          rw [List.take_succ_eq_append_getElem (by rw [List.length_reverse]; have := HYL.out; omega), List.getElem_reverse]
          congr 3
          have := HYL.out
          omega
        have hok := HYO.out ys[x] (List.getElem_mem hxy)
        obtain ⟨y, hy⟩ : ∃ y, ys[x] = y := ⟨_, rfl⟩
        rw [hy] at c0 c1 c2 c3 htk hok
        obtain ⟨A1, cc1, e1, -⟩ := id hok.imps
        have HONE := hid (row_one (y := y) ⟨_, _, _, e1⟩ hok.defs hok.sites)
        obtain ⟨A2, n2, cc2, e2⟩ := hok.defs
        obtain ⟨A3, n3, cc3, e3⟩ := hok.sites
        have d0 := (hbel.cell (p := ⟨b, o + x * 4, none⟩) hbb).trans c0
        have d1 := (hbel.cell (p := ⟨b, o + x * 4 + 1, none⟩) hbb).trans c1
        have d2 := (hbel.cell (p := ⟨b, o + x * 4 + 2, none⟩) hbb).trans c2
        have d3 := (hbel.cell (p := ⟨b, o + x * 4 + 3, none⟩) hbb).trans c3
        have HCY := hid (show y.cells = [.string y.m.name, .slice A1 y.m.imps.length cc1, .slice A2 n2 cc2, .slice A3 n3 cc3] by unfold Row.cells; rw [e1, e2, e3])
        rw [e1] at d1
        rw [e2] at d2
        rw [e3] at d3
        obtain ⟨t, ht⟩ : ∃ t, y.m.name = t := ⟨_, rfl⟩
        obtain ⟨nI, hnI⟩ : ∃ nI, y.m.imps.length = nI := ⟨_, rfl⟩
        rw [ht, hnI] at HCY
        rw [ht] at d0
        rw [hnI] at d1
        rw [HCY.out] at HONE
        have HTK := hid (show cellsR (ys.reverse.take (k + 1)) = cellsR (ys.reverse.take k) ++ [.string t, .slice A1 nI cc1, .slice A2 n2 cc2, .slice A3 n3 cc3] from by rw [htk, cellsR_snoc, HCY.out])
        have HB := hid hbel
        have hk20 : k < 20 := by omega
        clear c0 c1 c2 c3 hbel htk hok hy e1 e2 e3 hz ht hnI hxk
        go_wp2_with (at_builtin; refine wpList_append_own_at _ rfl _ _ 22 rfl W.heap.size 29 i0 (.agg #[.string ⟨#[]⟩, .slice none 0 0, .slice none 0 0, .slice none 0 0]) 4 88 Try.underlying22 hi0 hz0 hz1 hz2 rfl (by decide) _ _ _ rfl (World.ownsRow.alloc HO.out _) ⟨wo.heap.size, 0, none⟩ 1 1 [.string t, .slice A1 nI cc1, .slice A2 n2 cc2, .slice A3 n3 cc3] rfl rfl (cells_new4 _ _ _ _ _ _) HONE.out (by unfold maxLen; omega) (by omega) (by simp; omega) ?_; intro v' w5 hown' hgrow hnil hloc; obtain ⟨g', cap', rfl⟩ := row_succ hown')
        go_roundw
        case rel => exact ⟨k + 1, g', cap', (x : Int) - 1, rfl, by go_num, hid (by have := HXK.out; omega), by omega, hid (by rw [HTK.out]; exact hown'), (HB.out.alloc hsz _).grown hgrow (by simp; omega) (fun q hq => (World.ownsRow.lt HO.out q hq).1)⟩
        case measure => simp [intOf] <;> omega
      · have hz1' : ¬ (0 : Int) ≤ z := by have := hz.out; omega
        have e : k = l.length := by omega
        subst e
        have hyr : ys.reverse.length = l.length := by rw [List.length_reverse]; exact HYL.out
        have hO := HO.out
        rw [List.take_of_length_le (by omega), ← hyr] at hO
        have hR := rdm_own hO (fun y hy => HYO.out y (List.mem_reverse.1 hy)) hbel hbel.size
        rw [hyr, List.map_reverse, HYM.out] at hR
        have HR := hid hR
        have L1 := hid ((L0.out.below hbel).mono hbel.size)
        have X1 := hid hbel
        have HN := hid (order_any l HQ.out _ wo L1.out)
        clear hbel HO hO hR hyr hz
        go_wp2_with fail
        refine (HN.out).mono ?_
        rintro e w3 ⟨v3, oa, at1, e1, rfl, hr, ha, h0⟩
        have X3 := hid (X1.out.trans (h0.mono X1.out.size))
        have L3 := hid ((L1.out.below h0).mono h0.size)
        have S3 := hid ((HR.out.below h0).mono h0.size)
        have R3 := hid hr
        have HA := hid ha
        obtain ⟨A3, k3, rfl, -, -, -⟩ := hr
        have HM := hid (order_any l.reverse (few_rev HQ.out) (.slice (some ⟨g, 0, none⟩) l.length c) w3 S3.out)
        clear h0 ha HN
        go_wp2_with fail
        refine (HM.out).mono ?_
        rintro e w4 ⟨v4, ob, at2, e2, rfl, hr, hb, h0⟩
        obtain ⟨q1, q2, q3, q4⟩ := HA.out.rev hb
        have X4 := hid (X3.out.trans (h0.mono X3.out.size))
        have L4 := hid ((L3.out.below h0).mono h0.size)
        have S4 := hid ((S3.out.below h0).mono h0.size)
        have R4 := hid ((R3.out.below h0).mono h0.size)
        have T4 := hid hr
        have HQ3 := hid q3
        have HQ4 := hid q4
        have hal := HA.out.len
        subst q1
        obtain ⟨A4, k4, rfl, -, -, -⟩ := hr
        rw [← q2] at T4 ⊢
        have HLEN := hid q2
        have hal2 : oa.length ≤ 20 := by omega
        clear h0 hb HM q2 q3 q4
        go_wp2_with fail
        go_loopw [11] (fun vi wr => ∃ k : Nat, vi = .int .i64 k ∧ k ≤ oa.length ∧ Below w4.heap.size w4 wr) (fun vi _ => oa.length - (intOf vi).toNat)
        case atStart => exact ⟨0, rfl, by omega, Below.refl _ _⟩
        case round =>
          obtain ⟨k, rfl, hk, hbel⟩ := hrel
          obtain ⟨wj, hwj⟩ : ∃ wj : World, wj = wr := ⟨_, rfl⟩
          subst hwj
          by_cases hlt : k < oa.length
          · have hkz : (k : Int) < (oa.length : Int) := by omega
            have hkb : k < ob.length := by have := HLEN.out; omega
            obtain ⟨g3, rfl, hg3, y1⟩ := R4.out.atv hbel hlt
            obtain ⟨g4, rfl, hg4, y2⟩ := T4.out.atv hbel hkb
            obtain ⟨h1, h2, h3⟩ := HQ3.out k hlt hkb
            obtain ⟨p, hp⟩ : ∃ p, oa[k] = p := ⟨_, rfl⟩
            obtain ⟨q, hq⟩ : ∃ q, ob[k] = q := ⟨_, rfl⟩
            rw [hp] at y1 h1 h3
            rw [hq] at y2 h2 h3
            have h2r : q < l.reverse.length := by rw [List.length_reverse]; exact h2
            obtain ⟨b, o, c', Ai, ci, Ad, nd, cd, As, nn, cs, hv, hbb, z0, -⟩ := L4.out.at_ hbel h1
            simp only [Value.slice.injEq, true_and] at hv
            obtain ⟨rfl, rfl⟩ := hv
            obtain ⟨b', o', c', Ai', ci', Ad', nd', cd', As', nn', cs', hv, hbb', z1, -⟩ := S4.out.at_ hbel h2r
            simp only [Value.slice.injEq, Option.some.injEq, Addr.mk.injEq, and_true] at hv
            obtain ⟨⟨rfl, rfl⟩, -, rfl⟩ := hv
            rw [Gr.nm_at h1, Gr.nm_at h2r] at h3
            rw [← h3] at z1
            obtain ⟨t, ht⟩ : ∃ t, l[p].name = t := ⟨_, rfl⟩
            rw [ht] at z0 z1
            have hpz : (p : Int) < (l.length : Int) := by omega
            have hqz : (q : Int) < (l.length : Int) := by omega
            have HB := hid hbel
            rw [Nat.zero_add] at z1
            clear hbel hp hq h1 h2 h3 ht h2r hkb
            go_wp2_with fail
            go_quiet (fail)
            obtain ⟨wz, hwz⟩ : ∃ wz, wj.drewN nq = wz := ⟨_, rfl⟩
            have HBZ := hid (show Below w4.heap.size w4 wz from hwz ▸ HB.out.trans (below_drewN _ _ _))
            rw [hwz]
            clear hwz y1 y2 z0 z1
            go_wp2_with fail
            go_roundw
            case rel => exact ⟨k + 1, by go_num, by omega, HBZ.out⟩
            case measure => simp [intOf]; omega
          · have hkz : ¬ (k : Int) < (oa.length : Int) := by omega
            have HBW := hid (X4.out.trans (hbel.mono X4.out.size))
            have hlaw := HBW.out.size
            have HC := hid (fun (V V5 : World) (h0 : Below V.heap.size V V5) (hV : V.heap = wj.heap ∧ V.os = wj.os ∧ V.tape = wj.tape ∧ V.output = wj.output) => (⟨h0.os.trans hV.2.1, h0.tape.trans hV.2.2.1, h0.output.trans hV.2.2.2, hV.1 ▸ h0.size, fun q hq => (h0.block q (by rw [hV.1]; exact hq)).trans (by rw [hV.1])⟩ : Below wj.heap.size wj V5))
            by_cases h8 : e1 = 8
            · subst h8
              obtain ⟨p, q, rfl, rfl, h1, h2, h3⟩ := HQ4.out rfl
              have h2r : q < l.reverse.length := by rw [List.length_reverse]; exact h2
              obtain ⟨b, o, c', Ai, ci, Ad, nd, cd, As, nn, cs, hv, hbb, z0, -⟩ := L4.out.at_ hbel h1
              simp only [Value.slice.injEq, true_and] at hv
              obtain ⟨rfl, rfl⟩ := hv
              obtain ⟨b', o', c', Ai', ci', Ad', nd', cd', As', nn', cs', hv, hbb', z1, -⟩ := S4.out.at_ hbel h2r
              simp only [Value.slice.injEq, Option.some.injEq, Addr.mk.injEq, and_true] at hv
              obtain ⟨⟨rfl, rfl⟩, -, rfl⟩ := hv
              rw [Gr.nm_at h1, Gr.nm_at h2r] at h3
              rw [← h3] at z1
              obtain ⟨t, ht⟩ : ∃ t, l[p].name = t := ⟨_, rfl⟩
              rw [ht] at z0 z1
              rw [Nat.zero_add] at z1
              have hpz : (p : Int) < (l.length : Int) := by omega
              have hqz : (q : Int) < (l.length : Int) := by omega
              have hbw1 := Nat.lt_of_lt_of_le hbb hbel.size
              have hbw2 := Nat.lt_of_lt_of_le hbb' hbel.size
              have Z0 := hid z0
              have Z1 := hid z1
              clear ht h3 h1 h2 h2r hbel hbb hbb'
              go_wp2_with fail
              go_region_held3 (fun w' => w'.cell? ⟨b, o + p * 4, none⟩ = some (.string t) ∧ w'.cell? ⟨g, q * 4, none⟩ = some (.string t)) (go_keep) (first
                | (go_at_call 6
                   refine (law_alive _).mono ?_
                   rintro e w5 ⟨rfl, h0⟩
                   have k0 : w5.cell? ⟨b, o + p * 4, none⟩ = some (.string t) := (h0.cell (p := ⟨b, o + p * 4, none⟩) hbw1).trans Z0.out
                   have k1 : w5.cell? ⟨g, q * 4, none⟩ = some (.string t) := (h0.cell (p := ⟨g, q * 4, none⟩) hbw2).trans Z1.out
                   have X5 := hid (HBW.out.trans ((HC.out _ _ h0 ⟨rfl, rfl, rfl, rfl⟩).mono hlaw))
                   clear h0))
              all_goals
                go_wp2_with fail
                go_ret
                exact ⟨rfl, X5.out⟩
            · have h3c : e1 = 0 ∨ e1 = 6 ∨ e1 = 7 := by
                cases HA.out with
                | again a1 a2 a3 a4 => omega
                | lost a0 a1 a2 a3 a4 => omega
                | cycle m a0 a1 am a2 a3 a4 => omega
                | order a0 a1 ag al ac a3 a4 => omega
              clear hbel h8
              rcases h3c with rfl | rfl | rfl
              · clear HA HQ4 HQ3
                go_wp2_with fail
                refine wp_region_any (by kernel_rfl) ?_
                refine wpAny_ready (rs := [0]) (by kernel_rfl) (by simp) ?_
                refine AllReady.cons rfl (fun K hK => ?_) AllReady.nil
                go_simp
                refine (law_alive _).mono ?_
                rintro e w5 ⟨rfl, h0⟩
                have X5 := hid (HBW.out.trans ((HC.out _ _ h0 ⟨rfl, rfl, rfl, rfl⟩).mono hlaw))
                clear h0
                refine hK _ _ ?_
                clear hK K
                refine wpAny_take (i := 1) (oi := ⟨some 77, _, _, _, _, _⟩) (v := .bool true) rfl (by kernel_rfl) (by kernel_rfl) (by kernel_rfl) (fun _ _ _ h => h) (Or.inl ⟨by kernel_rfl, ?_⟩) ?_
                · intro w; go_simp
                refine wpAny_take (i := 2) (oi := ⟨some 78, _, _, _, _, _⟩) (v := .int .i64 0) rfl (by kernel_rfl) (by kernel_rfl) (by kernel_rfl) (fun _ _ _ h => h) (Or.inl ⟨by kernel_rfl, ?_⟩) ?_
                · intro w; go_simp
                refine wpAny_take (i := 3) (oi := ⟨some 79, _, _, _, _, _⟩) (v := .bool true) rfl (by kernel_rfl) (by kernel_rfl) (by kernel_rfl) (fun _ _ _ h => h) (Or.inl ⟨by kernel_rfl, ?_⟩) ?_
                · intro w; go_simp
                refine wpAny_take (i := 4) (oi := ⟨some 80, _, _, _, _, _⟩) (v := .bool true) rfl (by kernel_rfl) (by kernel_rfl) (by kernel_rfl) (fun _ _ _ h => h) (Or.inl ⟨by kernel_rfl, ?_⟩) ?_
                · intro w; go_simp
                refine wpAny_take (i := 5) (oi := ⟨some 81, _, _, _, _, _⟩) (v := undef) rfl (by kernel_rfl) (by kernel_rfl) (by kernel_rfl) (fun _ _ _ h => h) (Or.inr ⟨by kernel_rfl, rfl⟩) ?_
                refine wpAny_take (i := 6) (oi := ⟨some 82, _, _, _, _, _⟩) (v := undef) rfl (by kernel_rfl) (by kernel_rfl) (by kernel_rfl) (fun _ _ _ h => h) (Or.inr ⟨by kernel_rfl, rfl⟩) ?_
                refine wpAny_take (i := 7) (oi := ⟨some 83, _, _, _, _, _⟩) (v := undef) rfl (by kernel_rfl) (by kernel_rfl) (by kernel_rfl) (fun _ _ _ h => h) (Or.inr ⟨by kernel_rfl, rfl⟩) ?_
                refine wpAny_take (i := 8) (oi := ⟨some 84, _, _, _, _, _⟩) (v := undef) rfl (by kernel_rfl) (by kernel_rfl) (by kernel_rfl) (fun _ _ _ h => h) (Or.inr ⟨by kernel_rfl, rfl⟩) ?_
                refine wpAny_take (i := 9) (oi := ⟨some 85, _, _, _, _, _⟩) (v := undef) rfl (by kernel_rfl) (by kernel_rfl) (by kernel_rfl) (fun _ _ _ h => h) (Or.inr ⟨by kernel_rfl, rfl⟩) ?_
                refine wpAny_take (i := 10) (oi := ⟨some 86, _, _, _, _, _⟩) (v := undef) rfl (by kernel_rfl) (by kernel_rfl) (by kernel_rfl) (fun _ _ _ h => h) (Or.inr ⟨by kernel_rfl, rfl⟩) ?_
                refine wpAny_take (i := 11) (oi := ⟨some 87, _, _, _, _, _⟩) (v := undef) rfl (by kernel_rfl) (by kernel_rfl) (by kernel_rfl) (fun _ _ _ h => h) (Or.inr ⟨by kernel_rfl, rfl⟩) ?_
                refine wpAny_take (i := 12) (oi := ⟨some 88, _, _, _, _, _⟩) (v := undef) rfl (by kernel_rfl) (by kernel_rfl) (by kernel_rfl) (fun _ _ _ h => h) (Or.inr ⟨by kernel_rfl, rfl⟩) ?_
                refine wpAny_take (i := 13) (oi := ⟨some 89, _, _, _, _, _⟩) (v := undef) rfl (by kernel_rfl) (by kernel_rfl) (by kernel_rfl) (fun _ _ _ h => h) (Or.inr ⟨by kernel_rfl, rfl⟩) ?_
                refine wpAny_take (i := 14) (oi := ⟨some 90, _, _, _, _, _⟩) (v := undef) rfl (by kernel_rfl) (by kernel_rfl) (by kernel_rfl) (fun _ _ _ h => h) (Or.inr ⟨by kernel_rfl, rfl⟩) ?_
                refine wpAny_take (i := 15) (oi := ⟨some 91, _, _, _, _, _⟩) (v := undef) rfl (by kernel_rfl) (by kernel_rfl) (by kernel_rfl) (fun _ _ _ h => h) (Or.inr ⟨by kernel_rfl, rfl⟩) ?_
                refine wpAny_take (i := 16) (oi := ⟨some 92, _, _, _, _, _⟩) (v := .bool true) rfl (by kernel_rfl) (by kernel_rfl) (by kernel_rfl) (fun _ _ _ h => h) (Or.inl ⟨by kernel_rfl, ?_⟩) ?_
                · intro w; go_simp
                refine wpAny_take (i := 17) (oi := ⟨some 93, _, _, _, _, _⟩) (v := .bool true) rfl (by kernel_rfl) (by kernel_rfl) (by kernel_rfl) (fun _ _ _ h => h) (Or.inl ⟨by kernel_rfl, ?_⟩) ?_
                · intro w; go_simp
                refine wpAny_take (i := 18) (oi := ⟨some 2, _, _, _, _, _⟩) (v := .bool true) rfl (by kernel_rfl) (by kernel_rfl) (by kernel_rfl) (fun _ _ _ h => h) (Or.inl ⟨by kernel_rfl, ?_⟩) ?_
                · intro w; go_simp
                refine wpAny_done (by kernel_rfl) ?_ _
                simp only [Act.put, List.setIfInBounds_toArray, List.set_cons_zero, List.set_cons_succ]
                go_wp2_with fail
                go_ret
                exact ⟨rfl, X5.out⟩
              · clear HA HQ4 HQ3
                go_wp2_with fail
                refine wp_region_any (by kernel_rfl) ?_
                refine wpAny_ready (rs := [0]) (by kernel_rfl) (by simp) ?_
                refine AllReady.cons rfl (fun K hK => ?_) AllReady.nil
                go_simp
                refine (law_alive _).mono ?_
                rintro e w5 ⟨rfl, h0⟩
                have X5 := hid (HBW.out.trans ((HC.out _ _ h0 ⟨rfl, rfl, rfl, rfl⟩).mono hlaw))
                clear h0
                refine hK _ _ ?_
                clear hK K
                refine wpAny_take (i := 1) (oi := ⟨some 77, _, _, _, _, _⟩) (v := .bool true) rfl (by kernel_rfl) (by kernel_rfl) (by kernel_rfl) (fun _ _ _ h => h) (Or.inl ⟨by kernel_rfl, ?_⟩) ?_
                · intro w; go_simp
                refine wpAny_take (i := 2) (oi := ⟨some 78, _, _, _, _, _⟩) (v := .int .i64 6) rfl (by kernel_rfl) (by kernel_rfl) (by kernel_rfl) (fun _ _ _ h => h) (Or.inl ⟨by kernel_rfl, ?_⟩) ?_
                · intro w; go_simp
                refine wpAny_take (i := 3) (oi := ⟨some 79, _, _, _, _, _⟩) (v := .bool true) rfl (by kernel_rfl) (by kernel_rfl) (by kernel_rfl) (fun _ _ _ h => h) (Or.inl ⟨by kernel_rfl, ?_⟩) ?_
                · intro w; go_simp
                refine wpAny_take (i := 4) (oi := ⟨some 80, _, _, _, _, _⟩) (v := .bool true) rfl (by kernel_rfl) (by kernel_rfl) (by kernel_rfl) (fun _ _ _ h => h) (Or.inl ⟨by kernel_rfl, ?_⟩) ?_
                · intro w; go_simp
                refine wpAny_take (i := 5) (oi := ⟨some 81, _, _, _, _, _⟩) (v := undef) rfl (by kernel_rfl) (by kernel_rfl) (by kernel_rfl) (fun _ _ _ h => h) (Or.inr ⟨by kernel_rfl, rfl⟩) ?_
                refine wpAny_take (i := 6) (oi := ⟨some 82, _, _, _, _, _⟩) (v := undef) rfl (by kernel_rfl) (by kernel_rfl) (by kernel_rfl) (fun _ _ _ h => h) (Or.inr ⟨by kernel_rfl, rfl⟩) ?_
                refine wpAny_take (i := 7) (oi := ⟨some 83, _, _, _, _, _⟩) (v := undef) rfl (by kernel_rfl) (by kernel_rfl) (by kernel_rfl) (fun _ _ _ h => h) (Or.inr ⟨by kernel_rfl, rfl⟩) ?_
                refine wpAny_take (i := 8) (oi := ⟨some 84, _, _, _, _, _⟩) (v := undef) rfl (by kernel_rfl) (by kernel_rfl) (by kernel_rfl) (fun _ _ _ h => h) (Or.inr ⟨by kernel_rfl, rfl⟩) ?_
                refine wpAny_take (i := 9) (oi := ⟨some 85, _, _, _, _, _⟩) (v := undef) rfl (by kernel_rfl) (by kernel_rfl) (by kernel_rfl) (fun _ _ _ h => h) (Or.inr ⟨by kernel_rfl, rfl⟩) ?_
                refine wpAny_take (i := 10) (oi := ⟨some 86, _, _, _, _, _⟩) (v := undef) rfl (by kernel_rfl) (by kernel_rfl) (by kernel_rfl) (fun _ _ _ h => h) (Or.inr ⟨by kernel_rfl, rfl⟩) ?_
                refine wpAny_take (i := 11) (oi := ⟨some 87, _, _, _, _, _⟩) (v := undef) rfl (by kernel_rfl) (by kernel_rfl) (by kernel_rfl) (fun _ _ _ h => h) (Or.inr ⟨by kernel_rfl, rfl⟩) ?_
                refine wpAny_take (i := 12) (oi := ⟨some 88, _, _, _, _, _⟩) (v := undef) rfl (by kernel_rfl) (by kernel_rfl) (by kernel_rfl) (fun _ _ _ h => h) (Or.inr ⟨by kernel_rfl, rfl⟩) ?_
                refine wpAny_take (i := 13) (oi := ⟨some 89, _, _, _, _, _⟩) (v := undef) rfl (by kernel_rfl) (by kernel_rfl) (by kernel_rfl) (fun _ _ _ h => h) (Or.inr ⟨by kernel_rfl, rfl⟩) ?_
                refine wpAny_take (i := 14) (oi := ⟨some 90, _, _, _, _, _⟩) (v := undef) rfl (by kernel_rfl) (by kernel_rfl) (by kernel_rfl) (fun _ _ _ h => h) (Or.inr ⟨by kernel_rfl, rfl⟩) ?_
                refine wpAny_take (i := 15) (oi := ⟨some 91, _, _, _, _, _⟩) (v := undef) rfl (by kernel_rfl) (by kernel_rfl) (by kernel_rfl) (fun _ _ _ h => h) (Or.inr ⟨by kernel_rfl, rfl⟩) ?_
                refine wpAny_take (i := 16) (oi := ⟨some 92, _, _, _, _, _⟩) (v := .bool true) rfl (by kernel_rfl) (by kernel_rfl) (by kernel_rfl) (fun _ _ _ h => h) (Or.inl ⟨by kernel_rfl, ?_⟩) ?_
                · intro w; go_simp
                refine wpAny_take (i := 17) (oi := ⟨some 93, _, _, _, _, _⟩) (v := .bool true) rfl (by kernel_rfl) (by kernel_rfl) (by kernel_rfl) (fun _ _ _ h => h) (Or.inl ⟨by kernel_rfl, ?_⟩) ?_
                · intro w; go_simp
                refine wpAny_take (i := 18) (oi := ⟨some 2, _, _, _, _, _⟩) (v := .bool true) rfl (by kernel_rfl) (by kernel_rfl) (by kernel_rfl) (fun _ _ _ h => h) (Or.inl ⟨by kernel_rfl, ?_⟩) ?_
                · intro w; go_simp
                refine wpAny_done (by kernel_rfl) ?_ _
                simp only [Act.put, List.setIfInBounds_toArray, List.set_cons_zero, List.set_cons_succ]
                go_wp2_with fail
                go_ret
                exact ⟨rfl, X5.out⟩
              · clear HA HQ4 HQ3
                go_wp2_with fail
                refine wp_region_any (by kernel_rfl) ?_
                refine wpAny_ready (rs := [0]) (by kernel_rfl) (by simp) ?_
                refine AllReady.cons rfl (fun K hK => ?_) AllReady.nil
                go_simp
                refine (law_alive _).mono ?_
                rintro e w5 ⟨rfl, h0⟩
                have X5 := hid (HBW.out.trans ((HC.out _ _ h0 ⟨rfl, rfl, rfl, rfl⟩).mono hlaw))
                clear h0
                refine hK _ _ ?_
                clear hK K
                refine wpAny_take (i := 1) (oi := ⟨some 77, _, _, _, _, _⟩) (v := .bool true) rfl (by kernel_rfl) (by kernel_rfl) (by kernel_rfl) (fun _ _ _ h => h) (Or.inl ⟨by kernel_rfl, ?_⟩) ?_
                · intro w; go_simp
                refine wpAny_take (i := 2) (oi := ⟨some 78, _, _, _, _, _⟩) (v := .int .i64 7) rfl (by kernel_rfl) (by kernel_rfl) (by kernel_rfl) (fun _ _ _ h => h) (Or.inl ⟨by kernel_rfl, ?_⟩) ?_
                · intro w; go_simp
                refine wpAny_take (i := 3) (oi := ⟨some 79, _, _, _, _, _⟩) (v := .bool true) rfl (by kernel_rfl) (by kernel_rfl) (by kernel_rfl) (fun _ _ _ h => h) (Or.inl ⟨by kernel_rfl, ?_⟩) ?_
                · intro w; go_simp
                refine wpAny_take (i := 4) (oi := ⟨some 80, _, _, _, _, _⟩) (v := .bool true) rfl (by kernel_rfl) (by kernel_rfl) (by kernel_rfl) (fun _ _ _ h => h) (Or.inl ⟨by kernel_rfl, ?_⟩) ?_
                · intro w; go_simp
                refine wpAny_take (i := 5) (oi := ⟨some 81, _, _, _, _, _⟩) (v := undef) rfl (by kernel_rfl) (by kernel_rfl) (by kernel_rfl) (fun _ _ _ h => h) (Or.inr ⟨by kernel_rfl, rfl⟩) ?_
                refine wpAny_take (i := 6) (oi := ⟨some 82, _, _, _, _, _⟩) (v := undef) rfl (by kernel_rfl) (by kernel_rfl) (by kernel_rfl) (fun _ _ _ h => h) (Or.inr ⟨by kernel_rfl, rfl⟩) ?_
                refine wpAny_take (i := 7) (oi := ⟨some 83, _, _, _, _, _⟩) (v := undef) rfl (by kernel_rfl) (by kernel_rfl) (by kernel_rfl) (fun _ _ _ h => h) (Or.inr ⟨by kernel_rfl, rfl⟩) ?_
                refine wpAny_take (i := 8) (oi := ⟨some 84, _, _, _, _, _⟩) (v := undef) rfl (by kernel_rfl) (by kernel_rfl) (by kernel_rfl) (fun _ _ _ h => h) (Or.inr ⟨by kernel_rfl, rfl⟩) ?_
                refine wpAny_take (i := 9) (oi := ⟨some 85, _, _, _, _, _⟩) (v := undef) rfl (by kernel_rfl) (by kernel_rfl) (by kernel_rfl) (fun _ _ _ h => h) (Or.inr ⟨by kernel_rfl, rfl⟩) ?_
                refine wpAny_take (i := 10) (oi := ⟨some 86, _, _, _, _, _⟩) (v := undef) rfl (by kernel_rfl) (by kernel_rfl) (by kernel_rfl) (fun _ _ _ h => h) (Or.inr ⟨by kernel_rfl, rfl⟩) ?_
                refine wpAny_take (i := 11) (oi := ⟨some 87, _, _, _, _, _⟩) (v := undef) rfl (by kernel_rfl) (by kernel_rfl) (by kernel_rfl) (fun _ _ _ h => h) (Or.inr ⟨by kernel_rfl, rfl⟩) ?_
                refine wpAny_take (i := 12) (oi := ⟨some 88, _, _, _, _, _⟩) (v := undef) rfl (by kernel_rfl) (by kernel_rfl) (by kernel_rfl) (fun _ _ _ h => h) (Or.inr ⟨by kernel_rfl, rfl⟩) ?_
                refine wpAny_take (i := 13) (oi := ⟨some 89, _, _, _, _, _⟩) (v := undef) rfl (by kernel_rfl) (by kernel_rfl) (by kernel_rfl) (fun _ _ _ h => h) (Or.inr ⟨by kernel_rfl, rfl⟩) ?_
                refine wpAny_take (i := 14) (oi := ⟨some 90, _, _, _, _, _⟩) (v := undef) rfl (by kernel_rfl) (by kernel_rfl) (by kernel_rfl) (fun _ _ _ h => h) (Or.inr ⟨by kernel_rfl, rfl⟩) ?_
                refine wpAny_take (i := 15) (oi := ⟨some 91, _, _, _, _, _⟩) (v := undef) rfl (by kernel_rfl) (by kernel_rfl) (by kernel_rfl) (fun _ _ _ h => h) (Or.inr ⟨by kernel_rfl, rfl⟩) ?_
                refine wpAny_take (i := 16) (oi := ⟨some 92, _, _, _, _, _⟩) (v := .bool true) rfl (by kernel_rfl) (by kernel_rfl) (by kernel_rfl) (fun _ _ _ h => h) (Or.inl ⟨by kernel_rfl, ?_⟩) ?_
                · intro w; go_simp
                refine wpAny_take (i := 17) (oi := ⟨some 93, _, _, _, _, _⟩) (v := .bool true) rfl (by kernel_rfl) (by kernel_rfl) (by kernel_rfl) (fun _ _ _ h => h) (Or.inl ⟨by kernel_rfl, ?_⟩) ?_
                · intro w; go_simp
                refine wpAny_take (i := 18) (oi := ⟨some 2, _, _, _, _, _⟩) (v := .bool true) rfl (by kernel_rfl) (by kernel_rfl) (by kernel_rfl) (fun _ _ _ h => h) (Or.inl ⟨by kernel_rfl, ?_⟩) ?_
                · intro w; go_simp
                refine wpAny_done (by kernel_rfl) ?_ _
                simp only [Act.put, List.setIfInBounds_toArray, List.set_cons_zero, List.set_cons_succ]
                go_wp2_with fail
                go_ret
                exact ⟨rfl, X5.out⟩

set_option maxRecDepth 100000 in
theorem graphTurned_lifted (os : Os) (started : os.Started) (H : Type) (enc : TypeId × Value → H) :
    ReturnsInHanded {} Try.checked os 3 .any (Rows.graphTurnedSpec.pre6 enc Try.prog Try.f3 Rows.graphTurnedRow.domain false) (Rows.graphTurnedSpec.post enc Try.prog Try.f3 false true false false) := by
  refine returnsInHanded_of_change (C := Try.checked) own started (by kernel_rfl) Try.func3
    (ChangeSpec.witness6 (enc := enc) (C := Try.checked) false ⟨#[], #[.slice none 0 0], []⟩ 8 (by kernel_rfl) (by kernel_rfl) (by kernel_rfl) (by kernel_rfl)) ?_
  intro W base args ds gs before hval0 hW hcnd _
  have hlts := hW.lt
  have hval : ∀ (j : Nat) t v, Try.f3.params[j]? = some t → args[j]? = some v → Value.okWide Try.prog W .any base t v := hval0
  have hW' := hW
  obtain ⟨p, q, hA0, hV, rfl, hfz, hnd⟩ := hW
  have hA : DataW.TrodAll enc Try.prog W 0 (fun _ => true) true Try.f3.params.toList args.toList ds p := hA0
  rw [Try.params3] at hA hval
  obtain ⟨v0, vs0, d0, ds0, p0, q0, hargs0, rfl, rfl, h0, r0⟩ := trodAll_cons hA
  obtain ⟨hn, rfl, rfl⟩ := trodAll_nil r0
  obtain rfl : args = #[v0] := by cases args; simp_all
  obtain ⟨rfl, rfl⟩ := trodVars_none hV
  obtain ⟨sa0, sl0, sc0, hsv0⟩ := okWide_slice Try.underlying22 (hval 0 22 v0 rfl rfl)
  obtain ⟨fuel0, hf0⟩ := h0
  obtain ⟨u0, l0, hu0, hR0⟩ := rdm_of_trod hf0
  obtain rfl : v0 = u0 := by
    rw [hsv0] at hu0
    rw [hsv0]
    simpa [Value.cells] using hu0
  clear hA0 hval0
  simp only [List.append_nil] at hW' hlts
  refine (turned_true v0 l0 hR0 (W := W)).mono fun e W' ⟨he, hB⟩ => ?_
  subst he
  refine ⟨_, rfl, _, _, _, [], (p0 ++ []), [], by simpa using hW', ?_, ?_, ?_, hB.frame _, fun h => by cases h⟩
  · exact trodAll_cons_mk (shut_bool Try.underlying4 _) trodAll_mk0
  · exact (trodAll_cons_mk (Below.trod (by kernel_rfl) (by kernel_rfl) (of_decide_eq_true (by kernel_rfl)) ⟨fuel0, hf0⟩ hB (fun x hx => hlts x (by simp [hx]))) trodAll_mk0)
  · rfl

/-- GraphTurned: the given statement. -/
theorem graphTurned_holds : Rows.GraphTurnedSaid :=
  OpenClaim.holds_of_wide 3 Try.f3 rfl rfl rfl rfl rfl rfl rfl ⟨rfl, rfl, rfl, rfl, rfl⟩ rfl rfl rfl rfl rfl (by kernel_rfl) Try.func3 (by kernel_rfl)
    (of_decide_eq_true (by kernel_rfl)) (by unfold Func.isWrapper; first | (rw [if_pos (by decide +kernel)]; kernel_rfl) | (rw [if_neg (by decide +kernel)]; exact ⟨rfl, rfl⟩))
    (fun os started H enc _ => graphTurned_lifted os started H enc)

end Go.Proofs.Ytahaflapkdjmhaa.graphTurned
