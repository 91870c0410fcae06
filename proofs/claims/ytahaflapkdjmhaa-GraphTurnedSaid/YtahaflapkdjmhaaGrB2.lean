/-
  The walks of graph's again and lost. Conditions: few modules, short names; the map of first places.
-/
import Derived.Test.YtahaflapkdjmhaaGrB
namespace Go.Proofs.Ytahaflapkdjmhaa
open Go.RowKit Go.Maps

set_option maxHeartbeats 2000000 in
set_option maxRecDepth 100000 in
theorem again_any (l : List Gr.Md) (hq : Gr.Few l) (v : Value) (bm : Nat) (w : World) (hx : RdM w w.heap.size v l) (hm : FirstM w bm l) (hbm : bm < w.heap.size) :
    Calls Try.prog 11 #[v, .map (some bm)] w fun e w' => e = .returned (.int .i64 (Gr.againL l)) ∧ Below w.heap.size w w' := by
  have HX := hid hx
  have HM := hid hm
  have HQ := hid hq
  have hn := hq.n
  clear hq hm
  obtain ⟨A, cap, rfl, h1, h2, -⟩ := hx
  unfold maxLen at h2
  go_enter Try.func11, Try.ntmps11
  go_wp2
  go_loopw [9] (fun vi wr => ∃ k : Nat, vi = .int .i64 k ∧ k ≤ l.length ∧ Hid (Gr.firstP (Gr.againP l) (l.drop k) k = Gr.againL l) ∧ Below w.heap.size w wr) (fun vi _ => l.length - (intOf vi).toNat)
  case atStart => exact ⟨0, rfl, by omega, hid rfl, Below.refl _ _⟩
  case round =>
    obtain ⟨k, rfl, hk, hE, hbel⟩ := hrel
    have hsz := hbel.size
    by_cases hlt : k < l.length
    · have hkz : (k : Int) < (l.length : Int) := by omega
      obtain ⟨A', c', hv, -, -, hc⟩ := HX.out.below hbel
      simp only [Value.slice.injEq, true_and] at hv
      obtain ⟨rfl, rfl⟩ := hv
      obtain ⟨b, o, rfl, hb, hc⟩ := hc (by rintro rfl; simp at hlt)
      obtain ⟨Ai, ci, Ad, nd, cd, As, ns, cs, x0, x1, x2, x3, -⟩ := hc k hlt
      clear hc
      obtain ⟨D, hown, hD⟩ := HM.out.below hbel hbm
      have hts := HQ.out.name l[k] (List.getElem_mem hlt)
      have hfo := Gr.find_own l k hlt
      have hat0 := (hD l[k].name).2 hfo.1
      have hst := hE.out
      rw [List.drop_eq_getElem_cons hlt, Gr.firstP] at hst
      simp only [Gr.againP] at hst
      obtain ⟨t, ht⟩ : ∃ t, t = l[k].name := ⟨_, rfl⟩
      obtain ⟨ni, hni⟩ : ∃ ni, ni = l[k].imps.length := ⟨_, rfl⟩
      rw [← ht] at x0 hts hat0 hst hfo
      rw [← hni] at x1
      clear ht hni hD hE
      have hkey := key_of t hts
      have HAT := hid hat0
      clear hat0
      by_cases g : Gr.find t l 0 < k
      · rw [decide_eq_true g, cond_true] at hst
        have HV := hid hst
        clear hst
        go_wp2_with (at_lookup; refine wpList_lookup_own_int _ rfl _ _ 37 rfl 9 3 .i64 law_str Try.underlying37 Try.underlying3 (zero_int _) bm 20 D rfl (hown.alloc _) _ _ rfl hkey ?_; intro c hat hwc; have hc1 : c < (k : Int) := (Gr.lit_at HAT.out hat) ▸ g; clear hat)
        go_ret
        exact ⟨ret_int HV.out, hbel.alloc hsz _⟩
      · rw [decide_eq_false g, cond_false] at hst
        have HV := hid hst
        clear hst
        go_wp2_with (at_lookup; refine wpList_lookup_own_int _ rfl _ _ 37 rfl 9 3 .i64 law_str Try.underlying37 Try.underlying3 (zero_int _) bm 20 D rfl (hown.alloc _) _ _ rfl hkey ?_; intro c hat hwc; have hc1 : ¬ c < (k : Int) := (Gr.lit_at HAT.out hat) ▸ g; clear hat)
        go_roundw
        case rel => exact ⟨k + 1, by go_num, by omega, HV, hbel.alloc hsz _⟩
        case measure => simp [intOf]; omega
    · have hkz : ¬ (k : Int) < (l.length : Int) := by omega
      have HV : Hid (Gr.againL l = -1) := hid (by rw [← hE.out, List.drop_eq_nil_of_le (by omega)]; rfl)
      clear hE
      go_wp2
      go_ret
      exact ⟨ret_int HV.out.symm, hbel⟩

theorem Gr.any_drop {α : Type} (p : α → Bool) (l : List α) (j : Nat) (hj : j < l.length) : (l.drop j).any p = (p l[j] || (l.drop (j + 1)).any p) := by
  rw [List.drop_eq_getElem_cons hj, List.any_cons]

set_option maxHeartbeats 4000000 in
set_option maxRecDepth 100000 in
theorem lost_any (l : List Gr.Md) (hq : Gr.Few l) (v : Value) (bm : Nat) (w : World) (hx : RdM w w.heap.size v l) (hm : FirstM w bm l) (hbm : bm < w.heap.size) :
    Calls Try.prog 12 #[v, .map (some bm)] w fun e w' => e = .returned (.int .i64 (Gr.lostL l)) ∧ Below w.heap.size w w' := by
  have HX := hid hx
  have HM := hid hm
  have HQ := hid hq
  have hn := hq.n
  clear hq hm
  obtain ⟨A, cap, rfl, h1, h2, -⟩ := hx
  unfold maxLen at h2
  go_enter Try.func12, Try.ntmps12
  go_wp2
  go_loopw [13] (fun vi wr => ∃ k : Nat, vi = .int .i64 k ∧ k ≤ l.length ∧ Hid (Gr.firstP (Gr.lostP l) (l.drop k) k = Gr.lostL l) ∧ Below w.heap.size w wr) (fun vi _ => l.length - (intOf vi).toNat)
  case atStart => exact ⟨0, rfl, by omega, hid rfl, Below.refl _ _⟩
  case round =>
    obtain ⟨k, rfl, hk, hE, hbel⟩ := hrel
    obtain ⟨wo, hwo⟩ : ∃ wo : World, wo = wr := ⟨_, rfl⟩
    subst hwo
    have hsz := hbel.size
    by_cases hlt : k < l.length
    · have hkz : (k : Int) < (l.length : Int) := by omega
      obtain ⟨A', c', hv, -, -, hc⟩ := HX.out.below hbel
      simp only [Value.slice.injEq, true_and] at hv
      obtain ⟨rfl, rfl⟩ := hv
      obtain ⟨b, o, rfl, hb, hc⟩ := hc (by rintro rfl; simp at hlt)
      obtain ⟨Ai, ci, Ad, nd, cd, As, ns, cs, x0, x1, x2, x3, hS⟩ := hc k hlt
      clear hc
      obtain ⟨D, hown, hD⟩ := HM.out.below hbel hbm
      have hil := HQ.out.imps l[k] (List.getElem_mem hlt)
      have his := HQ.out.imp l[k] (List.getElem_mem hlt)
      have hst := hE.out
      rw [List.drop_eq_getElem_cons hlt, Gr.firstP] at hst
      simp only [Gr.lostP] at hst
      obtain ⟨t, ht⟩ : ∃ t, t = l[k].name := ⟨_, rfl⟩
      obtain ⟨is, hni⟩ : ∃ is, is = l[k].imps := ⟨_, rfl⟩
      rw [← ht] at x0
      rw [← hni] at x1 hS hil his hst
      clear ht hni hE
      have HST := hid hst
      have HIS := hid his
      have HDD := hid hD
      have HS := hid hS
      clear hst his hD hS
      go_wp2
      go_loop [21] (fun vj => ∃ j : Nat, vj = .int .i64 j ∧ j ≤ is.length ∧ Hid (((is.drop j).any fun s => decide (Gr.find s l 0 < 0)) = is.any fun s => decide (Gr.find s l 0 < 0))) (fun vj => is.length - (intOf vj).toNat)
      case atStart => exact ⟨0, rfl, by omega, hid rfl⟩
      case round =>
        obtain ⟨j, rfl, hj, hJ⟩ := hrel
        by_cases hjl : j < is.length
        · have hjz : (j : Int) < (is.length : Int) := by omega
          obtain ⟨A', c', hv, hc⟩ := HS.out
          simp only [Value.slice.injEq, true_and] at hv
          obtain ⟨rfl, rfl⟩ := hv
          obtain ⟨b2, o2, rfl, hb2, hc⟩ := hc (by rintro rfl; simp at hjl)
          have y0 := hc j hjl
          clear hc
          have y1 : (wo.alloc (.cells #[.string t, .slice (some ⟨b2, o2, none⟩) is.length ci, .slice Ad nd cd, .slice As ns cs] 29)).cell? ⟨b2, o2 + j, none⟩ = some (.string is[j]) := ((below_new _).cell (p := ⟨b2, o2 + j, none⟩) (by show b2 < _; omega)).trans y0
          clear y0
          have hts := HIS.out is[j] (List.getElem_mem hjl)
          have hD2 := (HDD.out is[j]).1
          have hJ2 := hJ.out
          rw [Gr.any_drop _ is j hjl] at hJ2
          obtain ⟨s, hs⟩ : ∃ s, s = is[j] := ⟨_, rfl⟩
          rw [← hs] at y1 hts hD2 hJ2
          clear hs hJ
          have hkey := key_of s hts
          by_cases g : Gr.find s l 0 < 0
          · rw [decide_eq_false (by omega)] at hD2
            rw [decide_eq_true g, Bool.true_or] at hJ2
            have HJ := hid hJ2
            clear hJ2 g
            go_wp2_with (at_lookup; refine wpList_lookup_own_ok_int _ rfl _ _ 37 rfl 9 3 .i64 law_str Try.underlying37 Try.underlying3 (zero_int _) bm 20 D rfl (hown.alloc _) _ _ rfl hkey ?_; intro c hat hwc; clear hat)
            go_ret
            refine ⟨ret_int ?_, hbel.alloc hsz _⟩
            have := HST.out
            rw [← HJ.out, cond_true] at this
            exact this
          · rw [decide_eq_true (by omega)] at hD2
            rw [decide_eq_false g, Bool.false_or] at hJ2
            have HJ := hid hJ2
            clear hJ2 g
            go_wp2_with (at_lookup; refine wpList_lookup_own_ok_int _ rfl _ _ 37 rfl 9 3 .i64 law_str Try.underlying37 Try.underlying3 (zero_int _) bm 20 D rfl (hown.alloc _) _ _ rfl hkey ?_; intro c hat hwc; clear hat)
            go_round
            case rel => exact ⟨j + 1, by go_num, by omega, HJ⟩
            case measure => simp [intOf]; omega
        · have hjz : ¬ (j : Int) < (is.length : Int) := by omega
          have HJ : Hid ((is.any fun s => decide (Gr.find s l 0 < 0)) = false) := hid (by rw [← hJ.out, List.drop_eq_nil_of_le (by omega)]; rfl)
          clear hJ
          have HV : Hid (Gr.firstP (Gr.lostP l) (l.drop (k + 1)) (k + 1) = Gr.lostL l) := hid (by
            have := HST.out
            rw [HJ.out, cond_false] at this
            exact this)
          clear HST
          go_wp2
          go_roundw
          case rel => exact ⟨k + 1, by go_num, by omega, HV, hbel.alloc hsz _⟩
          case measure => simp [intOf]; omega
    · have hkz : ¬ (k : Int) < (l.length : Int) := by omega
      have HV : Hid (Gr.lostL l = -1) := hid (by rw [← hE.out, List.drop_eq_nil_of_le (by omega)]; rfl)
      clear hE
      go_wp2
      go_ret
      exact ⟨ret_int HV.out.symm, hbel⟩

end Go.Proofs.Ytahaflapkdjmhaa
