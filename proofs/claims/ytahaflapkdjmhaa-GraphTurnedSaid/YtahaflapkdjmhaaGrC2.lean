/-
  The walks of graph's links and reversed. Conditions: few modules, short names; few rows of few numbers.
-/
import Derived.Test.YtahaflapkdjmhaaGrC
import Derived.Deep.OwnRows
namespace Go.Proofs.Ytahaflapkdjmhaa
open Go.RowKit Go.Maps Go.Deep

namespace Gr
/-- The place of a name, if it is there. -/
def atN (l : List Md) (s : ByteArray) : Option Nat := if 0 ≤ find s l 0 then some (find s l 0).toNat else none
def rowOf (l : List Md) (m : Md) : List Nat := m.imps.filterMap (atN l)
/-- What each module imports. -/
def linksL (l : List Md) : List (List Nat) := l.map (rowOf l)
/-- The rows when k modules, and j imports of the next one, have been gone through. -/
def linkF (l : List Md) (k j : Nat) : Nat → List Nat := fun i => if i < k then ((linksL l)[i]?).getD [] else if i = k then ((l[k]?.map fun m => (m.imps.take j).filterMap (atN l)).getD []) else []
theorem linkF_start (l : List Md) (i : Nat) : [] = linkF l 0 0 i := by
  simp only [linkF]
  by_cases h : i = 0
  · subst h; cases l with
    | nil => simp
    | cons a l => simp
  · simp [h]
theorem linkF_next (l : List Md) (k : Nat) (hk : k < l.length) {is : List ByteArray} (e : l[k].imps = is) (i : Nat) : linkF l k is.length i = linkF l (k + 1) 0 i := by
  subst e
  simp only [linkF]
  by_cases h : i < k
  · have : i < k + 1 := by omega
    simp [h, this]
  · by_cases h2 : i = k
    · subst h2; simp [linksL, rowOf, hk]
    · have h3 : ¬ i < k + 1 := by omega
      simp only [h, h2, h3, if_false]
      by_cases h4 : i = k + 1
      · subst h4
        simp only [if_true]
        cases l[k + 1]? <;> simp
      · simp [h4]
theorem linkF_put (l : List Md) (k : Nat) (hk : k < l.length) {is : List ByteArray} (e : l[k].imps = is) (j v : Nat) (hj : j < is.length) (hv : atN l is[j] = some v) (i : Nat) : putR (linkF l k j) k v i = linkF l k (j + 1) i := by
  subst e
  simp only [putR, linkF]
  by_cases h : i = k
  · subst h
    simp only [Nat.lt_irrefl, if_false, if_true, List.getElem?_eq_getElem hk, Option.map_some, Option.getD_some]
    rw [List.take_succ_eq_append_getElem hj, List.filterMap_append]
    simp [hv]
  · simp [h]
theorem linkF_same (l : List Md) (k : Nat) (hk : k < l.length) {is : List ByteArray} (e : l[k].imps = is) (j : Nat) (hj : j < is.length) (hv : atN l is[j] = none) (i : Nat) : linkF l k j i = linkF l k (j + 1) i := by
  subst e
  simp only [linkF]
  by_cases h : i = k
  · subst h
    simp only [Nat.lt_irrefl, if_false, if_true, List.getElem?_eq_getElem hk, Option.map_some, Option.getD_some]
    rw [List.take_succ_eq_append_getElem hj, List.filterMap_append]
    simp [hv]
  · simp [h]
theorem linkF_end (l : List Md) (i : Nat) (hi : i < (linksL l).length) : linkF l l.length 0 i = (linksL l)[i] := by
  have : i < l.length := by simpa [linksL] using hi
  simp [linkF, this, hi]
theorem linkF_len (l : List Md) (k j : Nat) (hk : k < l.length) : (linkF l k j k).length ≤ j := by
  simp only [linkF, Nat.lt_irrefl, if_false, if_true, List.getElem?_eq_getElem hk, Option.map_some, Option.getD_some]
  have := List.length_filterMap_le (atN l) (l[k].imps.take j)
  rw [List.length_take] at this
  omega
theorem linksL_length (l : List Md) : (linksL l).length = l.length := by simp [linksL]
theorem atN_lt {l : List Md} {s : ByteArray} {v : Nat} (h : atN l s = some v) : v < l.length := by
  unfold atN at h
  have := (find_lt s l).2
  split at h
  · injection h with h; omega
  · cases h
theorem linksL_lt (l : List Md) : ∀ r ∈ linksL l, ∀ k ∈ r, k < l.length := by
  intro r hr k hk
  simp only [linksL, List.mem_map] at hr
  obtain ⟨m, hm, rfl⟩ := hr
  simp only [rowOf, List.mem_filterMap] at hk
  obtain ⟨s, _, hs⟩ := hk
  exact atN_lt hs
theorem linksL_few {l : List Md} (hq : Few l) : ∀ r ∈ linksL l, r.length ≤ 20 := by
  intro r hr
  simp only [linksL, List.mem_map] at hr
  obtain ⟨m, hm, rfl⟩ := hr
  exact Nat.le_trans (List.length_filterMap_le _ _) (hq.imps m hm)
end Gr

theorem alloc_cell {w : World} {o : Obj} {b i : Nat} {v : Value} (h : w.cell? ⟨b, i, none⟩ = some v) (hb : b < w.heap.size) : (w.alloc o).cell? ⟨b, i, none⟩ = some v := ((below_new _).cell (p := ⟨b, i, none⟩) hb).trans h

set_option maxHeartbeats 4000000 in
set_option maxRecDepth 100000 in
theorem links_any (l : List Gr.Md) (hq : Gr.Few l) (v : Value) (bm : Nat) (w : World) (hx : RdM w w.heap.size v l) (hm : FirstM w bm l) (hbm : bm < w.heap.size) :
    Calls Try.prog 13 #[v, .map (some bm)] w fun e w' => ∃ r, e = .returned r ∧ RdG w' w'.heap.size r (Gr.linksL l) ∧ Below w.heap.size w w' := by
  have HX := hid hx
  have HM := hid hm
  have HQ := hid hq
  have hn := hq.n
  clear hq hm
  obtain ⟨i0, hi, hz0, hz1, hz2⟩ := info_parts info_int
  obtain ⟨A, cap, rfl, h1, h2, -⟩ := hx
  unfold maxLen at h2
  have hmk := run_make_row' (P := Try.prog) 40 30 (.slice none 0 0) 24 Try.underlying40 info_ints rfl .i64 .i64 l.length (by omega) (by omega)
  go_enter Try.func13, Try.ntmps13
  go_wp2
  have HSZ : Hid (w.heap.size = w.heap.size) := hid rfl
  go_loopw [17] (fun vi wr => ∃ (k : Nat) (AA : Nat → Option Addr) (CC : Nat → Nat), vi = .int .i64 k ∧ k ≤ l.length ∧ OwnG wr w.heap.size w.heap.size l.length AA CC (Gr.linkF l k 0) ∧ Below w.heap.size w wr) (fun vi _ => l.length - (intOf vi).toNat)
  case atStart => exact ⟨0, _, _, rfl, by omega, (OwnG.made w l.length (by omega)).congr (Gr.linkF_start l), below_new _⟩
  case round =>
    obtain ⟨k, AA, CC, rfl, hk, hO, hbel⟩ := hrel
    obtain ⟨wo, hwo⟩ : ∃ wo : World, wo = wr := ⟨_, rfl⟩
    subst hwo
    have hsz := hO.lt.2
    by_cases hlt : k < l.length
    · have hkz : (k : Int) < (l.length : Int) := by omega
      obtain ⟨b, o, c', Ai, ci, Ad, nd, cd, As, ns, cs, hv, hb, x0, x1, x2, x3, hS⟩ := HX.out.at_ hbel hlt
      simp only [Value.slice.injEq, true_and] at hv
      obtain ⟨rfl, rfl⟩ := hv
      have hil := HQ.out.imps l[k] (List.getElem_mem hlt)
      have his := HQ.out.imp l[k] (List.getElem_mem hlt)
      obtain ⟨t, ht⟩ : ∃ t, t = l[k].name := ⟨_, rfl⟩
      obtain ⟨is, hni⟩ : ∃ is, l[k].imps = is := ⟨_, rfl⟩
      rw [← ht] at x0
      rw [hni] at x1 hS hil his
      have HPUT := hid (Gr.linkF_put l k hlt hni)
      have HSAME := hid (Gr.linkF_same l k hlt hni)
      have HNEXT := hid (Gr.linkF_next l k hlt hni)
      clear ht hni
      have HIS := hid his
      have HS := hid hS
      have HO := hid (hO.alloc (.cells #[.string t, .slice Ai is.length ci, .slice Ad nd cd, .slice As ns cs] 29))
      have HB0 := hid (hbel.alloc (Nat.le_of_lt hsz) (.cells #[.string t, .slice Ai is.length ci, .slice Ad nd cd, .slice As ns cs] 29))
      have HB1 := hid hbel
      clear his hS hO hbel
      go_wp2
      go_loopw [25] (fun vj wi => ∃ (j : Nat) (AA : Nat → Option Addr) (CC : Nat → Nat), vj = .int .i64 j ∧ j ≤ is.length ∧ OwnG wi w.heap.size w.heap.size l.length AA CC (Gr.linkF l k j) ∧ Below w.heap.size w wi) (fun vj _ => is.length - (intOf vj).toNat)
      case atStart => exact ⟨0, AA, CC, rfl, by omega, HO.out, HB0.out⟩
      case round =>
        obtain ⟨j, A2, C2, rfl, hj, hO, hbel⟩ := hrel
        obtain ⟨wj, hwj⟩ : ∃ wj : World, wj = wr := ⟨_, rfl⟩
        subst hwj
        have hsz2 := hO.lt.2
        by_cases hjl : j < is.length
        · have hjz : (j : Int) < (is.length : Int) := by omega
          obtain ⟨D, hown, hD⟩ := HM.out.below hbel hbm
          obtain ⟨b2, o2, c', hv, hb2, y0⟩ := HS.out.at_ hbel hjl
          simp only [Value.slice.injEq, true_and] at hv
          obtain ⟨rfl, rfl⟩ := hv
          have hts := HIS.out is[j] (List.getElem_mem hjl)
          have hD2 := (hD is[j]).1
          have hD3 := (hD is[j]).2
          have hput := fun v => HPUT.out j v hjl
          have hsame := HSAME.out j hjl
          have hat : Gr.atN l is[j] = if 0 ≤ Gr.find is[j] l 0 then some (Gr.find is[j] l 0).toNat else none := rfl
          have hfl := (Gr.find_lt is[j] l).2
          obtain ⟨s, hs⟩ : ∃ s, s = is[j] := ⟨_, rfl⟩
          simp only [← hs] at y0 hts hD2 hD3 hput hsame hat hfl
          clear hs hD
          have hkey := key_of s hts
          by_cases g : 0 ≤ Gr.find s l 0
          · rw [decide_eq_true g] at hD2
            have HAT := hid (hD3 g)
            rw [if_pos g] at hat
            have HP := hid (hput _ hat)
            have HO := hid hO
            have HB := hid hbel
            have HF := hid (show ((Gr.find s l 0).toNat : Int) = Gr.find s l 0 by omega)
            have hll := Gr.linkF_len l k j hlt
            obtain ⟨y1, y2⟩ := hO.cell hlt
            have HR := hid (hO.row k hlt)
            have HAF := hid (fun (o : Obj) (w1 : World) => hO.after (o := o) (w1 := w1) hlt)
            obtain ⟨xs, hxs⟩ : ∃ xs, xs = Gr.linkF l k j k := ⟨_, rfl⟩
            rw [← hxs] at y1 HR HAF hll
            clear hO hbel hat hput hsame hD3
            have HXS := hid hxs
            clear hxs
            go_wp2_with (first
              | (at_lookup; refine wpList_lookup_own_ok_int _ rfl _ _ 37 rfl 9 3 .i64 law_str Try.underlying37 Try.underlying3 (zero_int _) bm 20 D rfl hown _ _ rfl hkey ?_; intro c hat hwc; have HC := hid (Gr.lit_at HAT.out hat); clear hat)
              | (at_builtin; refine wpList_append_own_at _ rfl _ _ 30 rfl w.heap.size 3 i0 (.int .i64 0) 1 8 Try.underlying30 hi hz0 hz1 hz2 rfl (by decide) _ _ _ rfl (HR.out.alloc _) ⟨wj.heap.size, 0, none⟩ 1 1 [.int .i64 c] rfl rfl (cell_one_new _ _ _) (ints_oneCell .i64 [c]) (by unfold maxLen; omega) (by omega) (by simp; omega) ?_; intro v' w1 hown' hgrow hnil hloc; obtain ⟨g', cap', rfl⟩ := row_succ hown'; obtain ⟨z1, z2, z3⟩ := HAF.out _ _ hgrow))
            go_roundw
            case rel =>
              have e := HC.out.symm.trans HF.out.symm
              subst e
              have e2 := HXS.out
              subst e2
              exact ⟨j + 1, _, _, by go_num, by omega, (HO.out.push hlt hown' hgrow hloc).congr HP.out, (HB.out.trans z3).setCell (Nat.le_refl _) _⟩
            case measure => simp [intOf]; omega
          · rw [decide_eq_false g] at hD2
            rw [if_neg g] at hat
            have HP := hid (hsame hat)
            have HO := hid hO
            have HB := hid hbel
            clear hO hbel hat hput hsame hD3 g
            go_wp2_with (at_lookup; refine wpList_lookup_own_ok_int _ rfl _ _ 37 rfl 9 3 .i64 law_str Try.underlying37 Try.underlying3 (zero_int _) bm 20 D rfl hown _ _ rfl hkey ?_; intro c hat hwc; clear hat)
            go_roundw
            case rel => exact ⟨j + 1, _, _, by go_num, by omega, HO.out.congr HP.out, HB.out⟩
            case measure => simp [intOf]; omega
        · have hjz : ¬ (j : Int) < (is.length : Int) := by omega
          have HO := hid hO
          have HB := hid hbel
          clear hO hbel
          go_wp2
          go_roundw
          case rel =>
            have e : j = is.length := by omega
            subst e
            exact ⟨k + 1, _, _, by go_num, by omega, HO.out.congr HNEXT.out, HB.out⟩
          case measure => simp [intOf]; omega
    · have hkz : ¬ (k : Int) < (l.length : Int) := by omega
      have HO := hid hO
      have HB := hid hbel
      clear hO hbel
      go_wp2
      go_ret
      have e : k = l.length := by omega
      subst e
      exact ⟨_, rfl, HO.out.rd (Gr.linksL l) (Gr.linksL_length l) (fun i hi => Gr.linkF_end l i hi), HB.out⟩

end Go.Proofs.Ytahaflapkdjmhaa
