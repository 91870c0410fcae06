/-
  The walks of term.Vars, of slices.Contains at numbers and of the reference's In. Conditions: at most 20000 nodes, whose numbers fit.
-/
import Derived.Test.YtkkigdbinnfbfaaTmC
import Derived.Test.YtkkigdbinnfbfaaShelfS
import Derived.Shelf.Slices.In.SortNone
import Derived.Lib.OwnBridge
import Derived.Sort.OwnSortedInts
namespace Go.Proofs.Ytkkigdbinnfbfaa.L
open Go
theorem sorted_int (zs : List Int) : (zs.mergeSort fun x y => decide (x ≤ y)).Pairwise (fun a b => a ≤ b) := by
  have h := List.pairwise_mergeSort (le := fun x y : Int => decide (x ≤ y)) (fun a b c h1 h2 => by
    simp only [decide_eq_true_eq] at h1 h2 ⊢
    omega) (fun a b => by
    simp only [Bool.or_eq_true, decide_eq_true_eq]
    omega) zs
  exact h.imp (fun {a b} hab => by simpa using hab)
theorem compactUpTo_int (d : Array Int) (n : Nat) (hd : ∀ i j, i ≤ j → j < n → d[i]! ≤ d[j]!) : ∀ m, m ≤ n →
    (Lib.compactUpTo d m).Pairwise (fun a b => a < b) ∧ ∀ s, s ∈ Lib.compactUpTo d m ↔ ∃ j, j < m ∧ d[j]! = s
  | 0, _ => by simp [Lib.compactUpTo]
  | m + 1, hm => by
    obtain ⟨h1, h2⟩ := compactUpTo_int d n hd m (by omega)
    rw [Lib.compactUpTo_succ]
    by_cases hk : Lib.keeps d m = true
    · rw [if_pos hk]
      have hk2 : m = 0 ∨ d[m]! ≠ d[m - 1]! := by simpa [Lib.keeps] using hk
      refine ⟨?_, fun s => ?_⟩
      · rw [List.pairwise_append]
        refine ⟨h1, by simp, fun a ha b hb => ?_⟩
        rw [List.mem_singleton] at hb
        subst hb
        obtain ⟨j, hj, rfl⟩ := (h2 a).1 ha
        have hne : d[m]! ≠ d[m - 1]! := by rcases hk2 with h | h; omega; exact h
        have e1 := hd j (m - 1) (by omega) (by omega)
        have e2 := hd (m - 1) m (by omega) (by omega)
        omega
      · rw [List.mem_append, h2, List.mem_singleton]
        constructor
        · rintro (⟨j, hj, e⟩ | rfl)
          · exact ⟨j, by omega, e⟩
          · exact ⟨m, by omega, rfl⟩
        · rintro ⟨j, hj, e⟩
          by_cases hjm : j = m
          · subst hjm; exact Or.inr e.symm
          · exact Or.inl ⟨j, by omega, e⟩
    · rw [if_neg hk]
      have hk2 : m ≠ 0 ∧ d[m]! = d[m - 1]! := by
        simp [Lib.keeps] at hk
        exact hk
      rw [List.append_nil]
      refine ⟨h1, fun s => ?_⟩
      rw [h2]
      constructor
      · rintro ⟨j, hj, e⟩; exact ⟨j, by omega, e⟩
      · rintro ⟨j, hj, e⟩
        by_cases hjm : j = m
        · subst hjm; exact ⟨j - 1, by omega, by rw [← hk2.2]; exact e⟩
        · exact ⟨j, by omega, e⟩
theorem compact_int (zs : List Int) (hs : zs.Pairwise (fun a b => a ≤ b)) : (Lib.compact zs).Pairwise (fun a b => a < b) ∧ ∀ s, s ∈ Lib.compact zs ↔ s ∈ zs := by
  rw [List.pairwise_iff_getElem] at hs
  have hd : ∀ i j, i ≤ j → j < zs.length → zs.toArray[i]! ≤ zs.toArray[j]! := fun i j h1 h2 => by
    rw [getElem!_pos zs.toArray j (by simpa using h2), getElem!_pos zs.toArray i (by simp; omega)]
    rcases Nat.lt_or_ge i j with h | h
    · simpa using hs i j (by omega) h2 h
    · obtain rfl : i = j := by omega
      exact Int.le_refl _
  obtain ⟨h1, h2⟩ := compactUpTo_int zs.toArray zs.length hd zs.length (Nat.le_refl _)
  refine ⟨h1, fun s => ?_⟩
  unfold Lib.compact
  rw [h2]
  constructor
  · rintro ⟨j, hj, rfl⟩
    rw [getElem!_pos zs.toArray j (by simpa using hj)]
    simp
  · intro h
    obtain ⟨j, hj, rfl⟩ := List.getElem_of_mem h
    exact ⟨j, hj, by rw [getElem!_pos zs.toArray j (by simpa using hj)]; simp⟩
/-- The numbers of the variables, in their order. -/
def numsL (t : List Nd) : List Int := (t.filter varN).map (·.n)
/-- The numbers of the variables, rising, each once. -/
def varsL (t : List Nd) : List Int := Lib.compact ((numsL t).mergeSort fun x y => decide (x ≤ y))
theorem vars_asc (t : List Nd) : (varsL t).Pairwise (fun a b => a < b) := (compact_int _ (sorted_int _)).1
theorem vars_mem (t : List Nd) (n : Int) : n ∈ varsL t ↔ ∃ x ∈ t, varN x = true ∧ x.n = n := by
  unfold varsL
  rw [(compact_int _ (sorted_int _)).2, List.mem_mergeSort]
  unfold numsL
  rw [List.mem_map]
  simp only [List.mem_filter]
  exact ⟨fun ⟨x, ⟨h1, h2⟩, h3⟩ => ⟨x, h1, h2, h3⟩, fun ⟨x, h1, h2, h3⟩ => ⟨x, ⟨h1, h2⟩, h3⟩⟩
end Go.Proofs.Ytkkigdbinnfbfaa.L
namespace Go.Proofs.Ytkkigdbinnfbfaa
open Go.RowKit Go.Sort

/-- A row of numbers of the call's own. -/
def OwnZ (B : Nat) (v : Value) (zs : List Int) (w : World) : Prop := w.ownsRow B 3 1 v zs.length (zs.map (Value.int .i64))
theorem OwnZ.below {B : Nat} {v : Value} {l : List Int} {w w' : World} (h : OwnZ B v l w) (hb : RowKit.Below w.heap.size w w') : OwnZ B v l w' := by
  unfold OwnZ at h ⊢
  by_cases hv : v.ownBlock = none
  · exact h.kept (grown_of_below hb) (Or.inl hv)
  · exact h.kept (grown_of_below hb) (Or.inr hv)
theorem OwnZ.val {B : Nat} {v : Value} {zs : List Int} {w : World} (h : OwnZ B v zs w) : ∃ A cap, v = .slice A zs.length cap ∧ zs.length ≤ cap ∧ cap ≤ maxLen := by
  rcases h.2 with ⟨hv, h0⟩ | ⟨g, cap, cur, hv, _, _, h1, h2, _⟩
  · exact ⟨none, 0, by rw [hv, h0], by omega, Nat.zero_le _⟩
  · exact ⟨_, _, hv, h1, h2⟩
theorem OwnZ.cell {B : Nat} {A : Option Addr} {n cap : Nat} {zs : List Int} {w : World} (h : OwnZ B (.slice A n cap) zs w) {i : Nat} (hi : i < zs.length) : ∃ g, A = some ⟨g, 0, none⟩ ∧ n = zs.length ∧ w.cell? ⟨g, i, none⟩ = some (.int .i64 zs[i]) := by
  rcases h.2 with ⟨hv, h0⟩ | ⟨g, cap', cur, hv, hb, hh, h1, h2, h3⟩
  · omega
  · simp only [Value.slice.injEq] at hv
    obtain ⟨rfl, rfl, rfl⟩ := hv
    refine ⟨g, rfl, rfl, ?_⟩
    rw [World.ownsRow.cellAt h i (by omega)]
    simp [hi]

theorem sortZ_any {B : Nat} {v : Value} {zs : List Int} {w : World} (h : OwnZ B v zs w) (hl : zs.length ≤ 1000000) :
    Calls Try.prog 14 #[v] w fun e w' => e = .returned (.tuple #[]) ∧ w.grownBy w' v.ownBlock ∧ OwnZ B v (zs.mergeSort fun x y => decide (x ≤ y)) w' := by
  rcases h.2 with ⟨hv, h0⟩ | ⟨g, cap, cur, hv, hg, hh, hn, hcap, hsz, htake⟩
  · have : zs = [] := List.eq_nil_of_length_eq_zero h0
    subst this
    subst hv
    refine (Any.slices_Sort_int_none Try.lays189 none 0 w).mono ?_
    rintro e w' ⟨rfl, rfl⟩
    exact ⟨rfl, grown_refl _ _, by rw [List.mergeSort_nil]; exact World.ownsRow_nil _ _ _ _⟩
  · have H := Try.slices_Sort_int g 0 cap zs w (holds_of_blockI hh (by rw [← htake, Nat.mul_one])) (heap_lt hh) (by omega)
    subst hv
    refine H.mono ?_
    rintro e w' ⟨rfl, n, os, rfl⟩
    refine ⟨rfl, grownBy_sortedI _, ?_⟩
    have := ownsRow_sortedI (w := w) (base := B) (g := g) (cap := cap) (e := 3) (os := os) (n := n) (cur := cur) (ss := zs) (ts := zs.mergeSort fun x y => decide (x ≤ y)) (by rw [List.length_mergeSort]) hg hh hn hcap hsz
    unfold OwnZ
    rw [List.length_mergeSort]
    exact this
theorem compactZ_any {B : Nat} {v : Value} {zs : List Int} {w : World} (h : OwnZ B v zs w) (hl : zs.length ≤ 1000000) :
    Calls Try.prog 15 #[v] w fun e w' => ∃ v', e = .returned v' ∧ w.grownBy w' v.ownBlock ∧ OwnZ B v' (Lib.compact zs) w' := by
  rcases h.2 with ⟨hv, h0⟩ | ⟨g, cap, cur, hv, hg, hh, hn, hcap, hsz, htake⟩
  · have : zs = [] := List.eq_nil_of_length_eq_zero h0
    subst this
    subst hv
    refine (Try.slices_Compact_int_empty none 0 w).mono ?_
    rintro e w' ⟨rfl, rfl⟩
    exact ⟨_, rfl, grown_refl _ _, World.ownsRow_nil _ _ _ _⟩
  · subst hv
    refine (Try.slices_Compact_int g 0 cap zs w (holds_of_blockI hh (by rw [← htake, Nat.mul_one])) (by omega) hn).mono ?_
    rintro e w' ⟨rfl, q, rfl⟩
    have hle := Lib.compact_length_le zs
    have h1 := Lib.ownsRow_putRow (enc := Value.int .i64) (q := q) (k := (Lib.compact zs).length) (ys := Lib.compact zs ++ List.replicate (zs.length - (Lib.compact zs).length) 0) h (by rw [List.length_append, List.length_replicate]; omega) hle
    rw [List.take_left] at h1
    refine ⟨_, rfl, ?_, h1⟩
    have hb := Lib.below_putRow (enc := Value.int .i64) (q := q) (d := (Lib.compact zs ++ List.replicate (zs.length - (Lib.compact zs).length) 0).toArray) (RowKit.Below.refl g w) (Nat.le_refl g)
    refine ⟨hb.os, hb.tape, hb.output, hb.size, fun k hk hne => ?_⟩
    have : g ≠ k := fun e => hne (by rw [← e]; rfl)
    simp [putRow, mapBlock, Sort.ahead, Array.getElem?_modify, this]

def VarsPost (t : List L.Nd) (w : World) (e : Ending) (w' : World) : Prop := ∃ v', e = .returned v' ∧ OwnZ w.heap.size v' (L.varsL t) w' ∧ RowKit.Below w.heap.size w w'
theorem nums_take {t : List L.Nd} {k : Nat} (h : k < t.length) : L.numsL (t.take (k + 1)) = L.numsL (t.take k) ++ (if L.varN t[k] = true then [t[k].n] else []) := by
  unfold L.numsL
  rw [List.take_succ_eq_append_getElem h, List.filter_append, List.map_append]
  congr 1
  by_cases e : L.varN t[k] = true <;> simp [e]
theorem nums_le (t : List L.Nd) : (L.numsL t).length ≤ t.length := by unfold L.numsL; rw [List.length_map]; exact List.length_filter_le _ _

set_option maxHeartbeats 4000000 in
set_option maxRecDepth 100000 in
theorem vars_any (t : List L.Nd) (hl : t.length ≤ 20000) (v : Value) (w : World) (hx : Rd w w.heap.size v t) :
    Calls Try.prog 7 #[v] w (VarsPost t w) := by
  obtain ⟨i0, hi, hz0, hz1, hz2⟩ := info_parts infoInt
  have HX := hid hx
  obtain ⟨A, cap, rfl, hl1, hl2⟩ := hx.len
  unfold maxLen at hl2
  clear hx
  go_enter Try.func7, Try.ntmps7
  go_wp2
  go_loopw [3, 8] (fun v3 v8 wr => ∃ k : Nat, v8 = .int .i64 k ∧ k ≤ t.length ∧ Hid (OwnZ w.heap.size v3 (L.numsL (t.take k)) wr) ∧ Hid (RowKit.Below w.heap.size w wr)) (fun _ v8 _ => t.length - (intOf v8).toNat)
  case atStart => exact ⟨0, rfl, by omega, hid (World.ownsRow_nil _ _ _ 1), hid (RowKit.Below.refl _ _)⟩
  case round =>
    obtain ⟨k, rfl, hk, hO, hB⟩ := hrel
    by_cases hlt : k < t.length
    · have hkz : (k : Int) < (t.length : Int) := by omega
      obtain ⟨A', c', hv, -, -, -, hc⟩ := HX.out.low hB.out
      simp only [Value.slice.injEq, true_and] at hv
      obtain ⟨rfl, rfl⟩ := hv
      obtain ⟨b, o, rfl, hb, hc⟩ := hc (by rintro rfl; simp at hlt)
      obtain ⟨x0, x1, x2⟩ := hc k hlt
      have HN := hid (nums_take hlt)
      have hle : (L.numsL (t.take k)).length ≤ 20000 := by have := nums_le (t.take k); simp at this; omega
      generalize t[k] = X at *
      obtain ⟨k1, s1, n1⟩ := X
      clear hc
      have hbw := hB.out.size
      have HV := hid (fun (W : World) => isVar_any k1 n1 s1 W)
      have HBX := hid (below_new (w := wr) (.cells #[.int .i64 k1, .string s1, .int .i64 n1] 39))
      go_wp2_with fail
      refine (HV.out _).mono ?_
      rintro e w1 ⟨rfl, h1⟩
      have hbx : w1.heap[wr.heap.size]? = some (.cells #[.int .i64 k1, .string s1, .int .i64 n1] 39 (0, 0)) := (h1.block _ (by simp)).trans (heap_alloc_new _ _)
      have d2 : w1.cell? ⟨wr.heap.size, 2, none⟩ = some (.int .i64 n1) := Lib.cell_of_heap hbx 2
      have B1 := hid (hB.out.trans ((HBX.out.trans (h1.mono HBX.out.size)).mono hbw))
      have O1 := hid ((hO.out.below HBX.out).below h1)
      have hs1 := B1.out.size
      clear h1 hbx hO hB x0 x1 x2
      cases hvn : L.varN ⟨k1, s1, n1⟩ with
      | false =>
        rw [hvn] at HN
        have O2 := hid (show OwnZ w.heap.size u3 (L.numsL (t.take (k + 1))) w1 from by rw [HN.out]; simpa using O1.out)
        clear hvn
        go_wp2_with fail
        go_roundw
        case rel => exact ⟨k + 1, by go_num, by omega, O2, B1⟩
        case measure => simp [intOf]; omega
      | true =>
        rw [hvn] at HN
        clear hvn
        have hO1 : (w1.alloc (.cells #[.int .i64 n1] 3)).ownsRow w.heap.size 3 1 u3 (L.numsL (t.take k)).length ((L.numsL (t.take k)).map (Value.int .i64)) := World.ownsRow.alloc O1.out _
        go_wp2_with (at_builtin; refine wpList_append_own _ rfl _ _ 30 rfl w.heap.size 3 i0 (.int .i64 0) 1 8 Try.underlying30 hi hz0 hz1 hz2 rfl (by decide) _ _ _ rfl hO1 ⟨w1.heap.size, 0, none⟩ 1 1 [.int .i64 n1] rfl rfl ?c1 ?c2 ?c3 ?c4 ?c5 ?_)
        case c1 => exact cell_one_new w1 _ _
        case c2 => intro u hu; simp at hu; subst hu; rfl
        case c3 => unfold maxLen; omega
        case c4 => omega
        case c5 => simp; omega
        intro v' w2 hown hgrow _
        have B2 := hid ((B1.out.alloc hs1 _).grown hgrow (by simp; omega) (fun k hk => (World.ownsRow.lt hO1 k hk).1))
        have O2 := hid (show OwnZ w.heap.size v' (L.numsL (t.take (k + 1))) w2 from by
          rw [HN.out, if_pos trivial]
          unfold OwnZ
          rw [List.map_append, List.length_append]
          exact hown)
        clear hown hgrow hO1
        go_wp2_with fail
        go_roundw
        case rel => exact ⟨k + 1, by go_num, by omega, O2, B2⟩
        case measure => simp [intOf]; omega
    · have hkz : ¬ (k : Int) < (t.length : Int) := by omega
      have hO1 := hO.out
      rw [List.take_of_length_le (by omega)] at hO1
      have hnl := nums_le t
      have HS := hid (sortZ_any hO1 (by omega))
      have HLO := hid (fun k hk => (World.ownsRow.lt hO1 k hk).1)
      have hbw := hB.out.size
      clear hO1 hO
      go_wp2_with fail
      refine (HS.out).mono ?_
      rintro e w2 ⟨rfl, hg2, hO2⟩
      have B2 := hid (hB.out.grown hg2 hbw HLO.out)
      have HC := hid (compactZ_any hO2 (by rw [List.length_mergeSort]; omega))
      clear hg2 hO2 HS
      go_wp2_with fail
      refine (HC.out).mono ?_
      rintro e w3 ⟨v3, rfl, hg3, hO3⟩
      have EX : Hid (VarsPost t w (.returned v3) w3) := hid ⟨v3, rfl, hO3, B2.out.grown hg3 B2.out.size HLO.out⟩
      clear hg3 hO3 HC
      go_wp2_with fail
      go_ret
      exact EX.out

set_option maxHeartbeats 4000000 in
set_option maxRecDepth 100000 in
theorem in_any {B : Nat} (zs : List Int) (n : Int) (v : Value) (w : World) (h : OwnZ B v zs w) :
    Calls Try.prog 6 #[v, .int .i64 n] w fun e w' => e = .returned (.bool (decide (n ∈ zs))) ∧ w = w' := by
  have HO := hid h
  obtain ⟨A, cap, rfl, h1, h2⟩ := h.val
  unfold maxLen at h2
  clear h
  go_enter Try.func6, Try.ntmps6
  go_wp2
  go_loop [5] (fun v5 => ∃ k : Nat, v5 = .int .i64 k ∧ k ≤ zs.length ∧ Hid (n ∉ zs.take k)) (fun v5 => zs.length - (intOf v5).toNat)
  case atStart => exact ⟨0, rfl, by omega, hid (by simp)⟩
  case round =>
    obtain ⟨k, rfl, hk, hN⟩ := hrel
    by_cases hlt : k < zs.length
    · obtain ⟨g, rfl, -, c0⟩ := HO.out.cell hlt
      have hst : zs.take (k + 1) = zs.take k ++ [zs[k]] := List.take_succ_eq_append_getElem hlt
      have HST := hid hst
      have HM := hid (show zs[k] ∈ zs from List.getElem_mem hlt)
      generalize zs[k] = x at *
      clear hst
      by_cases hx : x = n
      · subst hx
        have e1 : Hid (decide (x ∈ zs) = true) := hid (decide_eq_true HM.out)
        go_wp2
        go_ret
        exact ⟨ret_bool (by rw [e1.out]), rfl⟩
      · have ex : (x == n) = false := by simpa using hx
        have HN2 := hid (show n ∉ zs.take (k + 1) from by rw [HST.out]; simp [hN.out]; exact fun e => hx e.symm)
        clear hx hN
        go_wp2
        go_round
        case rel => exact ⟨k + 1, by go_num, by omega, HN2⟩
        case measure => simp [intOf]; omega
    · have e1 : Hid (decide (n ∈ zs) = false) := hid (by
        have := hN.out
        rw [List.take_of_length_le (by omega)] at this
        exact decide_eq_false this)
      clear hN
      go_wp2
      go_ret
      exact ⟨ret_bool (by rw [e1.out]), rfl⟩

set_option maxHeartbeats 4000000 in
set_option maxRecDepth 100000 in
theorem indexZ_any {B : Nat} (zs : List Int) (n : Int) (v : Value) (w : World) (h : OwnZ B v zs w) :
    Calls Try.prog 74 #[v, .int .i64 n] w fun e w' => (∃ i : Int, e = .returned (.int .i64 i) ∧ (0 ≤ i ↔ n ∈ zs)) ∧ w = w' := by
  have HO := hid h
  obtain ⟨A, cap, rfl, h1, h2⟩ := h.val
  unfold maxLen at h2
  clear h
  go_enter Try.func74, Try.ntmps74
  go_wp2
  go_loop [8] (fun v8 => ∃ k : Nat, v8 = .int .i64 k ∧ k ≤ zs.length ∧ Hid (n ∉ zs.take k)) (fun v8 => zs.length - (intOf v8).toNat)
  case atStart => exact ⟨0, rfl, by omega, hid (by simp)⟩
  case round =>
    obtain ⟨k, rfl, hk, hN⟩ := hrel
    by_cases hlt : k < zs.length
    · obtain ⟨g, rfl, -, c0⟩ := HO.out.cell hlt
      have hst : zs.take (k + 1) = zs.take k ++ [zs[k]] := List.take_succ_eq_append_getElem hlt
      have HST := hid hst
      have HM := hid (show zs[k] ∈ zs from List.getElem_mem hlt)
      generalize zs[k] = x at *
      clear hst
      by_cases hx : n = x
      · subst hx
        go_wp2
        go_ret
        exact ⟨⟨k, rfl, by simp [HM.out]⟩, rfl⟩
      · have ex : (n == x) = false := by simpa using hx
        have HN2 := hid (show n ∉ zs.take (k + 1) from by rw [HST.out]; simp [hN.out]; exact hx)
        clear hx hN
        go_wp2
        go_round
        case rel => exact ⟨k + 1, by go_num, by omega, HN2⟩
        case measure => simp [intOf]; omega
    · have e1 : Hid (n ∉ zs) := hid (by
        have := hN.out
        rwa [List.take_of_length_le (by omega)] at this)
      clear hN
      go_wp2
      go_ret
      exact ⟨⟨-1, rfl, by simp [e1.out]⟩, rfl⟩
theorem contains_any {B : Nat} (zs : List Int) (n : Int) (v : Value) (w : World) (h : OwnZ B v zs w) :
    Calls Try.prog 40 #[v, .int .i64 n] w fun e w' => e = .returned (.bool (decide (n ∈ zs))) ∧ w = w' := by
  have HI := hid (indexZ_any zs n v w h)
  obtain ⟨A, cap, rfl, h1, h2⟩ := h.val
  clear h
  go_enter Try.func40, Try.ntmps40
  go_wp2_with fail
  refine (HI.out).mono ?_
  rintro e w' ⟨⟨i, rfl, hi⟩, rfl⟩
  have HII := hid hi
  clear hi HI
  by_cases h0 : 0 ≤ i
  · have e1 : Hid (decide (n ∈ zs) = true) := hid (decide_eq_true (HII.out.1 h0))
    go_wp2
    go_ret
    exact ⟨ret_bool (by rw [e1.out]), rfl⟩
  · have e1 : Hid (decide (n ∈ zs) = false) := hid (decide_eq_false fun g => h0 (HII.out.2 g))
    have e2 : decide (0 ≤ i) = false := decide_eq_false h0
    go_wp2
    go_ret
    exact ⟨ret_bool (by rw [e1.out]), rfl⟩
end Go.Proofs.Ytkkigdbinnfbfaa
