/-
  The walk of ty.sorted, with slices.SortFunc at its closure. Conditions: at most 1000 texts.
-/
import Derived.Test.YtimlblbmfckeiaaDoorTyV
import Derived.Sort.OwnSortedInts
import Derived.BigQuiet
namespace Go.Proofs.YtimlblbmfckeiaaDoor
open Go.RowKit Go.Sort

set_option maxHeartbeats 1000000 in
set_option maxRecDepth 100000 in
theorem sorted1_any (ss : List ByteArray) (i j : Nat) (hi : i < ss.length) (hj : j < ss.length) (b o cap X : Nat) (w : World) (hX : w.cell? ⟨X, 0, none⟩ = some (.slice (some ⟨b, o, none⟩) ss.length cap))
    (hc : ∀ (k : Nat) (h : k < ss.length), w.cell? ⟨b, o + k, none⟩ = some (.string ss[k])) :
    Calls Tryd.prog 60 #[.int .i64 i, .int .i64 j, .pointer (some ⟨X, 0, none⟩)] w fun e w' => e = .returned (.int .i64 (Lib.compareBytes ss[i].data.toList ss[j].data.toList)) ∧ ∃ q, w' = w.drewN q := by
  have x0 := hc i hi
  have y0 := hc j hj
  clear hc
  generalize ss[i] = S at *
  generalize ss[j] = R at *
  have HCM := hid (Tryd.strings_Compare S R)
  generalize Lib.compareBytes S.data.toList R.data.toList = z at *
  have hi2 : (i : Int) < (ss.length : Int) := by omega
  have hj2 : (j : Int) < (ss.length : Int) := by omega
  go_enter Tryd.func60, Tryd.ntmps60
  go_wp2
  go_quiet ((go_at_call 61; exact Calls.quiet_of_same (HCM.out _)))
  go_wp2
  go_ret
  exact ⟨rfl, _, rfl⟩

section
variable {α : Type} [Inhabited α] {ec : α → Value}

theorem heap_sortedF {w : World} {g n : Nat} {os : Array Obj} {cur : Array Value} {e : TypeId} {fr : Nat × Nat} (d : Array α) (hb : w.heap[g]? = some (.cells cur e fr)) :
    (sortWorld ec w g 0 n d os).heap[g]? = some (.cells (putCells ec 0 d cur) e fr) := by
  have hg : g < w.heap.size := (Array.getElem?_eq_some_iff.1 hb).1
  unfold sortWorld
  rw [heap_grow_old _ _ (by simpa using hg)]
  simp [putRow, mapBlock, Sort.ahead, Array.getElem?_modify, hb, onCells]

theorem grownBy_sortedF {w : World} {g n : Nat} {os : Array Obj} (d : Array α) : w.grownBy (sortWorld ec w g 0 n d os) (some g) := by
  refine ⟨rfl, rfl, rfl, by simp [sortWorld], fun k hk hne => ?_⟩
  unfold sortWorld
  rw [heap_grow_old _ _ (by simpa using hk)]
  have : g ≠ k := fun e => hne (by rw [e])
  simp [putRow, mapBlock, Sort.ahead, Array.getElem?_modify, this]

theorem take_putCellsF (cur : Array Value) (ts : Array α) (h : ts.size ≤ cur.size) : (putCells ec 0 ts cur).toList.take ts.size = ts.toList.map ec := by
  apply List.ext_getElem?
  intro j
  by_cases hj : j < ts.size
  · rw [List.getElem?_take_of_lt hj, Array.getElem?_toList]
    simp [putCells, hj, show j < cur.size by omega]
  · rw [List.getElem?_take_eq_none (by omega), List.getElem?_eq_none (by simp; omega)]
end

theorem range_set (n k : Nat) (h : k < n) : (cellsI (List.range k ++ List.replicate (n - k) 0)).set k (.int .i64 ((k : Nat) : Int)) = cellsI (List.range (k + 1) ++ List.replicate (n - (k + 1)) 0) := by
  unfold cellsI
  rw [show n - k = (n - (k + 1)) + 1 by omega, List.replicate_succ, List.range_succ]
  simp only [List.map_append, List.map_cons, List.append_assoc, List.singleton_append]
  rw [List.set_append_right _ _ (by simp)]
  simp

theorem range_cell (n k : Nat) (h : k < n) : (cellsI (List.range k ++ List.replicate (n - k) 0))[k]? = some (.int .i64 ((0 : Nat) : Int)) := by
  unfold cellsI
  rw [show n - k = (n - (k + 1)) + 1 by omega, List.replicate_succ, List.getElem?_map, List.getElem?_append_right (by simp)]
  simp

def encF {n : Nat} (i : Fin n) : Value := .int .i64 ((i.val : Nat) : Int)

/-- What the closure compares. -/
def cfF (ss : List ByteArray) (i j : Fin ss.length) : Int := Lib.compareBytes ss[i].data.toList ss[j].data.toList

theorem swoF (ss : List ByteArray) : SWO (ltOf (cfF ss)) where
  irrefl x := by simp [ltOf, cfF, L.cB_self]
  trans x y z h1 h2 := by
    unfold ltOf cfF at *
    exact decide_eq_true (L.cB_trans (of_decide_eq_true h1) (of_decide_eq_true h2))
  ntrans x y z h1 h2 := by
    unfold ltOf cfF at *
    exact decide_eq_false (L.cB_ntrans (of_decide_eq_false h1) (of_decide_eq_false h2))

theorem ofFn_val (n : Nat) : (Array.ofFn (fun i : Fin n => i)).toList.map (fun i => i.val) = List.range n := by
  apply List.ext_getElem
  · simp
  · intro i h1 h2
    simp

set_option maxHeartbeats 1000000 in
/-- The sort, at this closure: the numbers of the texts, in the texts' order. -/
theorem sortF_any (ss : List ByteArray) (h0 : 0 < ss.length) (hn : ss.length ≤ 1000) (b o cap X g B : Nat) (wr : World) (cur : Array Value) (hX : wr.cell? ⟨X, 0, none⟩ = some (.slice (some ⟨b, o, none⟩) ss.length cap))
    (hc : ∀ (k : Nat) (h : k < ss.length), wr.cell? ⟨b, o + k, none⟩ = some (.string ss[k])) (hXg : X ≠ g) (hbg : b ≠ g) (hBg : B ≤ g)
    (hg : wr.heap[g]? = some (.cells cur 3 (0, 0))) (hcs : cur.size = ss.length) (ht : cur.toList.take ss.length = cellsI (List.range ss.length)) :
    Calls Tryd.prog 59 #[.slice (some ⟨g, 0, none⟩) ss.length ss.length, .func (.func 60) #[] #[.pointer (some ⟨X, 0, none⟩)]] wr fun e w' => e = .returned (.tuple #[]) ∧
      ∃ ks : List Nat, ks.Perm (List.range ss.length) ∧ ks.Pairwise (fun i j => 0 ≤ Lib.compareBytes (ss.getD j ⟨#[]⟩).data.toList (ss.getD i ⟨#[]⟩).data.toList) ∧ OwnI B (.slice (some ⟨g, 0, none⟩) ss.length ss.length) ks w' ∧ wr.grownBy w' (some g) := by
  haveI : Inhabited (Fin ss.length) := ⟨⟨0, h0⟩⟩
  have eg : ∀ args w, (callFunc 60 args).run Tryd.prog w = .ok (.enter 60 args) w := enters_of Tryd.func60 (by kernel_rfl) rfl
  have hcmp : CmpReads Tryd.prog 60 #[.pointer (some ⟨X, 0, none⟩)] (encF (n := ss.length)) (cfF ss) g 0 ss.length wr := fun m os dk hs x y => by
    have hgr := grownBy_sortedF (ec := encF (n := ss.length)) (w := wr) (g := g) (n := m) (os := os) dk
    have e1 := hgr.cell hX (by simpa using hXg)
    have e2 : ∀ (k : Nat) (h : k < ss.length), (sortWorld (encF (n := ss.length)) wr g 0 m dk os).cell? ⟨b, o + k, none⟩ = some (.string ss[k]) := fun k hk => hgr.cell (hc k hk) (by simpa using hbg)
    exact sorted1_any ss x.val y.val x.isLt y.isLt b o cap X _ e1 e2
  have hH : Holds (encF (n := ss.length)) wr g 0 (Array.ofFn fun i : Fin ss.length => i) := by
    intro j hj
    have hj' : j < ss.length := by simpa using hj
    refine ⟨?_, by simp [World.frozen?, hg]⟩
    have h1 : (cur.toList.take ss.length)[j]? = (cellsI (List.range ss.length))[j]? := by rw [ht]
    rw [List.getElem?_take_of_lt hj'] at h1
    simp only [World.cell?, hg, Nat.zero_add]
    simp only [Option.isSome_none, Bool.false_eq_true, if_false]
    rw [← Array.getElem?_toList, h1]
    simp [cellsI, hj', encF]
  have hcon := Tryd.slices_SortFunc (encF (n := ss.length)) (fun _ => rfl) (cfF ss) (swoF ss) 60 #[.pointer (some ⟨X, 0, none⟩)] g 0 ss.length (Array.ofFn fun i : Fin ss.length => i) wr eg (by rw [Array.size_ofFn]; exact hcmp.lays) hH (heap_lt hg) (by rw [Array.size_ofFn]; omega)
  rw [Array.size_ofFn] at hcon
  refine hcon.mono ?_
  rintro e w' ⟨rfl, d', n, os, hp, hs, rfl⟩
  obtain ⟨hp1, _, hp3⟩ := hp
  rw [Array.size_ofFn] at hp1
  have hex : ∀ a : Array (Fin ss.length), a.size = ss.length → a.extract 0 ss.length = a := fun a ha => Array.ext (by simp [ha]) (fun i _ _ => by simp)
  rw [hex d' hp1, hex _ (Array.size_ofFn)] at hp3
  refine ⟨rfl, d'.toList.map (fun i => i.val), ?_, ?_, ?_, grownBy_sortedF d'⟩
  · rw [← ofFn_val ss.length]
    exact hp3.map _
  · rw [List.pairwise_map, List.pairwise_iff_getElem]
    intro i j hi hj hij
    have hj' : j < d'.size := by simpa using hj
    have hi' : i < d'.size := by simpa using hi
    have h := hs i j (Nat.zero_le _) hij (by omega)
    rw [getElem!_pos d' j hj', getElem!_pos d' i hi'] at h
    unfold ltOf cfF at h
    have h := of_decide_eq_false h
    have e : ∀ x : Fin ss.length, ss.getD x.val ⟨#[]⟩ = ss[x] := fun x => by simp [List.getD]
    rw [e, e]
    exact Int.not_lt.1 h
  · have hl : (d'.toList.map (fun i : Fin ss.length => i.val)).length = ss.length := by simp [hp1]
    unfold OwnI
    rw [hl]
    refine ⟨by simp [cellsI, hp1], .inr ⟨g, ss.length, _, rfl, hBg, heap_sortedF _ hg, Nat.le_refl _, by unfold maxLen; omega, by simp [putCells, hcs], ?_⟩⟩
    have := take_putCellsF (ec := encF (n := ss.length)) cur d' (by omega)
    rw [hp1] at this
    rw [Nat.mul_one, this]
    simp [cellsI, encF]

set_option maxHeartbeats 4000000 in
set_option maxRecDepth 100000 in
theorem sorted_any (ss : List ByteArray) (hn : ss.length ≤ 1000) (v : Value) (w : World) (hx : RdS w w.heap.size v ss) :
    Calls Tryd.prog 40 #[v] w fun e w' => ∃ v', e = .returned v' ∧ ∃ ks : List Nat, ks.Perm (List.range ss.length) ∧ ks.Pairwise (fun i j => 0 ≤ Lib.compareBytes (ss.getD j ⟨#[]⟩).data.toList (ss.getD i ⟨#[]⟩).data.toList) ∧ OwnI w.heap.size v' ks w' ∧ Below w.heap.size w w' := by
  have HX := hid hx
  obtain ⟨A, cap, rfl, hc⟩ := hx
  have HC := hid hc
  clear hc
  obtain ⟨ii, hii, hiz, his, hib⟩ : ∃ i : TypeInfo, Tryd.prog.info? 3 = some i ∧ i.zero = some (.int .i64 0) ∧ i.size = 1 ∧ i.bytes = 8 := by
    obtain ⟨i0, hi, hz0, hz1, hz2⟩ := info_parts infoInt
    exact ⟨i0, hi, hz0, hz1, hz2⟩
  obtain ⟨wm, hrun, hown, hgrow⟩ := run_make_full (P := Tryd.prog) (w.alloc (.cells #[.slice A ss.length cap] 34)) w.heap.size 29 3 ii (.int .i64 0) 1 Tryd.underlying29 hii hiz his .i64 .i64 ss.length (by rw [hib]; omega) (by unfold maxLen; omega) (by simp)
  have hown2 : OwnI w.heap.size (.slice (some ⟨w.heap.size + 1, 0, none⟩) ss.length ss.length) (List.range 0 ++ List.replicate (ss.length - 0) 0) wm := by
    unfold OwnI
    have e : cellsI (List.range 0 ++ List.replicate (ss.length - 0) 0) = (madeCells (Value.int .i64 0).cells (ss.length * 1)).toList := by
      rw [Nat.mul_one]
      show _ = (madeCells #[.int .i64 0] ss.length).toList
      rw [toList_madeCells_one]
      simp [cellsI]
    rw [e]
    simpa using hown
  have hBm : Below w.heap.size w wm := (below_new _).grown hgrow (by simp) (by intro k hk; cases hk)
  have hXm : wm.heap[w.heap.size]? = some (.cells #[.slice A ss.length cap] 34 (0, 0)) := (hgrow.block _ (by simp) (by simp)).trans (heap_alloc_new w _)
  simp only [World.size_alloc] at hrun
  have HO := hid hown2
  clear hown hown2 hgrow hii hiz his hib
  go_enter Tryd.func40, Tryd.ntmps40
  go_wp2
  go_loopw [10] (fun vi wr => ∃ k : Nat, vi = .int .i64 k ∧ k ≤ ss.length ∧ OwnI w.heap.size (.slice (some ⟨w.heap.size + 1, 0, none⟩) ss.length ss.length) (List.range k ++ List.replicate (ss.length - k) 0) wr ∧ Below w.heap.size w wr ∧ wr.heap[w.heap.size]? = some (.cells #[.slice A ss.length cap] 34 (0, 0))) (fun vi _ => ss.length - (intOf vi).toNat)
  case atStart => exact ⟨0, rfl, by omega, HO.out, hBm, hXm⟩
  case round =>
    obtain ⟨k, rfl, hk, hO, hB, hX⟩ := hrel
    by_cases hlt : k < ss.length
    · have hlen : (List.range k ++ List.replicate (ss.length - k) 0).length = ss.length := by simp; omega
      have hO' := hO
      unfold OwnI at hO'
      rw [hlen] at hO'
      obtain ⟨hst, hgr⟩ := World.ownsRow.stored hO' k (.int .i64 ((k : Nat) : Int))
      rw [range_set _ _ hlt] at hst
      have c1 := (World.ownsRow.cellAt hO' k (by omega)).trans (range_cell ss.length k hlt)
      have f1 := World.ownsRow.frozenAt hO' k
      have HST := hid hst
      have HGR := hid hgr
      clear hst hgr hO hO' hlen
      go_wp2
      go_roundw
      case rel =>
        refine ⟨k + 1, by go_num, by omega, ?_, hB.setCell (p := ⟨w.heap.size + 1, k, none⟩) (by simp) _, (heap_setCell_other wr _ _ _ (by simp)).trans hX⟩
        unfold OwnI
        have e : (List.range (k + 1) ++ List.replicate (ss.length - (k + 1)) 0).length = ss.length := by simp; omega
        rw [e]
        exact HST.out
      case measure => simp [intOf]; omega
    · obtain rfl : k = ss.length := by omega
      rw [Nat.sub_self, List.replicate_zero, List.append_nil] at hO
      have hz := heap_lt hX
      obtain ⟨curS, hgS, hcsS, htakeS⟩ : ∃ cur, wr.heap[w.heap.size + 1]? = some (.cells cur 3 (0, 0)) ∧ cur.size = ss.length * 1 ∧ cur.toList.take (ss.length * 1) = cellsI (List.range ss.length) := by
        rcases hO.2 with ⟨h, _⟩ | ⟨g, cp, cur, hv, _, hh, _, _, hcs, ht⟩
        · cases h
        · simp only [Value.slice.injEq, Option.some.injEq, Addr.mk.injEq, and_true] at hv
          obtain ⟨rfl, _, rfl⟩ := hv
          exact ⟨cur, hh, by simpa using hcs, by simpa using ht⟩
      rw [Nat.mul_one] at hcsS htakeS
      by_cases h0 : ss.length = 0
      · have HSF := hid (Tryd.slices_SortFunc_none (α := Unit) (some ⟨w.heap.size + 1, 0, none⟩) 0 (.func (.func 60) #[] #[.pointer (some ⟨w.heap.size, 0, none⟩)]) wr)
        have HO2 := hid hO
        rw [h0] at hO HO2 ⊢
        clear hO
        go_wp2_with fail
        refine (HSF.out).mono ?_
        rintro e w2 ⟨rfl, rfl⟩
        go_wp2
        go_ret
        exact ⟨_, rfl, [], by rw [h0]; exact List.Perm.nil, List.Pairwise.nil, HO2.out, hB⟩
      · obtain ⟨b, o, rfl, hb, hcx⟩ := HC.out (by rintro rfl; simp at h0)
        have hXc := Lib.cell_of_heap hX 0
        simp only [List.getElem?_toArray] at hXc
        have HSF := hid (sortF_any ss (by omega) hn b o cap w.heap.size (w.heap.size + 1) w.heap.size wr curS hXc (fun k hk => (hB.cell (p := ⟨b, o + k, none⟩) hb).trans (hcx k hk)) (by omega) (by omega) (by omega) hgS hcsS htakeS)
        clear hcx hXc hO hX
        go_wp2_with fail
        refine (HSF.out).mono ?_
        rintro e w2 ⟨rfl, ks, hp, hs, hO2, hgr⟩
        have HP := hid hp
        have HS := hid hs
        clear hp hs
        go_wp2
        go_ret
        exact ⟨_, rfl, ks, HP.out, HS.out, hO2, hB.grown hgr hB.size (fun k hk => by cases hk; omega)⟩

end Go.Proofs.YtimlblbmfckeiaaDoor
