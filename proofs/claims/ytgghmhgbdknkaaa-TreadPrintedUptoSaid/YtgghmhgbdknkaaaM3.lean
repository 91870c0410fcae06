/-
  The texts TyN, TyX, TyZ, one behind the other. Conditions: those that each of them names.
-/
import Derived.Test.YtgghmhgbdknkaaaM2
import Derived.Sort.OwnSortedInts
import Derived.BigQuiet
import Derived.Deep.RegionLaw
section
/-
  The walk of ty.sorted, with slices.SortFunc at its closure. Conditions: at most 1000 texts.
-/
namespace Go.Proofs.Ytgghmhgbdknkaaa
open Go.RowKit Go.Sort

set_option maxHeartbeats 1000000 in
set_option maxRecDepth 100000 in
theorem sorted1_any (ss : List ByteArray) (i j : Nat) (hi : i < ss.length) (hj : j < ss.length) (b o cap X : Nat) (w : World) (hX : w.cell? ⟨X, 0, none⟩ = some (.slice (some ⟨b, o, none⟩) ss.length cap))
    (hc : ∀ (k : Nat) (h : k < ss.length), w.cell? ⟨b, o + k, none⟩ = some (.string ss[k])) :
    Calls Try.prog 77 #[.int .i64 i, .int .i64 j, .pointer (some ⟨X, 0, none⟩)] w fun e w' => e = .returned (.int .i64 (Lib.compareBytes ss[i].data.toList ss[j].data.toList)) ∧ ∃ q, w' = w.drewN q := by
  have x0 := hc i hi
  have y0 := hc j hj
  clear hc
  generalize ss[i] = S at *
  generalize ss[j] = R at *
  have HCM := hid (Try.strings_Compare S R)
  generalize Lib.compareBytes S.data.toList R.data.toList = z at *
  have hi2 : (i : Int) < (ss.length : Int) := by omega
  have hj2 : (j : Int) < (ss.length : Int) := by omega
  go_enter Try.func77, Try.ntmps77
  go_wp2
  go_quiet ((go_at_call 78; exact Calls.quiet_of_same (HCM.out _)))
  go_wp2
  go_ret
  exact ⟨rfl, _, rfl⟩

section
variable {α : Type} [Inhabited α] {ec : α → Value}

theorem heap_sortedF {w : World} {g n : Nat} {os : Array Obj} {cur : Array Value} {e : TypeId} {fr : Nat × Nat} (d : Array α) (hb : w.heap[g]? = some (.cells cur e fr)) :
    (sortWorld ec w g 0 n d os).heap[g]? = some (.cells (putCells ec 0 d cur) e fr) := by
  have hg : g < w.heap.size := (Array.getElem?_eq_some_iff.1 hb).1
  unfold sortWorld
  rw [heap_grow_old _ _ (by simpa using hg)]
  simp [putRow, mapBlock, Sort.ahead, Array.getElem?_modify, hb, onCells]

theorem grownBy_sortedF {w : World} {g n : Nat} {os : Array Obj} (d : Array α) : w.grownBy (sortWorld ec w g 0 n d os) (some g) := by
  refine ⟨rfl, rfl, rfl, by simp [sortWorld], fun k hk hne => ?_⟩
  unfold sortWorld
  rw [heap_grow_old _ _ (by simpa using hk)]
  have : g ≠ k := fun e => hne (by rw [e])
  simp [putRow, mapBlock, Sort.ahead, Array.getElem?_modify, this]

theorem take_putCellsF (cur : Array Value) (ts : Array α) (h : ts.size ≤ cur.size) : (putCells ec 0 ts cur).toList.take ts.size = ts.toList.map ec := by
  apply List.ext_getElem?
  intro j
  by_cases hj : j < ts.size
  · rw [List.getElem?_take_of_lt hj, Array.getElem?_toList]
    simp [putCells, hj, show j < cur.size by omega]
  · rw [List.getElem?_take_eq_none (by omega), List.getElem?_eq_none (by simp; omega)]
end

theorem range_set (n k : Nat) (h : k < n) : (cellsI (List.range k ++ List.replicate (n - k) 0)).set k (.int .i64 ((k : Nat) : Int)) = cellsI (List.range (k + 1) ++ List.replicate (n - (k + 1)) 0) := by
  unfold cellsI
  rw [show n - k = (n - (k + 1)) + 1 by omega, List.replicate_succ, List.range_succ]
  simp only [List.map_append, List.map_cons, List.append_assoc, List.singleton_append]
  rw [List.set_append_right _ _ (by simp)]
  simp

theorem range_cell (n k : Nat) (h : k < n) : (cellsI (List.range k ++ List.replicate (n - k) 0))[k]? = some (.int .i64 ((0 : Nat) : Int)) := by
  unfold cellsI
  rw [show n - k = (n - (k + 1)) + 1 by omega, List.replicate_succ, List.getElem?_map, List.getElem?_append_right (by simp)]
  simp

def encF {n : Nat} (i : Fin n) : Value := .int .i64 ((i.val : Nat) : Int)

/-- What the closure compares. -/
def cfF (ss : List ByteArray) (i j : Fin ss.length) : Int := Lib.compareBytes ss[i].data.toList ss[j].data.toList

theorem swoF (ss : List ByteArray) : SWO (ltOf (cfF ss)) where
  irrefl x := by simp [ltOf, cfF, L.cB_self]
  trans x y z h1 h2 := by
    unfold ltOf cfF at *
    exact decide_eq_true (L.cB_trans (of_decide_eq_true h1) (of_decide_eq_true h2))
  ntrans x y z h1 h2 := by
    unfold ltOf cfF at *
    exact decide_eq_false (L.cB_ntrans (of_decide_eq_false h1) (of_decide_eq_false h2))

theorem ofFn_val (n : Nat) : (Array.ofFn (fun i : Fin n => i)).toList.map (fun i => i.val) = List.range n := by
  apply List.ext_getElem
  · simp
  · intro i h1 h2
    simp

set_option maxHeartbeats 1000000 in
/-- The sort, at this closure: the numbers of the texts, in the texts' order. -/
theorem sortF_any (ss : List ByteArray) (h0 : 0 < ss.length) (hn : ss.length ≤ 1000) (b o cap X g B : Nat) (wr : World) (cur : Array Value) (hX : wr.cell? ⟨X, 0, none⟩ = some (.slice (some ⟨b, o, none⟩) ss.length cap))
    (hc : ∀ (k : Nat) (h : k < ss.length), wr.cell? ⟨b, o + k, none⟩ = some (.string ss[k])) (hXg : X ≠ g) (hbg : b ≠ g) (hBg : B ≤ g)
    (hg : wr.heap[g]? = some (.cells cur 3 (0, 0))) (hcs : cur.size = ss.length) (ht : cur.toList.take ss.length = cellsI (List.range ss.length)) :
    Calls Try.prog 76 #[.slice (some ⟨g, 0, none⟩) ss.length ss.length, .func (.func 77) #[] #[.pointer (some ⟨X, 0, none⟩)]] wr fun e w' => e = .returned (.tuple #[]) ∧
      ∃ ks : List Nat, ks.Perm (List.range ss.length) ∧ ks.Pairwise (fun i j => 0 ≤ Lib.compareBytes (ss.getD j ⟨#[]⟩).data.toList (ss.getD i ⟨#[]⟩).data.toList) ∧ OwnI B (.slice (some ⟨g, 0, none⟩) ss.length ss.length) ks w' ∧ wr.grownBy w' (some g) := by
  haveI : Inhabited (Fin ss.length) := ⟨⟨0, h0⟩⟩
  have eg : ∀ args w, (callFunc 77 args).run Try.prog w = .ok (.enter 77 args) w := enters_of Try.func77 (by kernel_rfl) rfl
  have hcmp : CmpReads Try.prog 77 #[.pointer (some ⟨X, 0, none⟩)] (encF (n := ss.length)) (cfF ss) g 0 ss.length wr := fun m os dk hs x y => by
    have hgr := grownBy_sortedF (ec := encF (n := ss.length)) (w := wr) (g := g) (n := m) (os := os) dk
    have e1 := hgr.cell hX (by simpa using hXg)
    have e2 : ∀ (k : Nat) (h : k < ss.length), (sortWorld (encF (n := ss.length)) wr g 0 m dk os).cell? ⟨b, o + k, none⟩ = some (.string ss[k]) := fun k hk => hgr.cell (hc k hk) (by simpa using hbg)
    exact sorted1_any ss x.val y.val x.isLt y.isLt b o cap X _ e1 e2
  have hH : Holds (encF (n := ss.length)) wr g 0 (Array.ofFn fun i : Fin ss.length => i) := by
    intro j hj
    have hj' : j < ss.length := by simpa using hj
    refine ⟨?_, by simp [World.frozen?, hg]⟩
    have h1 : (cur.toList.take ss.length)[j]? = (cellsI (List.range ss.length))[j]? := by rw [ht]
    rw [List.getElem?_take_of_lt hj'] at h1
    simp only [World.cell?, hg, Nat.zero_add]
    simp only [Option.isSome_none, Bool.false_eq_true, if_false]
    rw [← Array.getElem?_toList, h1]
    simp [cellsI, hj', encF]
  have hcon := Try.slices_SortFunc (encF (n := ss.length)) (fun _ => rfl) (cfF ss) (swoF ss) 77 #[.pointer (some ⟨X, 0, none⟩)] g 0 ss.length (Array.ofFn fun i : Fin ss.length => i) wr eg (by rw [Array.size_ofFn]; exact hcmp.lays) hH (heap_lt hg) (by rw [Array.size_ofFn]; omega)
  rw [Array.size_ofFn] at hcon
  refine hcon.mono ?_
  rintro e w' ⟨rfl, d', n, os, hp, hs, rfl⟩
  obtain ⟨hp1, _, hp3⟩ := hp
  rw [Array.size_ofFn] at hp1
  have hex : ∀ a : Array (Fin ss.length), a.size = ss.length → a.extract 0 ss.length = a := fun a ha => Array.ext (by simp [ha]) (fun i _ _ => by simp)
  rw [hex d' hp1, hex _ (Array.size_ofFn)] at hp3
  refine ⟨rfl, d'.toList.map (fun i => i.val), ?_, ?_, ?_, grownBy_sortedF d'⟩
  · rw [← ofFn_val ss.length]
    exact hp3.map _
  · rw [List.pairwise_map, List.pairwise_iff_getElem]
    intro i j hi hj hij
    have hj' : j < d'.size := by simpa using hj
    have hi' : i < d'.size := by simpa using hi
    have h := hs i j (Nat.zero_le _) hij (by omega)
    rw [getElem!_pos d' j hj', getElem!_pos d' i hi'] at h
    unfold ltOf cfF at h
    have h := of_decide_eq_false h
    have e : ∀ x : Fin ss.length, ss.getD x.val ⟨#[]⟩ = ss[x] := fun x => by simp [List.getD]
    rw [e, e]
    exact Int.not_lt.1 h
  · have hl : (d'.toList.map (fun i : Fin ss.length => i.val)).length = ss.length := by simp [hp1]
    unfold OwnI
    rw [hl]
    refine ⟨by simp [cellsI, hp1], .inr ⟨g, ss.length, _, rfl, hBg, heap_sortedF _ hg, Nat.le_refl _, by unfold maxLen; omega, by simp [putCells, hcs], ?_⟩⟩
    have := take_putCellsF (ec := encF (n := ss.length)) cur d' (by omega)
    rw [hp1] at this
    rw [Nat.mul_one, this]
    simp [cellsI, encF]

set_option maxHeartbeats 4000000 in
set_option maxRecDepth 100000 in
theorem sorted_any (ss : List ByteArray) (hn : ss.length ≤ 1000) (v : Value) (w : World) (hx : RdS w w.heap.size v ss) :
    Calls Try.prog 67 #[v] w fun e w' => ∃ v', e = .returned v' ∧ ∃ ks : List Nat, ks.Perm (List.range ss.length) ∧ ks.Pairwise (fun i j => 0 ≤ Lib.compareBytes (ss.getD j ⟨#[]⟩).data.toList (ss.getD i ⟨#[]⟩).data.toList) ∧ OwnI w.heap.size v' ks w' ∧ Below w.heap.size w w' := by
  have HX := hid hx
  obtain ⟨A, cap, rfl, hc⟩ := hx
  have HC := hid hc
  clear hc
  obtain ⟨ii, hii, hiz, his, hib⟩ : ∃ i : TypeInfo, Try.prog.info? 3 = some i ∧ i.zero = some (.int .i64 0) ∧ i.size = 1 ∧ i.bytes = 8 := by
    obtain ⟨i0, hi, hz0, hz1, hz2⟩ := info_parts infoInt
    exact ⟨i0, hi, hz0, hz1, hz2⟩
  obtain ⟨wm, hrun, hown, hgrow⟩ := run_make_full (P := Try.prog) (w.alloc (.cells #[.slice A ss.length cap] 50)) w.heap.size 63 3 ii (.int .i64 0) 1 Try.underlying63 hii hiz his .i64 .i64 ss.length (by rw [hib]; omega) (by unfold maxLen; omega) (by simp)
  have hown2 : OwnI w.heap.size (.slice (some ⟨w.heap.size + 1, 0, none⟩) ss.length ss.length) (List.range 0 ++ List.replicate (ss.length - 0) 0) wm := by
    unfold OwnI
    have e : cellsI (List.range 0 ++ List.replicate (ss.length - 0) 0) = (madeCells (Value.int .i64 0).cells (ss.length * 1)).toList := by
      rw [Nat.mul_one]
      show _ = (madeCells #[.int .i64 0] ss.length).toList
      rw [toList_madeCells_one]
      simp [cellsI]
    rw [e]
    simpa using hown
  have hBm : Below w.heap.size w wm := (below_new _).grown hgrow (by simp) (by intro k hk; cases hk)
  have hXm : wm.heap[w.heap.size]? = some (.cells #[.slice A ss.length cap] 50 (0, 0)) := (hgrow.block _ (by simp) (by simp)).trans (heap_alloc_new w _)
  simp only [World.size_alloc] at hrun
  have HO := hid hown2
  clear hown hown2 hgrow hii hiz his hib
  go_enter Try.func67, Try.ntmps67
  go_wp2
  go_loopw [10] (fun vi wr => ∃ k : Nat, vi = .int .i64 k ∧ k ≤ ss.length ∧ OwnI w.heap.size (.slice (some ⟨w.heap.size + 1, 0, none⟩) ss.length ss.length) (List.range k ++ List.replicate (ss.length - k) 0) wr ∧ Below w.heap.size w wr ∧ wr.heap[w.heap.size]? = some (.cells #[.slice A ss.length cap] 50 (0, 0))) (fun vi _ => ss.length - (intOf vi).toNat)
  case atStart => exact ⟨0, rfl, by omega, HO.out, hBm, hXm⟩
  case round =>
    obtain ⟨k, rfl, hk, hO, hB, hX⟩ := hrel
    by_cases hlt : k < ss.length
    · have hlen : (List.range k ++ List.replicate (ss.length - k) 0).length = ss.length := by simp; omega
      have hO' := hO
      unfold OwnI at hO'
      rw [hlen] at hO'
      obtain ⟨hst, hgr⟩ := World.ownsRow.stored hO' k (.int .i64 ((k : Nat) : Int))
      rw [range_set _ _ hlt] at hst
      have c1 := (World.ownsRow.cellAt hO' k (by omega)).trans (range_cell ss.length k hlt)
      have f1 := World.ownsRow.frozenAt hO' k
      have HST := hid hst
      have HGR := hid hgr
      clear hst hgr hO hO' hlen
      go_wp2
      go_roundw
      case rel =>
        refine ⟨k + 1, by go_num, by omega, ?_, hB.setCell (p := ⟨w.heap.size + 1, k, none⟩) (by simp) _, (heap_setCell_other wr _ _ _ (by simp)).trans hX⟩
        unfold OwnI
        have e : (List.range (k + 1) ++ List.replicate (ss.length - (k + 1)) 0).length = ss.length := by simp; omega
        rw [e]
        exact HST.out
      case measure => simp [intOf]; omega
    · obtain rfl : k = ss.length := by omega
      rw [Nat.sub_self, List.replicate_zero, List.append_nil] at hO
      have hz := heap_lt hX
      obtain ⟨curS, hgS, hcsS, htakeS⟩ : ∃ cur, wr.heap[w.heap.size + 1]? = some (.cells cur 3 (0, 0)) ∧ cur.size = ss.length * 1 ∧ cur.toList.take (ss.length * 1) = cellsI (List.range ss.length) := by
        rcases hO.2 with ⟨h, _⟩ | ⟨g, cp, cur, hv, _, hh, _, _, hcs, ht⟩
        · cases h
        · simp only [Value.slice.injEq, Option.some.injEq, Addr.mk.injEq, and_true] at hv
          obtain ⟨rfl, _, rfl⟩ := hv
          exact ⟨cur, hh, by simpa using hcs, by simpa using ht⟩
      rw [Nat.mul_one] at hcsS htakeS
      by_cases h0 : ss.length = 0
      · have HSF := hid (Try.slices_SortFunc_none (α := Unit) (some ⟨w.heap.size + 1, 0, none⟩) 0 (.func (.func 77) #[] #[.pointer (some ⟨w.heap.size, 0, none⟩)]) wr)
        have HO2 := hid hO
        rw [h0] at hO HO2 ⊢
        clear hO
        go_wp2_with fail
        refine (HSF.out).mono ?_
        rintro e w2 ⟨rfl, rfl⟩
        go_wp2
        go_ret
        exact ⟨_, rfl, [], by rw [h0]; exact List.Perm.nil, List.Pairwise.nil, HO2.out, hB⟩
      · obtain ⟨b, o, rfl, hb, hcx⟩ := HC.out (by rintro rfl; simp at h0)
        have hXc := Lib.cell_of_heap hX 0
        simp only [List.getElem?_toArray] at hXc
        have HSF := hid (sortF_any ss (by omega) hn b o cap w.heap.size (w.heap.size + 1) w.heap.size wr curS hXc (fun k hk => (hB.cell (p := ⟨b, o + k, none⟩) hb).trans (hcx k hk)) (by omega) (by omega) (by omega) hgS hcsS htakeS)
        clear hcx hXc hO hX
        go_wp2_with fail
        refine (HSF.out).mono ?_
        rintro e w2 ⟨rfl, ks, hp, hs, hO2, hgr⟩
        have HP := hid hp
        have HS := hid hs
        clear hp hs
        go_wp2
        go_ret
        exact ⟨_, rfl, ks, HP.out, HS.out, hO2, hB.grown hgr hB.size (fun k hk => by cases hk; omega)⟩

end Go.Proofs.Ytgghmhgbdknkaaa
end

section
/-
  The walk of ty.Row. Conditions: at most 200 labels of at most 2000000 bytes, at most 200 types, none empty, of at most 20000 nodes each.
-/
namespace Go.Proofs.Ytgghmhgbdknkaaa
open Go.RowKit

/-- A slice of types that is read. -/
def RdT (w : World) (v : Value) (ts : List (Value × List L.Nd)) : Prop :=
  (∃ (A : Option Addr) (cap : Nat), v = .slice A ts.length cap ∧ (ts ≠ [] → ∃ b o, A = some ⟨b, o, none⟩ ∧ b < w.heap.size ∧ ∀ (i : Nat) (h : i < ts.length), w.cell? ⟨b, o + i, none⟩ = some ts[i].1)) ∧
  ∀ t ∈ ts, Rd w w.heap.size t.1 t.2

theorem RdT.below {w w' : World} {v : Value} {ts : List (Value × List L.Nd)} (h : RdT w v ts) (hb : Below w.heap.size w w') : RdT w' v ts := by
  obtain ⟨⟨A, cap, hv, hc⟩, hr⟩ := h
  refine ⟨⟨A, cap, hv, fun hn => ?_⟩, fun t ht => ((hr t ht).below hb).size⟩
  obtain ⟨b, o, ha, hlt, hx⟩ := hc hn
  refine ⟨b, o, ha, Nat.lt_of_lt_of_le hlt hb.size, fun i hi => ?_⟩
  rw [hb.cell (p := ⟨b, o + i, none⟩) hlt]
  exact hx i hi

theorem OwnI.more {B B' : Nat} {v : Value} {l : List Nat} {w : World} (h : OwnI B v l w) (hB : B' ≤ B) : OwnI B' v l w :=
  ⟨h.1, h.2.imp id fun ⟨g, cp, cur, h1, h2, h3⟩ => ⟨g, cp, cur, h1, Nat.le_trans hB h2, h3⟩⟩

/-- The nodes of the children of these numbers, each with its label. -/
def rowsL (ss : List ByteArray) (ts : List (Value × List L.Nd)) (ks : List Nat) : List L.Nd := ks.flatMap fun k => L.setName (ts.getD k (.nilFunc, [])).2 (ss.getD k ⟨#[]⟩)

/-- What Row tells. -/
def RowPost (kind : Int) (ss : List ByteArray) (ts : List (Value × List L.Nd)) (w : World) (e : Ending) (w' : World) : Prop :=
  Below w.heap.size w w' ∧
  ((L.isRow kind ss (ts.length : Int) = false ∧ e = .returned (.tuple #[.slice none 0 0, .int .i64 1])) ∨
   (L.isRow kind ss (ts.length : Int) = true ∧ ∃ ks : List Nat, ks.Perm (List.range ss.length) ∧ ks.Pairwise (fun i j => 0 ≤ Lib.compareBytes (ss.getD j ⟨#[]⟩).data.toList (ss.getD i ⟨#[]⟩).data.toList) ∧
     ((∃ j, 0 < j ∧ ∃ h : j < ks.length, ss.getD ks[j] ⟨#[]⟩ = ss.getD (ks[j - 1]'(by omega)) ⟨#[]⟩) ∧ e = .returned (.tuple #[.slice none 0 0, .int .i64 7]) ∨
      (∀ (j : Nat) (h : j < ks.length), 0 < j → ss.getD ks[j] ⟨#[]⟩ ≠ ss.getD (ks[j - 1]'(by omega)) ⟨#[]⟩) ∧ ∃ v', e = .returned (.tuple #[v', .int .i64 0]) ∧ Own w.heap.size v' (⟨kind, ⟨#[]⟩, (ts.length : Int)⟩ :: rowsL ss ts ks) w')))

theorem rowsL_len {ss : List ByteArray} {ts : List (Value × List L.Nd)} (h : ∀ t ∈ ts, t.2.length ≤ 20000) (ks : List Nat) : (rowsL ss ts ks).length ≤ ks.length * 20000 := by
  induction ks with
  | nil => simp [rowsL]
  | cons k ks ih =>
    have h1 : (ts.getD k (.nilFunc, [])).2.length ≤ 20000 := by
      by_cases hk : k < ts.length
      · have := h _ (List.getElem_mem hk)
        simpa [List.getD, hk] using this
      · simp [List.getD, Nat.le_of_not_lt hk]
    simp only [rowsL, List.flatMap_cons, List.length_append, List.length_cons, L.setName_length] at ih ⊢
    omega

theorem Own.slice {B : Nat} {v : Value} {l : List L.Nd} {w : World} (h : Own B v l w) (hn : l ≠ []) : ∃ g cap, v = .slice (some ⟨g, 0, none⟩) l.length cap ∧ ∀ j u, (cellsN l)[j]? = some u → w.cell? ((⟨g, 0, none⟩ : Addr).add j) = some u := by
  rcases h.rd.src with ⟨_, hz⟩ | ⟨a, cap, hv, hs⟩
  · exact absurd hz hn
  · rcases h.2 with ⟨hv2, _⟩ | ⟨g, cap2, cur, hv2, _⟩
    · rw [hv] at hv2; cases hv2
    · rw [hv] at hv2
      simp only [Value.slice.injEq, Option.some.injEq, true_and] at hv2
      obtain ⟨rfl, rfl⟩ := hv2
      exact ⟨g, cap, hv, hs⟩

theorem Own.heap {B : Nat} {v : Value} {l : List L.Nd} {w w' : World} (h : Own B v l w) (e : w'.heap = w.heap) : Own B v l w' := by
  unfold Own World.ownsRow at h ⊢
  rw [e]
  exact h
theorem OwnI.heap {B : Nat} {v : Value} {l : List Nat} {w w' : World} (h : OwnI B v l w) (e : w'.heap = w.heap) : OwnI B v l w' := by
  unfold OwnI World.ownsRow at h ⊢
  rw [e]
  exact h

/-- A row of numbers stays where a row of nodes grows. -/
theorem OwnI.aside {B : Nat} {v vo : Value} {l : List L.Nd} {ks : List Nat} {w w' : World} (h : OwnI B vo ks w) (ho : Own B v l w) (hg : w.grownBy w' v.ownBlock) : OwnI B vo ks w' := by
  unfold OwnI at h ⊢
  refine h.kept hg ?_
  rcases h.2 with ⟨hv, _⟩ | ⟨g, cap, cur, hv, _, hh, _⟩
  · left; rw [hv]; rfl
  · right
    rcases ho.2 with ⟨hv2, _⟩ | ⟨g2, cap2, cur2, hv2, _, hh2, _⟩
    · rw [hv, hv2]; simp [Value.ownBlock]
    · rw [hv, hv2]
      simp only [Value.ownBlock, ne_eq, Option.some.injEq]
      rintro rfl
      rw [hh] at hh2
      injection hh2 with hh2
      injection hh2 with _ h2
      exact absurd h2 (by decide)

theorem isRow_facts {kind n : Int} {ss : List ByteArray} (h : L.isRow kind ss n = true) : (ss.length : Int) = n ∧ n ≤ 50 := by
  simp only [L.isRow, Bool.and_eq_true, Bool.or_eq_true, decide_eq_true_eq] at h
  obtain ⟨h1, h2, h3, _⟩ := h
  refine ⟨h2, ?_⟩
  unfold L.numbered at h3
  rcases h1 with rfl | rfl <;> simp at h3 <;> omega

theorem Rd.heap {w w' : World} {B : Nat} {v : Value} {l : List L.Nd} (h : Rd w B v l) (e : w'.heap = w.heap) : Rd w' B v l := h.kept fun b _ _ => by rw [e]

/-- An append to a row of the call's own, as one step of a region that draws. -/
theorem step_append_own {P : Program} {ops : Array Oper} {w : World} {o : Oper} {a : Act} {K : Act → World → Prop} {Q : Exit → Act → World → Prop} {E : Prop} (hg : o.guard = none) (s x : Operand) (t : TypeId)
    (ho : o.op = .call { callee := .builtin .append, args := #[s, x], argTypes := #[t, t] })
    (base : Nat) (e : TypeId) (i : TypeInfo) (z : Value) (size bytes : Nat) (ht : P.underlying t = some (.slice e)) (hi : P.info? e = some i) (hz : i.zero = some z)
    (hsize : i.size = size) (hby : i.bytes = bytes) (hzs : z.cells.size = size) (hsz : 0 < size)
    (v : Value) (n : Nat) (xs : List Value) (hs : a.eval s = v) (hown : w.ownsRow base e size v n xs)
    (ad : Addr) (m c : Nat) (news : List Value) (hx : a.eval x = .slice (some ad) m c) (hl : news.length = m * size) (hnews : ∀ j u, news[j]? = some u → w.cell? (ad.add j) = some u) (h1 : ∀ u ∈ news, u.oneCell' = true)
    (h63 : n + m ≤ maxLen) (hbytes : (n + m) * bytes ≤ 140737488355328) (hbase : base ≤ w.heap.size)
    (h : ∀ v' w', w'.ownsRow base e size v' (n + m) (xs ++ news) → w.grownBy w' v.ownBlock → (v' = .slice none 0 0 ↔ v = .slice none 0 0 ∧ m = 0) → K (a.put o.dst v') w') :
    if Region.wanted o (yielded ops a.tmps) = true then Oper.wp P o a w K Q else E := by
  have hw : Region.wanted o (yielded ops a.tmps) = true := by simp [Region.wanted, hg]
  rw [if_pos hw]
  exact wp_append_own w s x t ho base e i z size bytes ht hi hz hsize hby hzs hsz v n xs hs hown ad m c news hx hl hnews h1 h63 hbytes hbase h

set_option maxHeartbeats 4000000 in
set_option maxRecDepth 100000 in
theorem row_any (kind : Int) (ss : List ByteArray) (ts : List (Value × List L.Nd)) (hsz : ∀ s ∈ ss, s.size ≤ 2000000) (hsn : ss.length ≤ 200) (htn : ts.length ≤ 200) (ht0 : ∀ t ∈ ts, t.2 ≠ []) (htl : ∀ t ∈ ts, t.2.length ≤ 20000)
    (vs vt : Value) (w : World) (hxs : RdS w w.heap.size vs ss) (hxt : RdT w vt ts) :
    Calls Try.prog 59 #[.int .i64 kind, vs, vt] w (RowPost kind ss ts w) := by
  obtain ⟨i0, hi, hz0, hz1, hz2⟩ := info_parts infoNode
  have HXS := hid hxs
  have HXT := hid hxt
  have HT0 := hid ht0
  have HTL := hid htl
  obtain ⟨A, cap, rfl, -⟩ := hxs
  obtain ⟨⟨A2, cap2, rfl, -⟩, -⟩ := hxt
  have HIR := hid (isRow_any kind (ts.length : Int) ss hsz (by omega) _ w HXS.out)
  clear hsz ht0 htl
  cases hir : L.isRow kind ss (ts.length : Int) with
  | false =>
    rw [hir] at HIR
    have HZ := hid hir
    clear hir
    go_enter Try.func59, Try.ntmps59
    go_wp2_with fail
    refine (HIR.out).mono ?_
    rintro e w1 ⟨rfl, hb1⟩
    go_wp2
    go_ret2
    exact ⟨hb1, Or.inl ⟨HZ.out, rfl⟩⟩
  | true =>
    rw [hir] at HIR
    have HZ := hid hir
    obtain ⟨hn1, hn2⟩ := isRow_facts hir
    have hn : ss.length = ts.length := by omega
    have HN := hid hn
    have hts : ts.length ≤ 50 := by omega
    clear hir hn1 hn2 hn
    go_enter Try.func59, Try.ntmps59
    go_wp2_with fail
    refine (HIR.out).mono ?_
    rintro e w1 ⟨rfl, hb1⟩
    have HSO := hid (sorted_any ss (by omega) _ (w1.alloc (.cells #[.int .i64 kind, .string ⟨#[]⟩, .int .i64 (ts.length : Int)] 28)) (HXS.out.below (hb1.trans ((below_new _).mono hb1.size))))
    go_wp2_with fail
    refine (HSO.out).mono ?_
    rintro e w2 ⟨vo, rfl, ks, hp, hs, hO, hb2⟩
    have hkl : ks.length = ss.length := by rw [hp.length_eq]; simp
    have hkr : ∀ (j : Nat) (h : j < ks.length), ks[j] < ss.length := fun j h => by
      have := hp.mem_iff.1 (List.getElem_mem h)
      simpa using this
    have HP := hid hp
    have HS := hid hs
    have HKR := hid hkr
    obtain ⟨Ao, capo, hvo, hoc⟩ := hO.rd
    subst hvo
    have HOC := hid hoc
    have hB2 : Below w.heap.size w w2 := (hb1.trans ((below_new _).mono hb1.size)).trans (hb2.mono (by have := hb1.size; simp; omega))
    have HT2 : Hid (Own w.heap.size (.slice (some ⟨w1.heap.size, 0, none⟩) 1 1) [⟨kind, ⟨#[]⟩, (ts.length : Int)⟩] w2) := hid ((lit_own w1 w.heap.size hb1.size kind (ts.length : Int) ⟨#[]⟩).below hb2)
    have HKL := hid hkl
    have HO2 := hid hO
    have hzw1 : w.heap.size ≤ w1.heap.size + 1 := by have := hb1.size; omega
    have hkl3 : ks.length ≤ 50 := by have := HN.out; omega
    clear hp hs hkr hO hoc hb2 hb1 hkl
    go_wp2
    go_loopw [8, 27] (fun v8 vi wr => ∃ k : Nat, vi = .int .i64 k ∧ k ≤ ks.length ∧ Own w.heap.size v8 (⟨kind, ⟨#[]⟩, (ts.length : Int)⟩ :: rowsL ss ts (ks.take k)) wr ∧ OwnI w.heap.size (.slice Ao ks.length capo) ks wr ∧ Below w.heap.size w wr ∧
      Hid (∀ (j : Nat) (h : j < ks.length), j < k → 0 < j → ss.getD ks[j] ⟨#[]⟩ ≠ ss.getD (ks[j - 1]'(by omega)) ⟨#[]⟩)) (fun _ vi _ => ks.length - (intOf vi).toNat)
    case atStart => exact ⟨0, rfl, by omega, HT2.out, HO2.out.more (by simp; omega), hB2, hid fun j h hj _ => by omega⟩
    case round =>
      obtain ⟨k, rfl, hk, hO, hOI, hB, hD⟩ := hrel
      by_cases hlt : k < ks.length
      · have hr1 := HKR.out k hlt
        obtain ⟨Ao', capo', hvo', hoc'⟩ := hOI.rd
        simp only [Value.slice.injEq, true_and] at hvo'
        obtain ⟨rfl, -⟩ := hvo'
        obtain ⟨go, rfl, hgo, hoc⟩ := hoc' (by rintro rfl; simp at hlt)
        have hss0 : ss ≠ [] := by rintro rfl; simp at hr1
        obtain ⟨b, o, hA, hb, hcx⟩ : ∃ b o, A = some ⟨b, o, none⟩ ∧ b < w.heap.size ∧ ∀ (i : Nat) (h : i < ss.length), w.cell? ⟨b, o + i, none⟩ = some (.string ss[i]) := by
          obtain ⟨A', c', hv, hc⟩ := HXS.out
          simp only [Value.slice.injEq, true_and] at hv
          obtain ⟨rfl, -⟩ := hv
          exact hc hss0
        subst hA
        have hlab : ∀ (i : Nat) (h : i < ss.length), wr.cell? ⟨b, o + i, none⟩ = some (.string (ss.getD i ⟨#[]⟩)) := fun i h => by
          rw [hB.cell (p := ⟨b, o + i, none⟩) hb, hcx i h]
          simp [List.getD, h]
        have hr2 : ks[k] < ts.length := by have := HN.out; omega
        obtain ⟨b2, o2, hA2, hb2, hcx2⟩ : ∃ b o, A2 = some ⟨b, o, none⟩ ∧ b < w.heap.size ∧ ∀ (i : Nat) (h : i < ts.length), w.cell? ⟨b, o + i, none⟩ = some ts[i].1 := by
          obtain ⟨⟨A', c', hv, hc⟩, _⟩ := HXT.out
          simp only [Value.slice.injEq, true_and] at hv
          obtain ⟨rfl, -⟩ := hv
          exact hc (by rintro rfl; simp at hr2)
        subst hA2
        have c1 := hoc k hlt
        have l1 := hlab ks[k] hr1
        have t1 := (hB.cell (p := ⟨b2, o2 + ks[k], none⟩) hb2).trans (hcx2 ks[k] hr2)
        have hm := List.getElem_mem hr2
        have hRt : Rd wr wr.heap.size ts[ks[k]].1 ts[ks[k]].2 := ((HXT.out.2 _ hm).below hB).size
        have h0t := HT0.out _ hm
        have hlt2 := HTL.out _ hm
        have HTG : Hid ((ts.getD ks[k] (.nilFunc, [])).2 = ts[ks[k]].2) := hid (by simp [List.getD, hr2])
        have hstep : Hid (rowsL ss ts (ks.take (k + 1)) = rowsL ss ts (ks.take k) ++ L.setName ts[ks[k]].2 (ss.getD ks[k] ⟨#[]⟩)) := hid (by
          unfold rowsL
          rw [List.take_succ_eq_append_getElem hlt, List.flatMap_append]
          simp only [List.flatMap_cons, List.flatMap_nil, List.append_nil]
          rw [HTG.out])
        obtain ⟨A3, cp3, hv3, -⟩ := id hRt
        rw [hv3] at t1 hRt
        have HRT := hid hRt
        have H0T := hid h0t
        have HLC := hid (fun (W : World) (hW : W.heap = wr.heap) => labelled_any _ h0t hlt2 _ (ss.getD ks[k] ⟨#[]⟩) W ((HRT.out.heap hW).size))
        have hr1z : (ks[k] : Int) < (ss.length : Int) := by omega
        have hr2z : (ks[k] : Int) < (ts.length : Int) := by omega
        have HOO := hid hO
        have HOI := hid hOI
        have HOC2 := hid hoc
        have HLAB := hid hlab
        clear hcx hcx2 hlab hoc hoc' hm hRt h0t hv3 hO hOI HTG
        generalize hK : ks[k] = K at *
        generalize hLb : ss.getD K ⟨#[]⟩ = Lb at *
        generalize ts[K].2 = TT at *
        by_cases hk0 : k = 0
        · subst hk0
          go_wp2
          go_quiet (fail)
          go_wp2
          have HLC1 := hid (HLC.out (wr.drewN (nq + 1)) rfl)
          have HOW : Hid (Own w.heap.size u8 (⟨kind, ⟨#[]⟩, (ts.length : Int)⟩ :: rowsL ss ts (ks.take 0)) (wr.drewN (nq + 1))) := hid (HOO.out.heap rfl)
          have HIW : Hid (OwnI w.heap.size (.slice (some ⟨go, 0, none⟩) ks.length capo) ks (wr.drewN (nq + 1))) := hid (HOI.out.heap rfl)
          have hBW : Below w.heap.size w (wr.drewN (nq + 1)) := below_drewN hB _
          have hbw : w.heap.size ≤ (wr.drewN (nq + 1)).heap.size := hB.size
          have HLEN := hid (rowsL_len (ss := ss) HTL.out (ks.take 0))
          have hlt3 : (ks.take 0).length ≤ 50 := by rw [List.length_take]; omega
          have hTl := hlt2
          go_region_law (first
            | (refine step_append_own rfl (.tmp 49) (.tmp 58) 23 rfl w.heap.size 28 i0 (.agg #[.int .i64 0, .string ⟨#[]⟩, .int .i64 0]) 3 32 Try.underlying23 hi hz0 hz1 hz2 rfl (by decide) _ _ _ rfl (HOW.out.below HB3.out) ⟨g3, 0, none⟩ TT.length cp4 (cellsN (L.setName TT Lb)) rfl hcl.out hs3.out (cellsN_one _) h63.out hby.out hsz3.out ?_; intro v4 w4 hown hgrow hnil)
            | (go_simp; go_at_call 68; refine (HLC1.out).mono ?_; rintro e w3 ⟨v', rfl, hO3, hb3⟩
               obtain ⟨g3, cp4, rfl, hs3⟩ := hO3.slice (by intro h; have := congrArg List.length h; rw [L.setName_length] at this; exact H0T.out (List.eq_nil_of_length_eq_zero this))
               rw [L.setName_length]
               have hs3 := hid hs3
               have hcl : Hid ((cellsN (L.setName TT Lb)).length = TT.length * 3) := hid (by rw [cellsN_len, L.setName_length])
               have h63 : Hid ((⟨kind, ⟨#[]⟩, (ts.length : Int)⟩ :: rowsL ss ts (ks.take 0)).length + TT.length ≤ maxLen) := hid (by have := HLEN.out; unfold maxLen; simp only [List.length_cons]; omega)
               have hby : Hid (((⟨kind, ⟨#[]⟩, (ts.length : Int)⟩ :: rowsL ss ts (ks.take 0)).length + TT.length) * 32 ≤ 140737488355328) := hid (by have := HLEN.out; simp only [List.length_cons]; omega)
               have hsz3 : Hid (w.heap.size ≤ w3.heap.size) := hid (Nat.le_trans hbw hb3.size)
               have HB3 := hid hb3
               clear hO3 hb3))
          all_goals have hO4 := Own.append (l := ⟨kind, ⟨#[]⟩, (ts.length : Int)⟩ :: rowsL ss ts (ks.take 0)) (r := L.setName TT Lb) (by rw [L.setName_length]; exact hown)
          all_goals have hI4 := (HIW.out.below HB3.out).aside (HOW.out.below HB3.out) hgrow
          all_goals have hB4 := (hBW.trans (HB3.out.mono hbw)).grown hgrow hsz3.out (fun k hk => (Own.lt (HOW.out.below HB3.out) k hk).1)
          all_goals clear hown hgrow hnil
          all_goals go_wp2
          all_goals go_roundw
          all_goals first
            | (refine ⟨0 + 1, by go_num, by omega, ?_, hI4, hB4, hid fun j h hj h0 => ?_⟩
               · rw [hstep.out]; exact hO4
               · omega)
            | (simp [intOf]; omega)
          
        · obtain ⟨p, rfl⟩ : ∃ p, k = p + 1 := ⟨k - 1, by omega⟩
          have hp : p < ks.length := by omega
          have c2 := HOC2.out p hp
          have hr3 := HKR.out p hp
          have l2 := HLAB.out ks[p] hr3
          have hr3z : (ks[p] : Int) < (ss.length : Int) := by omega
          have HPK : Hid (ks[p + 1 - 1]'(by omega) = ks[p]) := hid rfl
          have he := eqS Lb (ss.getD ks[p] ⟨#[]⟩)
          generalize hK2 : ks[p] = K2 at *
          generalize hLb2 : ss.getD K2 ⟨#[]⟩ = Lb2 at *
          have HK1 := hid hK
          have HK2 := hid hK2
          have HL1 := hid hLb
          have HL2 := hid hLb2
          clear hK hK2 hLb hLb2
          have hp0 : (0 : Int) < (p : Int) + 1 := by omega
          by_cases hEq : Lb = Lb2
          · subst hEq
            clear he
            go_wp2
            go_quiet (fail)
            go_wp2
            go_ret2
            refine ⟨below_drewN hB _, Or.inr ⟨HZ.out, ks, HP.out, HS.out, Or.inl ⟨⟨p + 1, by omega, hlt, ?_⟩, rfl⟩⟩⟩
            rw [HK1.out, HPK.out, HL1.out, HL2.out]
          · have e2 : (Lb.toList == Lb2.toList) = false := by rw [he]; simp [hEq]
            clear he
            go_wp2
            go_quiet (fail)
            go_wp2
            have HLC1 := hid (HLC.out (wr.drewN (nq + 1)) rfl)
            have HOW : Hid (Own w.heap.size u8 (⟨kind, ⟨#[]⟩, (ts.length : Int)⟩ :: rowsL ss ts (ks.take (p + 1))) (wr.drewN (nq + 1))) := hid (HOO.out.heap rfl)
            have HIW : Hid (OwnI w.heap.size (.slice (some ⟨go, 0, none⟩) ks.length capo) ks (wr.drewN (nq + 1))) := hid (HOI.out.heap rfl)
            have hBW : Below w.heap.size w (wr.drewN (nq + 1)) := below_drewN hB _
            have hbw : w.heap.size ≤ (wr.drewN (nq + 1)).heap.size := hB.size
            have HLEN := hid (rowsL_len (ss := ss) HTL.out (ks.take (p + 1)))
            have hlt3 : (ks.take (p + 1)).length ≤ 50 := by rw [List.length_take]; omega
            have hTl := hlt2
            go_region_law (first
              | (refine step_append_own rfl (.tmp 49) (.tmp 58) 23 rfl w.heap.size 28 i0 (.agg #[.int .i64 0, .string ⟨#[]⟩, .int .i64 0]) 3 32 Try.underlying23 hi hz0 hz1 hz2 rfl (by decide) _ _ _ rfl (HOW.out.below HB3.out) ⟨g3, 0, none⟩ TT.length cp4 (cellsN (L.setName TT Lb)) rfl hcl.out hs3.out (cellsN_one _) h63.out hby.out hsz3.out ?_; intro v4 w4 hown hgrow hnil)
              | (go_simp; go_at_call 68; refine (HLC1.out).mono ?_; rintro e w3 ⟨v', rfl, hO3, hb3⟩
                 obtain ⟨g3, cp4, rfl, hs3⟩ := hO3.slice (by intro h; have := congrArg List.length h; rw [L.setName_length] at this; exact H0T.out (List.eq_nil_of_length_eq_zero this))
                 rw [L.setName_length]
                 have hs3 := hid hs3
                 have hcl : Hid ((cellsN (L.setName TT Lb)).length = TT.length * 3) := hid (by rw [cellsN_len, L.setName_length])
                 have h63 : Hid ((⟨kind, ⟨#[]⟩, (ts.length : Int)⟩ :: rowsL ss ts (ks.take (p + 1))).length + TT.length ≤ maxLen) := hid (by have := HLEN.out; unfold maxLen; simp only [List.length_cons]; omega)
                 have hby : Hid (((⟨kind, ⟨#[]⟩, (ts.length : Int)⟩ :: rowsL ss ts (ks.take (p + 1))).length + TT.length) * 32 ≤ 140737488355328) := hid (by have := HLEN.out; simp only [List.length_cons]; omega)
                 have hsz3 : Hid (w.heap.size ≤ w3.heap.size) := hid (Nat.le_trans hbw hb3.size)
                 have HB3 := hid hb3
                 clear hO3 hb3))
            all_goals have hO4 := Own.append (l := ⟨kind, ⟨#[]⟩, (ts.length : Int)⟩ :: rowsL ss ts (ks.take (p + 1))) (r := L.setName TT Lb) (by rw [L.setName_length]; exact hown)
            all_goals have hI4 := (HIW.out.below HB3.out).aside (HOW.out.below HB3.out) hgrow
            all_goals have hB4 := (hBW.trans (HB3.out.mono hbw)).grown hgrow hsz3.out (fun k hk => (Own.lt (HOW.out.below HB3.out) k hk).1)
            all_goals clear hown hgrow hnil
            all_goals go_wp2
            all_goals go_roundw
            all_goals first
              | (refine ⟨(p + 1) + 1, by go_num, by omega, ?_, hI4, hB4, hid fun j h hj h0 => ?_⟩
                 · rw [hstep.out]; exact hO4
                 · rcases Nat.lt_or_ge j (p + 1) with hh | hh
                   · exact hD.out j h hh h0
                   · obtain rfl : j = p + 1 := by omega
                     rw [HK1.out, HPK.out, HL1.out, HL2.out]
                     exact hEq)
              | (simp [intOf]; omega)
            
      · obtain rfl : k = ks.length := by omega
        rw [List.take_length] at hO
        have HOO := hid hO
        go_wp2
        go_ret2
        exact ⟨hB, Or.inr ⟨HZ.out, ks, HP.out, HS.out, Or.inr ⟨fun j h h0 => hD.out j h h h0, _, rfl, HOO.out⟩⟩⟩

end Go.Proofs.Ytgghmhgbdknkaaa
end

section
/-
  The order of labels, no program: numbers in the order of their labels are one list, if no label is there twice. No conditions but those that each lemma names.
-/
namespace Go.Proofs.Ytgghmhgbdknkaaa.L
open Go

def labL (ss : List ByteArray) (i : Nat) : List UInt8 := (ss.getD i ⟨#[]⟩).data.toList

/-- Numbers whose labels rise. -/
def Rise (ss : List ByteArray) (ks : List Nat) : Prop := ks.Pairwise fun i j => Lib.compareBytes (labL ss i) (labL ss j) < 0

theorem ba_eq {a b : ByteArray} (h : a.data.toList = b.data.toList) : a = b := ByteArray.ext (Array.toList_inj.1 h)

theorem eq_of_perm {α : Type} {R : α → α → Prop} (hR : ∀ a b, R a b → R b a → False) : ∀ (l1 l2 : List α), l1.Perm l2 → l1.Pairwise R → l2.Pairwise R → l1 = l2 := by
  intro l1
  induction l1 with
  | nil => intro l2 hp _ _; exact hp.nil_eq
  | cons a l1 ih =>
    intro l2 hp h1 h2
    cases l2 with
    | nil => exact absurd hp.symm.nil_eq (by simp)
    | cons b l2 =>
      have hab : a = b := by
        have ha : a ∈ b :: l2 := hp.mem_iff.1 (by simp)
        have hb : b ∈ a :: l1 := hp.mem_iff.2 (by simp)
        rcases List.mem_cons.1 ha with h | h
        · exact h
        rcases List.mem_cons.1 hb with h' | h'
        · exact h'.symm
        exact absurd ((List.pairwise_cons.1 h1).1 b h') fun hx => hR _ _ hx ((List.pairwise_cons.1 h2).1 a h)
      subst hab
      rw [ih l2 (List.Perm.cons_inv hp) (List.pairwise_cons.1 h1).2 (List.pairwise_cons.1 h2).2]

theorem rise_unique {ss : List ByteArray} {ks js : List Nat} (h1 : Rise ss ks) (h2 : Rise ss js) (hp : ks.Perm js) : ks = js :=
  eq_of_perm (fun a b h h' => by have := cB_anti (labL ss a) (labL ss b); omega) ks js hp h1 h2

/-- In order, and no two neighbours alike: rising. -/
theorem rise_of {ss : List ByteArray} {ks : List Nat} (hs : ks.Pairwise fun i j => 0 ≤ Lib.compareBytes (ss.getD j ⟨#[]⟩).data.toList (ss.getD i ⟨#[]⟩).data.toList)
    (hn : ∀ (j : Nat) (h : j < ks.length), 0 < j → ss.getD ks[j] ⟨#[]⟩ ≠ ss.getD (ks[j - 1]'(by omega)) ⟨#[]⟩) : Rise ss ks := by
  unfold Rise
  rw [List.pairwise_iff_getElem] at hs ⊢
  have adj : ∀ (i : Nat) (h : i + 1 < ks.length), Lib.compareBytes (labL ss ks[i]) (labL ss ks[i + 1]) < 0 := fun i h => by
    have h1 := hs i (i + 1) (by omega) h (by omega)
    have h2 := hn (i + 1) h (by omega)
    have h3 := cB_anti (labL ss ks[i]) (labL ss ks[i + 1])
    rcases Int.lt_trichotomy (Lib.compareBytes (labL ss ks[i]) (labL ss ks[i + 1])) 0 with h4 | h4 | h4
    · exact h4
    · exact absurd (ba_eq (cB_zero h4)).symm h2
    · unfold labL at h3 h4
      omega
  intro i j hi hj hij
  induction j with
  | zero => omega
  | succ j ih =>
    by_cases e : i = j
    · subst e; exact adj i hj
    · exact cB_trans (ih (by omega) (by omega)) (adj j hj)

/-- Two neighbours alike: a label is there twice. -/
theorem twice_of {ss : List ByteArray} {ks : List Nat} (hp : ks.Perm (List.range ss.length)) {j : Nat} (h0 : 0 < j) (h : j < ks.length) (he : ss.getD ks[j] ⟨#[]⟩ = ss.getD (ks[j - 1]'(by omega)) ⟨#[]⟩) : ¬ ∃ js : List Nat, js.Perm (List.range ss.length) ∧ Rise ss js := by
  rintro ⟨js, hj, hr⟩
  have hnd : ks.Nodup := hp.nodup_iff.2 List.nodup_range
  have hne : ks[j] ≠ ks[j - 1]'(by omega) := by
    intro e
    have := (List.getElem_inj hnd).1 e
    omega
  have hm1 : ks[j] ∈ js := hj.mem_iff.2 (hp.mem_iff.1 (List.getElem_mem h))
  have hm2 : ks[j - 1]'(by omega) ∈ js := hj.mem_iff.2 (hp.mem_iff.1 (List.getElem_mem (by omega)))
  obtain ⟨a, ha, ea⟩ := List.getElem_of_mem hm1
  obtain ⟨b, hb, eb⟩ := List.getElem_of_mem hm2
  unfold Rise at hr
  rw [List.pairwise_iff_getElem] at hr
  have hself : Lib.compareBytes (labL ss ks[j]) (labL ss (ks[j - 1]'(by omega))) = 0 := by unfold labL; rw [he]; exact cB_self _
  rcases Nat.lt_trichotomy a b with h1 | h1 | h1
  · have := hr a b ha hb h1
    rw [ea, eb] at this
    omega
  · subst h1
    exact hne (ea.symm.trans eb)
  · have := hr b a hb ha h1
    rw [ea, eb] at this
    have := cB_anti (labL ss ks[j]) (labL ss (ks[j - 1]'(by omega)))
    omega

end Go.Proofs.Ytgghmhgbdknkaaa.L
end
