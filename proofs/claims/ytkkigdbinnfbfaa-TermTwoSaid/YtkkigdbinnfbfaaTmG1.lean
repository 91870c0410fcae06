/-
  The walks of slices.Concat at types, any of which may be empty, of term's tree and labelled. Conditions: at most 1000 types, of at most 200000 nodes together.
-/
import Derived.Test.YtkkigdbinnfbfaaTmC
import Derived.Test.YtkkigdbinnfbfaaM7
namespace Go.Proofs.Ytkkigdbinnfbfaa
open Go.RowKit

def OwnPost (l : List L.Nd) (w : World) (e : Ending) (w' : World) : Prop := ∃ v', e = .returned v' ∧ Own w.heap.size v' l w' ∧ Below w.heap.size w w'

theorem catT_len_mem {ts : List VT} {t : VT} (h : t ∈ ts) : t.2.length ≤ (catT ts).length := by
  unfold catT
  induction ts with
  | nil => cases h
  | cons a r ih =>
    simp only [List.flatMap_cons, List.length_append]
    rcases List.mem_cons.1 h with rfl | h
    · omega
    · have := ih h; omega
theorem catT_take_le (ts : List VT) (k : Nat) : (catT (ts.take k)).length ≤ (catT ts).length := by
  unfold catT
  induction ts generalizing k with
  | nil => simp
  | cons a r ih =>
    cases k with
    | zero => simp
    | succ k =>
      have := ih k
      simp only [List.take_succ_cons, List.flatMap_cons, List.length_append]
      omega

theorem grow0_any (w : World) : Calls Try.prog 43 #[.slice none 0 0, .int .i64 0] w fun e w' => e = .returned (.slice none 0 0) ∧ w = w' := by
  go_enter Try.func43, Try.ntmps43
  go_wp2
  go_ret
  exact ⟨rfl, rfl⟩
theorem growN_any (n : Nat) (hn : n ≤ 1000000) (w : World) :
    Calls Try.prog 43 #[.slice none 0 0, .int .i64 n] w fun e w' => ∃ v', e = .returned v' ∧ Own w.heap.size v' [] w' ∧ Below w.heap.size w w' := by
  rcases Nat.eq_zero_or_pos n with rfl | h
  · refine (grow0_any w).mono ?_
    rintro e w' ⟨rfl, rfl⟩
    exact ⟨_, rfl, Own.nil _ _, Below.refl _ _⟩
  · exact grow_any n h hn w

set_option maxHeartbeats 4000000 in
set_option maxRecDepth 100000 in
theorem concat_all (ts : List VT) (v : Value) (w : World) (hx : RdR w w.heap.size v ts) (hn : ts.length ≤ 1000) (hs : (catT ts).length ≤ 200000) :
    Calls Try.prog 19 #[v] w (OwnPost (catT ts) w) := by
  obtain ⟨⟨A, cap, rfl, hl1, hl2, -, hc⟩, hR⟩ := hx
  unfold maxLen at hl2
  have HR := hid hR
  have HC := hid (fun (k : Nat) (hk : k < ts.length) => show ∃ b o, A = some ⟨b, o, none⟩ ∧ b < w.heap.size ∧ ∀ (i : Nat) (h : i < ts.length), w.cell? ⟨b, o + i, none⟩ = some ts[i].1 from hc (by rintro rfl; simp at hk))
  have HM := hid (fun t ht => catT_len_mem (ts := ts) (t := t) ht)
  have HK := hid (catT_take_le ts)
  clear hR hc
  go_enter Try.func19, Try.ntmps19
  go_wp2
  go_loop [3, 11] (fun vs vi => ∃ k : Nat, vi = .int .i64 k ∧ k ≤ ts.length ∧ vs = .int .i64 (catT (ts.take k)).length) (fun _ vi => ts.length - (intOf vi).toNat)
  case atStart => exact ⟨0, rfl, by omega, by simp [catT]⟩
  case round =>
    obtain ⟨k, rfl, hk, rfl⟩ := hrel
    by_cases hlt : k < ts.length
    · obtain ⟨b, o, rfl, hb, hcc⟩ := HC.out k hlt
      have c0 := hcc k hlt
      have hm := List.getElem_mem hlt
      have hst : (catT (ts.take (k + 1))).length = (catT (ts.take k)).length + ts[k].2.length := by rw [catT_step hlt, List.length_append]
      have hl1 := HK.out k
      have hl2 := HK.out (k + 1)
      obtain ⟨A2, cp, hv, -⟩ := (HR.out _ hm).len
      rw [hv] at c0
      have HST := hid hst
      clear hm hv hst hcc
      generalize (catT (ts.take k)).length = z at *
      generalize ts[k].2.length = y at *
      have hxy : z + y ≤ 200000 := by have := HST.out; omega
      go_wp2
      go_round
      case rel => exact ⟨k + 1, by go_num, by omega, by rw [HST.out]; go_num⟩
      case measure => simp [intOf]; omega
    · obtain rfl : k = ts.length := by omega
      rw [List.take_length]
      have HGR := hid (growN_any (catT ts).length (by omega) w)
      go_wp2_with fail
      refine (HGR.out).mono ?_
      rintro e w1 ⟨v1, rfl, hO1, hB1⟩
      have O1 := hid hO1
      have B1 := hid hB1
      clear hO1 hB1 HGR
      go_wp2
      go_loopw [6, 27] (fun vs vi wr => ∃ k : Nat, vi = .int .i64 k ∧ k ≤ ts.length ∧ Hid (Own w.heap.size vs (catT (ts.take k)) wr) ∧ Hid (Below w.heap.size w wr)) (fun _ vi _ => ts.length - (intOf vi).toNat)
      case atStart => exact ⟨0, rfl, by omega, O1, B1⟩
      case round =>
        obtain ⟨k, rfl, hk, hO, hB⟩ := hrel
        by_cases hlt : k < ts.length
        · obtain ⟨b, o, rfl, hb, hcc⟩ := HC.out k hlt
          have c0 := (hB.out.cell (p := ⟨b, o + k, none⟩) hb).trans (hcc k hlt)
          have hm := List.getElem_mem hlt
          have HST := hid (catT_step hlt)
          have hl1 := HK.out k
          have hl2 := HM.out _ hm
          have HX := hid (((HR.out _ hm).below hB.out).mono hB.out.size)
          have hbw := hB.out.size
          obtain ⟨A2, cp, hv, -⟩ := HX.out.len
          rw [hv] at c0
          have HV := hid hv
          rw [HV.out] at HX
          clear hm hcc hv HV
          generalize ts[k].2 = y at *
          generalize catT (ts.take k) = z at *
          go_wp2_with (at_builtin; refine wpList_app2 rfl (.tmp 31) (.tmp 32) rfl rfl w.heap.size _ _ z y rfl hO.out rfl HX.out (by omega) hbw ?_)
          intro v' w2 hown hgrow
          have O2 := hid (show Own w.heap.size v' (catT (ts.take (k + 1))) w2 from by rw [HST.out]; exact hown)
          have B2 := hid (hB.out.grown hgrow hbw (fun k hk => (World.ownsRow.lt hO.out k hk).1))
          clear hown hgrow
          go_wp2
          go_roundw
          case rel => exact ⟨k + 1, by go_num, by omega, O2, B2⟩
          case measure => simp [intOf]; omega
        · obtain rfl : k = ts.length := by omega
          rw [List.take_length] at hO
          have EX : Hid (OwnPost (catT ts) w (.returned u6) wr) := hid ⟨_, rfl, hO.out, hB.out⟩
          clear hO hB
          go_wp2
          go_ret
          exact EX.out

set_option maxHeartbeats 1000000 in
set_option maxRecDepth 100000 in
theorem tlabelled_any (l : List L.Nd) (h0 : l ≠ []) (hl : l.length ≤ 20000) (v : Value) (s : ByteArray) (w : World) (hx : Rd w w.heap.size v l) :
    Calls Try.prog 22 #[v, .string s] w (OwnPost (L.setName l s) w) := by
  have HC := hid (clone_any l h0 hl v w hx)
  obtain ⟨A, cap, rfl, _⟩ := hx
  have hpos : 0 < l.length := List.length_pos_iff.2 h0
  have hpi : 0 < (l.length : Int) := by omega
  go_enter Try.func22, Try.ntmps22
  go_wp2_with fail
  refine (HC.out).mono ?_
  rintro e w1 ⟨g, cap', rfl, hO, hB⟩
  obtain ⟨hst, hgr⟩ := World.ownsRow.stored hO 1 (.string s)
  have c1 := (World.ownsRow.cellAt hO 1 (by omega)).trans (show (cellsN l)[1]? = some (.string (l[0]'hpos).name) by have := (cellsN_get l 0 hpos).2.1; simpa using this)
  have f1 := World.ownsRow.frozenAt hO 1
  have hlt := (Own.lt hO g rfl)
  have EX : Hid (OwnPost (L.setName l s) w (.returned (.slice (some ⟨g, 0, none⟩) l.length cap')) (w1.setCell ⟨g, 1, none⟩ (.string s))) := hid (by
    refine ⟨_, rfl, ?_, hB.setCell (p := ⟨g, 1, none⟩) hlt.1 _⟩
    unfold Own
    rw [cellsN_setName h0, L.setName_length]
    exact hst)
  clear hst hgr hO HC hB
  go_wp2
  go_ret
  exact EX.out

/-- A node, with the nodes of its children behind it. -/
def treeL (x : L.Nd) (ts : List VT) : List L.Nd := x :: catT ts

theorem rd_one {W : World} {g : Nat} {x : L.Nd} (hg : W.heap[g]? = some (.cells #[.int .i64 x.kind, .string x.name, .int .i64 x.n] 39 (0, 0))) : Rd W W.heap.size (.slice (some ⟨g, 0, none⟩) 1 1) [x] := by
  refine ⟨_, 1, rfl, by simp, by unfold maxLen; omega, by simp, fun _ => ⟨g, 0, rfl, heap_lt hg, fun i hi => ?_⟩⟩
  have : i = 0 := by simp at hi; omega
  subst this
  exact ⟨Lib.cell_of_heap hg 0, Lib.cell_of_heap hg 1, Lib.cell_of_heap hg 2⟩
theorem two_alloc (w : World) (o1 o2 : Obj) : ((w.alloc o1).alloc o2).heap[w.heap.size + 1]? = some o2 := by
  have := heap_alloc_new (w.alloc o1) o2
  rwa [show (w.alloc o1).heap.size = w.heap.size + 1 by simp] at this
theorem concat_two (x : L.Nd) (l2 : List L.Nd) (v2 : Value) (W : World) (g G : Nat) (hG : W.heap[G]? = some (.cells #[.slice (some ⟨g, 0, none⟩) 1 1, v2] 23 (0, 0))) (hg : W.heap[g]? = some (.cells #[.int .i64 x.kind, .string x.name, .int .i64 x.n] 39 (0, 0)))
    (h2 : Rd W W.heap.size v2 l2) (hl : l2.length ≤ 100000) : Calls Try.prog 19 #[.slice (some ⟨G, 0, none⟩) 2 2] W (OwnPost (x :: l2) W) := by
  have h := concat_all [(.slice (some ⟨g, 0, none⟩) 1 1, [x]), (v2, l2)] (.slice (some ⟨G, 0, none⟩) 2 2) W ⟨⟨_, 2, rfl, by simp, by unfold maxLen; omega, by simp, fun _ => ⟨G, 0, rfl, heap_lt hG, fun i hi => by
    match i, hi with
    | 0, _ => exact Lib.cell_of_heap hG 0
    | 1, _ => exact Lib.cell_of_heap hG 1⟩⟩, fun t ht => by
      simp only [List.mem_cons, List.not_mem_nil, or_false] at ht
      rcases ht with rfl | rfl
      · exact rd_one hg
      · exact h2⟩ (by simp) (by simp [catT]; omega)
  simpa [catT] using h

set_option maxHeartbeats 4000000 in
set_option maxRecDepth 100000 in
theorem tree_any (x : L.Nd) (ts : List VT) (v : Value) (w : World) (hx : RdR w w.heap.size v ts) (hn : ts.length ≤ 1000) (hs : (catT ts).length ≤ 100000) :
    Calls Try.prog 24 #[.agg #[.int .i64 x.kind, .string x.name, .int .i64 x.n], v] w (OwnPost (treeL x ts) w) := by
  obtain ⟨k1, s1, n1⟩ := x
  have HX := hid hx
  obtain ⟨⟨A, cap, rfl, hl1, hl2, -⟩, -⟩ := hx
  unfold maxLen at hl2
  have HC := hid (fun (W : World) (hW : Below w.heap.size w W) => concat_all ts (.slice A ts.length cap) W (HX.out.to hW) hn (by omega))
  go_enter Try.func24, Try.ntmps24
  go_wp2_with fail
  go_region_with (first
    | (go_at_call_of 19 (Value.slice A ts.length cap)
       refine (HC.out _ ?_).mono ?_
       first
         | exact ⟨rfl, rfl, rfl, by first | (simp; done) | (simp; omega), fun k hk => (heap_alloc_old _ _ (by simp; omega)).trans (heap_alloc_old _ _ hk)⟩
         | exact ⟨rfl, rfl, rfl, by first | (simp; done) | (simp; omega), fun k hk => heap_alloc_old _ _ hk⟩
       rintro e w2 ⟨v2, rfl, hO, hb⟩
       have O2 := hid hO
       have B2 := hid hb
       obtain ⟨A2, c2, rfl, -⟩ := hO.rd.len
       have hbx : w2.heap[w.heap.size]? = some (.cells #[.int .i64 k1, .string s1, .int .i64 n1] 39 (0, 0)) := by
         first
           | exact (hb.block _ (by simp)).trans (heap_alloc_new _ _)
           | exact (hb.block _ (by simp; omega)).trans ((heap_alloc_old _ _ (by simp)).trans (heap_alloc_new _ _))
       have d0 := Lib.cell_of_heap hbx 0
       have d1 := Lib.cell_of_heap hbx 1
       have d2 := Lib.cell_of_heap hbx 2
       simp only [List.getElem?_toArray] at d0 d1 d2
       clear hO hb hbx)
    | (go_at_call_of 19 (Value.slice (some ⟨w2.heap.size, 0, none⟩) 2 2)
       refine (concat_two ⟨k1, s1, n1⟩ (catT ts) (.slice A2 (catT ts).length c2) _ (w.heap.size + 1) w2.heap.size ?_ ?_ ?_ hs).mono ?_
       · exact heap_alloc_new _ _
       · exact (heap_alloc_old _ _ (by have := B2.out.size; simp at this; omega)).trans ((B2.out.block _ (by simp)).trans (two_alloc w _ _))
       · exact (O2.out.rd.alloc _).size
       rintro e w3 ⟨v3, rfl, hO3, hb3⟩
       have EX : Hid (OwnPost (treeL ⟨k1, s1, n1⟩ ts) w (.returned v3) w3) := hid (by
         have s2 := B2.out.size
         have s3 := hb3.size
         simp at s2 s3
         refine ⟨v3, rfl, hO3.more (by simp; omega), hb3.os.trans B2.out.os, hb3.tape.trans B2.out.tape, hb3.output.trans B2.out.output, by omega, fun k hk => ?_⟩
         exact (hb3.block k (by simp; omega)).trans ((heap_alloc_old _ _ (by omega)).trans ((B2.out.block k (by simp; omega)).trans ((heap_alloc_old _ _ (by simp; omega)).trans (heap_alloc_old _ _ hk))))))
    | (go_at_call 19
       refine (concat_two ⟨k1, s1, n1⟩ (catT ts) (.slice A2 (catT ts).length c2) _ w2.heap.size (w2.heap.size + 1) ?_ ?_ ?_ hs).mono ?_
       · exact two_alloc w2 _ _
       · exact (heap_alloc_old _ _ (by simp)).trans (heap_alloc_new _ _)
       · exact ((O2.out.rd.alloc _).alloc _).size
       rintro e w3 ⟨v3, rfl, hO3, hb3⟩
       have EX : Hid (OwnPost (treeL ⟨k1, s1, n1⟩ ts) w (.returned v3) w3) := hid (by
         have s2 := B2.out.size
         have s3 := hb3.size
         simp at s2 s3
         refine ⟨v3, rfl, hO3.more (by simp; omega), hb3.os.trans B2.out.os, hb3.tape.trans B2.out.tape, hb3.output.trans B2.out.output, by omega, fun k hk => ?_⟩
         exact (hb3.block k (by simp; omega)).trans ((heap_alloc_old _ _ (by simp; omega)).trans ((heap_alloc_old _ _ (by omega)).trans ((B2.out.block k (by simp; omega)).trans (heap_alloc_old _ _ hk)))))))
  all_goals
    go_wp2
    go_ret
    exact EX.out
end Go.Proofs.Ytkkigdbinnfbfaa
