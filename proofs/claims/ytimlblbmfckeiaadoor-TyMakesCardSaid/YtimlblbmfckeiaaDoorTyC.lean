/-
  The walks of slices.Clone at nodes, of ty.labelled, and of Part, ty's and the reference's. Conditions: a slice of at most 20000 nodes, for Part each of which has from 0 to 50 children.
-/
import Derived.Test.YtimlblbmfckeiaaDoorTyK
import Derived.Lib.SliceRun
namespace Go.Proofs.YtimlblbmfckeiaaDoor.L
open Go

/-- The same nodes, the first one with this label. -/
def setName : List Nd → ByteArray → List Nd
  | [], _ => []
  | x :: r, s => ⟨x.kind, s, x.n⟩ :: r

/-- The nodes of the tree at place p, without its label. -/
def partL (l : List Nd) (p : Nat) : List Nd := setName ((l.drop p).take (eat 1 (l.drop p))) ⟨#[]⟩

theorem setName_length (l : List Nd) (s : ByteArray) : (setName l s).length = l.length := by cases l <;> rfl

end Go.Proofs.YtimlblbmfckeiaaDoor.L
namespace Go.Proofs.YtimlblbmfckeiaaDoor
open Go.RowKit

theorem cellsN_setName {l : List L.Nd} (h : l ≠ []) (s : ByteArray) : cellsN (L.setName l s) = (cellsN l).set 1 (.string s) := by
  cases l with
  | nil => exact absurd rfl h
  | cons x r => rfl

set_option maxHeartbeats 1000000 in
set_option maxRecDepth 100000 in
theorem clone_any (l : List L.Nd) (h0 : l ≠ []) (hl : l.length ≤ 20000) (v : Value) (w : World) (hx : Rd w w.heap.size v l) :
    Calls Tryd.prog 55 #[v] w fun e w' => ∃ g cap, e = .returned (.slice (some ⟨g, 0, none⟩) l.length cap) ∧ Own w.heap.size (.slice (some ⟨g, 0, none⟩) l.length cap) l w' ∧ Below w.heap.size w w' := by
  obtain ⟨i0, hi, hz0, hz1, hz2⟩ := info_parts infoNode
  have q22 : ∀ (w : World) (a : Option Addr) (n c n' c' : Nat), (binOp .eql 23 (.slice a n c) (.slice none n' c')).run Tryd.prog w = .ok (.bool a.isNone) w := fun w a n c n' c' => Lib.run_eql_slice_nil w _ _ a n c n' c' Tryd.underlying23
  rcases hx.src with ⟨_, hn⟩ | ⟨a, cap, rfl, hs⟩
  · exact absurd hn h0
  have HS := hid hs
  clear hs hx
  go_enter Tryd.func55, Tryd.ntmps55
  go_wp2_with (at_builtin; refine wpList_append_own _ rfl _ _ 23 rfl w.heap.size 44 i0 (.agg #[.int .i64 0, .string ⟨#[]⟩, .int .i64 0]) 3 32 Tryd.underlying23 hi hz0 hz1 hz2 rfl (by decide) _ _ _ rfl (World.ownsRow_made w #[] 0 (Nat.le_refl _) (Nat.zero_le _) (by simp)) a l.length cap (cellsN l) rfl (cellsN_len l) ?c1 ?c2 ?c3 ?c4 ?c5 ?_)
  case c1 => exact fun j u hj => Lib.cell?_alloc_some _ (HS.out j u hj)
  case c2 => exact cellsN_one l
  case c3 => unfold maxLen; omega
  case c4 => omega
  case c5 => simp
  intro v' w1 hown hgrow hnil
  have hO : Own w.heap.size v' l w1 := by
    unfold Own
    simpa using hown
  have hB : Below w.heap.size w w1 := (below_new _).grown hgrow (by simp) (by intro k hk; simp [Value.ownBlock] at hk; omega)
  obtain ⟨g, cap', rfl⟩ : ∃ g cap', v' = .slice (some ⟨g, 0, none⟩) l.length cap' := by
    rcases hO.2 with ⟨_, hz⟩ | ⟨g, cap, cur, hv, _⟩
    · exact absurd (List.eq_nil_of_length_eq_zero hz) h0
    · exact ⟨g, cap, hv⟩
  go_wp2
  go_ret
  exact ⟨g, cap', rfl, hO, hB⟩

set_option maxHeartbeats 1000000 in
set_option maxRecDepth 100000 in
theorem labelled_any (l : List L.Nd) (h0 : l ≠ []) (hl : l.length ≤ 20000) (v : Value) (s : ByteArray) (w : World) (hx : Rd w w.heap.size v l) :
    Calls Tryd.prog 38 #[v, .string s] w fun e w' => ∃ v', e = .returned v' ∧ Own w.heap.size v' (L.setName l s) w' ∧ Below w.heap.size w w' := by
  have HC := hid (clone_any l h0 hl v w hx)
  obtain ⟨A, cap, rfl, _⟩ := hx
  have hpos : 0 < l.length := List.length_pos_iff.2 h0
  go_enter Tryd.func38, Tryd.ntmps38
  go_wp2_with fail
  refine (HC.out).mono ?_
  rintro e w1 ⟨g, cap', rfl, hO, hB⟩
  obtain ⟨hst, hgr⟩ := World.ownsRow.stored hO 1 (.string s)
  have c1 := (World.ownsRow.cellAt hO 1 (by omega)).trans (show (cellsN l)[1]? = some (.string (l[0]'hpos).name) by have := (cellsN_get l 0 hpos).2.1; simpa using this)
  have f1 := World.ownsRow.frozenAt hO 1
  have hlt := (Own.lt hO g rfl)
  have HST := hid hst
  have HGR := hid hgr
  clear hst hgr hO
  go_wp2
  go_ret
  refine ⟨_, rfl, ?_, hB.setCell (p := ⟨g, 1, none⟩) hlt.1 _⟩
  unfold Own
  rw [cellsN_setName h0, L.setName_length]
  exact HST.out

/-- A part of a slice that is read. -/
theorem Rd.sub {w : World} {B b o n cap p e : Nat} {l : List L.Nd} (h : Rd w B (.slice (some ⟨b, o, none⟩) n cap) l) (hp : p + e ≤ l.length) (he : 0 < e) (hn : n = l.length) :
    Rd w B (.slice (some ⟨b, o + p * 3, none⟩) e (cap - p)) ((l.drop p).take e) := by
  have hne : l ≠ [] := by rintro rfl; simp at hp; omega
  have hc := h.at_slice hne
  obtain ⟨A, c, hv, h1, h2, _, hb⟩ := h
  obtain ⟨b', o', hA, hb', _⟩ := hb hne
  rw [hA] at hv
  simp only [Value.slice.injEq, Option.some.injEq, Addr.mk.injEq] at hv
  obtain ⟨⟨rfl, rfl, _⟩, _, rfl⟩ := hv
  have hlen : ((l.drop p).take e).length = e := by simp; omega
  refine ⟨some ⟨b, o + p * 3, none⟩, cap - p, by rw [hlen], by omega, by omega, by simp, fun _ => ⟨b, o + p * 3, rfl, hb', fun i hi => ?_⟩⟩
  have hi2 : p + i < l.length := by omega
  have hg : ((l.drop p).take e)[i] = l[p + i] := by simp
  rw [hg]
  obtain ⟨x, y, z⟩ := hc (p + i) hi2
  have e1 : o + p * 3 + i * 3 = o + (p + i) * 3 := by omega
  rw [e1]
  exact ⟨x, y, z⟩

set_option maxHeartbeats 1000000 in
set_option maxRecDepth 100000 in
theorem part_any (l : List L.Nd) (hF : Few l) (v : Value) (p : Nat) (hp : p < l.length) (w : World) (hx : Rd w w.heap.size v l) :
    Calls Tryd.prog 17 #[v, .int .i64 p] w fun e w' => ∃ v', e = .returned v' ∧ Own w.heap.size v' (L.partL l p) w' ∧ Below w.heap.size w w' := by
  have HE := hid (end_any l hF v p hp w hx)
  have HX := hid hx
  obtain ⟨A, cap, rfl, hl1, hl2, _, hcx⟩ := hx
  unfold maxLen at hl2
  obtain ⟨b, o, rfl, hb, hcx⟩ := hcx (by rintro rfl; simp at hp)
  have he1 : 0 < L.eat 1 (l.drop p) := L.eat_pos (by omega) (by intro h; have := congrArg List.length h; simp at this; omega)
  have he2 := L.eat_le 1 (l.drop p)
  rw [List.length_drop] at he2
  have hl := hF.1
  clear hcx
  have HP : Hid (L.partL l p = L.setName ((l.drop p).take (L.eat 1 (l.drop p))) ⟨#[]⟩) := hid rfl
  generalize L.eat 1 (l.drop p) = E at *
  go_enter Tryd.func17, Tryd.ntmps17
  go_wp2_with (first | (go_at_call 36; refine (isNode_yes l _ cap p hp _).mono ?_; rintro e w' ⟨rfl, rfl⟩) | (go_at_call 11; refine (HE.out).mono ?_; rintro e w1 ⟨rfl, hb1⟩))
  have hne : (l.drop p).take E ≠ [] := by intro h; have := congrArg List.length h; simp at this; omega
  have hR : Rd w1 w1.heap.size (.slice (some ⟨b, o + p * 3, none⟩) E (cap - p)) ((l.drop p).take E) := ((HX.out.below hb1).size).sub (by omega) he1 rfl
  refine (labelled_any _ hne (by simp; omega) _ _ _ hR).mono ?_
  rintro e w2 ⟨v', rfl, hO, hb2⟩
  go_wp2
  go_ret
  refine ⟨v', rfl, ?_, hb1.trans (hb2.mono hb1.size)⟩
  rw [HP.out]
  exact ⟨hO.1, hO.2.imp id fun ⟨g, cp, cur, h1, h2, h3⟩ => ⟨g, cp, cur, h1, Nat.le_trans hb1.size h2, h3⟩⟩

set_option maxHeartbeats 1000000 in
theorem part_out (l : List L.Nd) (v : Value) (i : Int) (hi : ¬ (0 ≤ i ∧ i < l.length)) (w : World) (hx : Rd w w.heap.size v l) :
    Calls Tryd.prog 17 #[v, .int .i64 i] w fun e w' => e = .returned (.slice none 0 0) ∧ w = w' := by
  obtain ⟨A, cap, rfl, _⟩ := hx
  go_enter Tryd.func17, Tryd.ntmps17
  go_wp2_with (go_at_call 36; refine (isNode_no l A cap i hi _).mono ?_; rintro e w' ⟨rfl, rfl⟩)
  go_ret
  exact ⟨rfl, rfl⟩

set_option maxHeartbeats 1000000 in
set_option maxRecDepth 100000 in
theorem refPart_any (l : List L.Nd) (hF : Few l) (v : Value) (p : Nat) (hp : p < l.length) (w : World) (hx : Rd w w.heap.size v l) :
    Calls Tryd.prog 18 #[v, .int .i64 p] w fun e w' => ∃ v', e = .returned v' ∧ Own w.heap.size v' (L.partL l p) w' ∧ Below w.heap.size w w' := by
  obtain ⟨i0, hi, hz0, hz1, hz2⟩ := info_parts infoNode
  have HE := hid fun W hW => refEnd_any l hF v p hp W hW
  have HX := hid hx
  obtain ⟨A, cap, rfl, hl1, hl2, _, hcx⟩ := hx
  unfold maxLen at hl2
  obtain ⟨b, o, rfl, hb, hcx⟩ := hcx (by rintro rfl; simp at hp)
  have he1 : 0 < L.eat 1 (l.drop p) := L.eat_pos (by omega) (by intro h; have := congrArg List.length h; simp at this; omega)
  have he2 := L.eat_le 1 (l.drop p)
  rw [List.length_drop] at he2
  have hl := hF.1
  clear hcx
  have HP : Hid (L.partL l p = L.setName ((l.drop p).take (L.eat 1 (l.drop p))) ⟨#[]⟩) := hid rfl
  generalize L.eat 1 (l.drop p) = E at *
  have hne : (l.drop p).take E ≠ [] := by intro h; have := congrArg List.length h; simp at this; omega
  have hlen : ((l.drop p).take E).length = E := by simp; omega
  have HLEN := hid hlen
  clear hlen
  go_enter Tryd.func18, Tryd.ntmps18
  go_wp2_with fail
  refine (HE.out _ ((HX.out.alloc _).size)).mono ?_
  rintro e w1 ⟨rfl, hb1⟩
  have hB1 : Below w.heap.size w w1 := (below_new _).trans (hb1.mono (by simp))
  have hR : Rd w1 w1.heap.size (.slice (some ⟨b, o + p * 3, none⟩) E (cap - p)) ((l.drop p).take E) := ((HX.out.below hB1).size).sub (by omega) he1 rfl
  obtain ⟨a, c, hv, hs⟩ : ∃ a c, Value.slice (some ⟨b, o + p * 3, none⟩) E (cap - p) = .slice (some a) ((l.drop p).take E).length c ∧ ∀ j u, (cellsN ((l.drop p).take E))[j]? = some u → w1.cell? (a.add j) = some u := by
    rcases hR.src with ⟨h, _⟩ | h
    · cases h
    · exact h
  simp only [Value.slice.injEq, Option.some.injEq] at hv
  obtain ⟨rfl, -, -⟩ := hv
  have HS := hid hs
  have hO0 : w1.ownsRow w.heap.size 44 3 (.slice (some ⟨w.heap.size, 0, none⟩) 0 0) 0 [] := by
    have h : Own w.heap.size (.slice (some ⟨w.heap.size, 0, none⟩) 0 0) [] (w.alloc (.cells #[] 44)) := World.ownsRow_made w #[] 0 (Nat.le_refl _) (Nat.zero_le _) (by simp)
    exact h.below hb1
  clear hs hR hb1
  go_wp2_with (at_builtin; refine wpList_append_own _ rfl _ _ 23 rfl w.heap.size 44 i0 (.agg #[.int .i64 0, .string ⟨#[]⟩, .int .i64 0]) 3 32 Tryd.underlying23 hi hz0 hz1 hz2 rfl (by decide) _ _ _ rfl hO0 ⟨b, o + p * 3, none⟩ (p + E - p) (cap - p) (cellsN ((l.drop p).take E)) rfl ?c0 ?c1 ?c2 ?c3 ?c4 ?c5 ?_)
  case c0 => rw [cellsN_len, HLEN.out]; congr 1; omega
  case c1 => exact HS.out
  case c2 => exact cellsN_one _
  case c3 => unfold maxLen; omega
  case c4 => omega
  case c5 => exact hB1.size
  intro v' w2 hown hgrow hnil
  have hO : Own w.heap.size v' ((l.drop p).take E) w2 := by
    unfold Own
    rw [HLEN.out]
    simpa using hown
  have hB : Below w.heap.size w w2 := hB1.grown hgrow hB1.size (by intro k hk; simp [Value.ownBlock] at hk; omega)
  obtain ⟨g, cap', rfl⟩ : ∃ g cap', v' = .slice (some ⟨g, 0, none⟩) E cap' := by
    rcases hO.2 with ⟨_, hz⟩ | ⟨g, cap, cur, hv, _⟩
    · rw [HLEN.out] at hz; omega
    · rw [HLEN.out] at hv; exact ⟨g, cap, hv⟩
  have hO' := hO
  unfold Own at hO'
  rw [HLEN.out] at hO'
  obtain ⟨hst, hgr⟩ := World.ownsRow.stored hO' 1 (.string ⟨#[]⟩)
  have hpos : 0 < ((l.drop p).take E).length := by rw [HLEN.out]; exact he1
  have c1 := (World.ownsRow.cellAt hO' 1 (by omega)).trans (show (cellsN ((l.drop p).take E))[1]? = some (.string (((l.drop p).take E)[0]'hpos).name) by have := (cellsN_get _ 0 hpos).2.1; simpa using this)
  have f1 := World.ownsRow.frozenAt hO' 1
  have hlt := (Own.lt hO g rfl)
  have HST := hid hst
  generalize (((l.drop p).take E)[0]'hpos).name = nm at c1
  clear hst hgr hO hO' hown hgrow hnil hO0
  go_wp2
  go_ret
  refine ⟨_, rfl, ?_, hB.setCell (p := ⟨g, 1, none⟩) hlt.1 _⟩
  unfold Own
  rw [HP.out, cellsN_setName hne, L.setName_length, HLEN.out]
  exact HST.out

set_option maxHeartbeats 1000000 in
theorem refPart_out (l : List L.Nd) (v : Value) (i : Int) (hi : ¬ (0 ≤ i ∧ i < l.length)) (w : World) (hx : Rd w w.heap.size v l) :
    Calls Tryd.prog 18 #[v, .int .i64 i] w fun e w' => e = .returned (.slice none 0 0) ∧ w = w' := by
  obtain ⟨A, cap, rfl, _⟩ := hx
  by_cases h0 : i < 0
  · go_enter Tryd.func18, Tryd.ntmps18
    go_wp2
    go_ret
    exact ⟨rfl, rfl⟩
  · have h2 : (l.length : Int) ≤ i := by omega
    go_enter Tryd.func18, Tryd.ntmps18
    go_wp2
    go_ret
    exact ⟨rfl, rfl⟩

end Go.Proofs.YtimlblbmfckeiaaDoor
