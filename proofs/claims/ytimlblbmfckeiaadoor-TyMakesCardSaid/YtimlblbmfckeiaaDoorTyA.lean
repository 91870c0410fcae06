/-
  The walks of slices.Grow (of nothing) and slices.Concat at nodes, and of Arrow, ty's and the reference's. Conditions: rows that are not empty, of at most 20000 nodes each.
-/
import Derived.Test.YtimlblbmfckeiaaDoorTyC
import Derived.Lib.AppendZeros
namespace Go.Proofs.YtimlblbmfckeiaaDoor
open Go.RowKit

set_option maxHeartbeats 1000000 in
set_option maxRecDepth 100000 in
theorem grow_any (n : Nat) (h0 : 0 < n) (hn : n ≤ 1000000) (w : World) :
    Calls Tryd.prog 62 #[.slice none 0 0, .int .i64 n] w fun e w' => ∃ v', e = .returned v' ∧ Own w.heap.size v' [] w' ∧ Below w.heap.size w w' := by
  obtain ⟨i0, hi, hz0, hz1, hz2⟩ := info_parts infoNode
  have hr : ∀ W : World, (Builtin.append_ #[23, 3] 23 #[.slice none 0 0, .int .i64 n]).run Tryd.prog W = .ok (.slice (some ⟨W.heap.size, 0, none⟩) n (grownCap W n 0 44)) (W.drew.alloc (.cells (Builtin.zeroCells (Value.agg #[.int .i64 0, .string ⟨#[]⟩, .int .i64 0]).cells n ++ Builtin.zeroCells (Value.agg #[.int .i64 0, .string ⟨#[]⟩, .int .i64 0]).cells (grownCap W n 0 44 - n)) 44)) := fun W =>
    Lib.run_append_nil_zeros W 23 3 23 44 i0 _ _ _ Tryd.underlying23 Tryd.underlying3 hi hz0 n h0 (by rw [hz1]; decide) (by omega) (by rw [hz2]; omega)
  have hge := grownCap_ge w n 0 44
  have hle := grownCap_le_maxLen w n 0 44 (by unfold maxLen; omega)
  have HR := hid (hr w)
  have HL := hid hle
  have HS : Hid ((Builtin.zeroCells (Value.agg #[.int .i64 0, .string ⟨#[]⟩, .int .i64 0]).cells n ++ Builtin.zeroCells (Value.agg #[.int .i64 0, .string ⟨#[]⟩, .int .i64 0]).cells (grownCap w n 0 44 - n)).size = grownCap w n 0 44 * 3) := hid (by
    rw [Array.size_append, size_zeroCells, size_zeroCells]
    show n * 3 + (grownCap w n 0 44 - n) * 3 = _
    omega)
  clear hr hle
  unfold maxLen at HL
  generalize grownCap w n 0 44 = C at *
  generalize (Builtin.zeroCells (Value.agg #[.int .i64 0, .string ⟨#[]⟩, .int .i64 0]).cells n ++ Builtin.zeroCells (Value.agg #[.int .i64 0, .string ⟨#[]⟩, .int .i64 0]).cells (C - n)) = Z at *
  have hl2 := HL.out
  go_enter Tryd.func62, Tryd.ntmps62
  go_wp2_with (at_builtin; refine Lib.wpList_append_run _ rfl _ _ _ _ rfl _ _ rfl rfl _ _ HR.out ?_)
  go_wp2
  go_ret
  refine ⟨_, rfl, ?_, (below_new _).drew⟩
  have h : (w.alloc (.cells Z 44)).ownsRow w.heap.size 44 3 (.slice (some ⟨w.heap.size, 0, none⟩) 0 C) 0 [] := World.ownsRow_made w Z C (Nat.le_refl _) (by unfold maxLen; exact HL.out) HS.out
  exact h

/-- The rows, one behind the other. -/
def catT (ts : List (Value × List L.Nd)) : List L.Nd := ts.flatMap (·.2)

theorem catT_step {ts : List (Value × List L.Nd)} {k : Nat} (h : k < ts.length) : catT (ts.take (k + 1)) = catT (ts.take k) ++ ts[k].2 := by
  unfold catT
  rw [List.take_succ_eq_append_getElem h, List.flatMap_append]
  simp

theorem catT_le {ts : List (Value × List L.Nd)} (h : ∀ t ∈ ts, t.2.length ≤ 20000) : (catT ts).length ≤ ts.length * 20000 := by
  induction ts with
  | nil => simp [catT]
  | cons t r ih =>
    have h1 := ih fun x hx => h x (by simp [hx])
    have h2 := h t (by simp)
    simp only [catT, List.flatMap_cons, List.length_append, List.length_cons] at h1 ⊢
    omega

set_option maxHeartbeats 4000000 in
set_option maxRecDepth 100000 in
theorem concat_any (ts : List (Value × List L.Nd)) (w : World) (G cap : Nat) (hG : G < w.heap.size) (hn : ts.length ≤ 10) (hR : ∀ t ∈ ts, Rd w w.heap.size t.1 t.2) (hs : ∀ t ∈ ts, t.2.length ≤ 20000) (h0 : ∀ t ∈ ts, t.2 ≠ [])
    (hc : ∀ (j : Nat) (h : j < ts.length), w.cell? ⟨G, j, none⟩ = some ts[j].1) (hpos : 0 < ts.length) :
    Calls Tryd.prog 42 #[.slice (some ⟨G, 0, none⟩) ts.length cap] w fun e w' => ∃ v', e = .returned v' ∧ Own w.heap.size v' (catT ts) w' ∧ Below w.heap.size w w' := by
  obtain ⟨i0, hi, hz0, hz1, hz2⟩ := info_parts infoNode
  have HR := hid hR
  have HS := hid hs
  have H0 := hid h0
  have HC := hid hc
  have hall : (catT ts).length ≤ 200000 := by have := catT_le hs; omega
  have hk : ∀ k, (catT (ts.take k)).length ≤ 200000 := fun k => by
    have h1 := catT_le (ts := ts.take k) (fun t ht => hs t (List.mem_of_mem_take ht))
    have h2 : (ts.take k).length ≤ 10 := by rw [List.length_take]; omega
    omega
  have hcp : 0 < (catT ts).length := by
    cases ts with
    | nil => simp at hpos
    | cons t r =>
      have := List.length_pos_iff.2 (h0 t (by simp))
      simp only [catT, List.flatMap_cons, List.length_append]
      omega
  have HK := hid hk
  clear hR hs h0 hc hk
  go_enter Tryd.func42, Tryd.ntmps42
  go_wp2
  go_loop [3, 11] (fun vs vi => ∃ k : Nat, vi = .int .i64 k ∧ k ≤ ts.length ∧ vs = .int .i64 (catT (ts.take k)).length) (fun _ vi => ts.length - (intOf vi).toNat)
  case atStart => exact ⟨0, rfl, by omega, by simp [catT]⟩
  case round =>
    obtain ⟨k, rfl, hk, rfl⟩ := hrel
    by_cases hlt : k < ts.length
    · have c0 := HC.out k hlt
      have hm := List.getElem_mem hlt
      have hst : (catT (ts.take (k + 1))).length = (catT (ts.take k)).length + ts[k].2.length := by rw [catT_step hlt, List.length_append]
      have hl1 := HK.out k
      have hl2 := HK.out (k + 1)
      obtain ⟨A, cp, hv, -⟩ := HR.out _ hm
      rw [hv] at c0
      have HST := hid hst
      clear hm hv hst
      generalize (catT (ts.take k)).length = z at *
      generalize ts[k].2.length = y at *
      have hxy : z + y ≤ 200000 := by have := HST.out; omega
      go_wp2
      go_round
      case rel => exact ⟨k + 1, by go_num, by omega, by rw [HST.out]; go_num⟩
      case measure => simp [intOf]; omega
    · obtain rfl : k = ts.length := by omega
      rw [List.take_length]
      have HGR := hid (grow_any (catT ts).length hcp (by omega) w)
      go_wp2_with fail
      refine (HGR.out).mono ?_
      rintro e w1 ⟨v1, rfl, hO1, hB1⟩
      go_wp2
      go_loopw [6, 27] (fun vs vi wr => ∃ k : Nat, vi = .int .i64 k ∧ k ≤ ts.length ∧ Own w.heap.size vs (catT (ts.take k)) wr ∧ Below w.heap.size w wr) (fun _ vi _ => ts.length - (intOf vi).toNat)
      case atStart => exact ⟨0, rfl, by omega, hO1, hB1⟩
      case round =>
        obtain ⟨k, rfl, hk, hO, hB⟩ := hrel
        by_cases hlt : k < ts.length
        · have c0 := (hB.cell (p := ⟨G, k, none⟩) hG).trans (HC.out k hlt)
          have hm := List.getElem_mem hlt
          have hst := catT_step hlt
          have hl1 := HK.out k
          have hl2 := HK.out (k + 1)
          rw [hst, List.length_append] at hl2
          obtain ⟨a, cp, hv, hsr⟩ : ∃ a cp, ts[k].1 = .slice (some a) ts[k].2.length cp ∧ ∀ j u, (cellsN ts[k].2)[j]? = some u → wr.cell? (a.add j) = some u := by
            rcases ((HR.out _ hm).below hB).src with ⟨_, hz⟩ | h
            · exact absurd hz (H0.out _ hm)
            · exact h
          rw [hv] at c0
          have HST := hid hst
          have HSR := hid hsr
          have hO1 : wr.ownsRow w.heap.size 44 3 u6 (catT (ts.take k)).length (cellsN (catT (ts.take k))) := hO
          have hbw := hB.size
          clear hm hv hst hsr hO
          generalize ts[k].2 = y at *
          generalize catT (ts.take k) = z at *
          go_wp2_with (at_builtin; refine wpList_append_own _ rfl _ _ 23 rfl w.heap.size 44 i0 (.agg #[.int .i64 0, .string ⟨#[]⟩, .int .i64 0]) 3 32 Tryd.underlying23 hi hz0 hz1 hz2 rfl (by decide) _ _ _ rfl hO1 a y.length cp (cellsN y) rfl (cellsN_len y) ?c1 ?c2 ?c3 ?c4 ?c5 ?_)
          case c1 => exact HSR.out
          case c2 => exact cellsN_one _
          case c3 => unfold maxLen; omega
          case c4 => omega
          case c5 => exact hbw
          intro v' w2 hown hgrow _
          have hB2 : Below w.heap.size w w2 := hB.grown hgrow hbw (fun k hk => (World.ownsRow.lt hO1 k hk).1)
          have hO2 := Own.append hown
          rw [← HST.out] at hO2
          clear hown hgrow hO1
          go_wp2
          go_roundw
          case rel => exact ⟨k + 1, by go_num, by omega, hO2, hB2⟩
          case measure => simp [intOf]; omega
        · obtain rfl : k = ts.length := by omega
          rw [List.take_length] at hO
          go_wp2
          go_ret
          exact ⟨_, rfl, hO, hB⟩

/-- A slice of one node that is written out. -/
theorem lit_own (w : World) (B : Nat) (hB : B ≤ w.heap.size) (k n : Int) (s : ByteArray) : Own B (.slice (some ⟨w.heap.size, 0, none⟩) 1 1) [⟨k, s, n⟩] (w.alloc (.cells #[.int .i64 k, .string s, .int .i64 n] 44)) :=
  World.ownsRow_lit w _ 1 hB (by unfold maxLen; omega) rfl

theorem Own.more {B B' : Nat} {v : Value} {l : List L.Nd} {w : World} (h : Own B v l w) (hB : B' ≤ B) : Own B' v l w :=
  ⟨h.1, h.2.imp id fun ⟨g, cp, cur, h1, h2, h3⟩ => ⟨g, cp, cur, h1, Nat.le_trans hB h2, h3⟩⟩

set_option maxHeartbeats 1000000 in
set_option maxRecDepth 100000 in
theorem arrow_any (a b : List L.Nd) (va vb : Value) (w : World) (ha : Rd w w.heap.size va a) (hb : Rd w w.heap.size vb b) (ha0 : a ≠ []) (hb0 : b ≠ []) (hal : a.length ≤ 20000) (hbl : b.length ≤ 20000) :
    Calls Tryd.prog 21 #[va, vb] w fun e w' => ∃ v', e = .returned v' ∧ Own w.heap.size v' (⟨5, ⟨#[]⟩, 0⟩ :: (a ++ b)) w' ∧ Below w.heap.size w w' := by
  have HA := hid ha
  have HB := hid hb
  obtain ⟨A1, c1, rfl, -⟩ := ha
  obtain ⟨A2, c2, rfl, -⟩ := hb
  go_enter Tryd.func21, Tryd.ntmps21
  go_wp2_with fail
  have hT := concat_any [(.slice (some ⟨w.heap.size, 0, none⟩) 1 1, [⟨5, ⟨#[]⟩, 0⟩]), (.slice A1 a.length c1, a), (.slice A2 b.length c2, b)]
    ((w.alloc (.cells #[.int .i64 5, .string ⟨#[]⟩, .int .i64 0] 44)).alloc (.cells #[.slice (some ⟨w.heap.size, 0, none⟩) 1 1, .slice A1 a.length c1, .slice A2 b.length c2] 23)) (w.heap.size + 1) 3 (by simp) (by simp)
    (by
      intro t ht
      simp only [List.mem_cons, List.not_mem_nil, or_false] at ht
      rcases ht with rfl | rfl | rfl
      · exact (((lit_own w w.heap.size (Nat.le_refl _) 5 0 ⟨#[]⟩).alloc _).rd).mono (Nat.le_refl _)
      · exact ((HA.out.alloc _).alloc _).size
      · exact ((HB.out.alloc _).alloc _).size)
    (by
      intro t ht
      simp only [List.mem_cons, List.not_mem_nil, or_false] at ht
      rcases ht with rfl | rfl | rfl
      · simp
      · exact hal
      · exact hbl)
    (by
      intro t ht
      simp only [List.mem_cons, List.not_mem_nil, or_false] at ht
      rcases ht with rfl | rfl | rfl
      · simp
      · exact ha0
      · exact hb0)
    (by
      intro j hj
      match j, hj with
      | 0, _ => simp
      | 1, _ => simp
      | 2, _ => simp)
    (by simp)
  refine hT.mono ?_
  rintro e w2 ⟨v', rfl, hO, hb2⟩
  go_wp2
  go_ret
  refine ⟨v', rfl, ?_, ((below_new _).trans ((below_new _).mono (by simp))).trans (hb2.mono (by simp; omega))⟩
  simpa [catT] using hO.more (by simp; omega : w.heap.size ≤ _)

set_option maxHeartbeats 1000000 in
set_option maxRecDepth 100000 in
theorem refArrow_any (a b : List L.Nd) (va vb : Value) (w : World) (ha : Rd w w.heap.size va a) (hb : Rd w w.heap.size vb b) (ha0 : a ≠ []) (hb0 : b ≠ []) (hal : a.length ≤ 20000) (hbl : b.length ≤ 20000) :
    Calls Tryd.prog 22 #[va, vb] w fun e w' => ∃ v', e = .returned v' ∧ Own w.heap.size v' (⟨5, ⟨#[]⟩, 0⟩ :: (a ++ b)) w' ∧ Below w.heap.size w w' := by
  obtain ⟨i0, hi, hz0, hz1, hz2⟩ := info_parts infoNode
  have HA := hid ha
  have HB := hid hb
  obtain ⟨A1, c1, rfl, -⟩ := ha
  obtain ⟨A2, c2, rfl, -⟩ := hb
  have hO0 : (w.alloc (.cells #[.int .i64 5, .string ⟨#[]⟩, .int .i64 0] 44)).ownsRow w.heap.size 44 3 (.slice (some ⟨w.heap.size, 0, none⟩) 1 1) 1 (cellsN [⟨5, ⟨#[]⟩, 0⟩]) := lit_own w w.heap.size (Nat.le_refl _) 5 0 ⟨#[]⟩
  obtain ⟨a1, cp1, hv1, hs1⟩ : ∃ a1 cp, Value.slice A1 a.length c1 = .slice (some a1) a.length cp ∧ ∀ j u, (cellsN a)[j]? = some u → (w.alloc (.cells #[.int .i64 5, .string ⟨#[]⟩, .int .i64 0] 44)).cell? (a1.add j) = some u := by
    rcases (HA.out.alloc (.cells #[.int .i64 5, .string ⟨#[]⟩, .int .i64 0] 44)).src with ⟨_, hz⟩ | h
    · exact absurd hz ha0
    · exact h
  simp only [Value.slice.injEq] at hv1
  obtain ⟨rfl, -, rfl⟩ := hv1
  have HS1 := hid hs1
  clear hs1
  go_enter Tryd.func22, Tryd.ntmps22
  go_wp2_with (at_builtin; refine wpList_append_own _ rfl _ _ 23 rfl w.heap.size 44 i0 (.agg #[.int .i64 0, .string ⟨#[]⟩, .int .i64 0]) 3 32 Tryd.underlying23 hi hz0 hz1 hz2 rfl (by decide) _ _ _ rfl hO0 a1 a.length c1 (cellsN a) rfl (cellsN_len a) ?c1 ?c2 ?c3 ?c4 ?c5 ?_)
  case c1 => exact HS1.out
  case c2 => exact cellsN_one _
  case c3 => unfold maxLen; omega
  case c4 => omega
  case c5 => simp
  intro v1 w1 hown hgrow _
  have hB1 : Below w.heap.size w w1 := (below_new _).grown hgrow (by simp) (fun k hk => by simp [Value.ownBlock] at hk; omega)
  have hO1 : Own w.heap.size v1 ([⟨5, ⟨#[]⟩, 0⟩] ++ a) w1 := Own.append hown
  have hO1' : w1.ownsRow w.heap.size 44 3 v1 (1 + a.length) (cellsN ([⟨5, ⟨#[]⟩, 0⟩] ++ a)) := by
    unfold Own at hO1
    rw [List.length_append] at hO1
    exact hO1
  obtain ⟨a2, cp2, hv2, hs2⟩ : ∃ a2 cp, Value.slice A2 b.length c2 = .slice (some a2) b.length cp ∧ ∀ j u, (cellsN b)[j]? = some u → w1.cell? (a2.add j) = some u := by
    rcases (HB.out.below hB1).src with ⟨_, hz⟩ | h
    · exact absurd hz hb0
    · exact h
  simp only [Value.slice.injEq] at hv2
  obtain ⟨rfl, -, rfl⟩ := hv2
  have HS2 := hid hs2
  clear hs2 hown hgrow hO0
  go_wp2_with (at_builtin; refine wpList_append_own _ rfl _ _ 23 rfl w.heap.size 44 i0 (.agg #[.int .i64 0, .string ⟨#[]⟩, .int .i64 0]) 3 32 Tryd.underlying23 hi hz0 hz1 hz2 rfl (by decide) _ _ _ rfl hO1' a2 b.length c2 (cellsN b) rfl (cellsN_len b) ?c1 ?c2 ?c3 ?c4 ?c5 ?_)
  case c1 => exact HS2.out
  case c2 => exact cellsN_one _
  case c3 => unfold maxLen; omega
  case c4 => omega
  case c5 => exact hB1.size
  intro v2 w2 hown hgrow _
  have hB2 : Below w.heap.size w w2 := hB1.grown hgrow hB1.size (fun k hk => (World.ownsRow.lt hO1' k hk).1)
  have hO2 : Own w.heap.size v2 ([⟨5, ⟨#[]⟩, 0⟩] ++ a ++ b) w2 := Own.append (by rw [List.length_append]; exact hown)
  clear hown hgrow hO1' hO1
  go_wp2
  go_ret
  exact ⟨_, rfl, by simpa using hO2, hB2⟩

end Go.Proofs.YtimlblbmfckeiaaDoor
