/-
  The walks of Kids, ty's and the reference's, and of the reference's Ints. Conditions: at most 20000 nodes, each of which has from 0 to 50 children.
-/
import Derived.Test.YtimlblbmfckeiaaDoorTyE
namespace Go.Proofs.YtimlblbmfckeiaaDoor
open Go.RowKit

def cellsI (ks : List Nat) : List Value := ks.map fun i => .int .i64 ((i : Nat) : Int)

/-- A slice of these numbers, in a block from B on, of the call's own. -/
def OwnI (B : Nat) (v : Value) (ks : List Nat) (w : World) : Prop := w.ownsRow B 3 1 v ks.length (cellsI ks)

theorem OwnI.below {B : Nat} {v : Value} {l : List Nat} {w w' : World} (h : OwnI B v l w) (hb : Below w.heap.size w w') : OwnI B v l w' := by
  unfold OwnI at h ⊢
  by_cases hv : v.ownBlock = none
  · exact h.kept (grown_of_below hb) (Or.inl hv)
  · exact h.kept (grown_of_below hb) (Or.inr hv)
theorem OwnI.nil (B : Nat) (w : World) : OwnI B (.slice none 0 0) [] w := World.ownsRow_nil w B _ 1
theorem OwnI.snoc {B : Nat} {v : Value} {l : List Nat} {w : World} (q : Nat) (h : w.ownsRow B 3 1 v (l.length + 1) (cellsI l ++ [.int .i64 ((q : Nat) : Int)])) : OwnI B v (l ++ [q]) w := by
  unfold OwnI
  have : cellsI (l ++ [q]) = cellsI l ++ [.int .i64 ((q : Nat) : Int)] := by simp [cellsI]
  rw [this, List.length_append]
  exact h

/-- A row of numbers is read cell by cell. -/
def RdI (w : World) (v : Value) (l : List Nat) : Prop :=
  ∃ (A : Option Addr) (cap : Nat), v = .slice A l.length cap ∧ (l ≠ [] → ∃ g, A = some ⟨g, 0, none⟩ ∧ g < w.heap.size ∧ ∀ (i : Nat) (h : i < l.length), w.cell? ⟨g, i, none⟩ = some (.int .i64 ((l[i] : Nat) : Int)))

theorem OwnI.rd {B : Nat} {v : Value} {l : List Nat} {w : World} (h : OwnI B v l w) : RdI w v l := by
  rcases h.2 with ⟨hv, h0⟩ | ⟨g, cap, cur, hv, _, hh, hc, hm, _⟩
  · exact ⟨none, 0, by rw [hv, h0], fun hn => absurd (List.eq_nil_of_length_eq_zero h0) hn⟩
  · subst hv
    refine ⟨_, cap, rfl, fun _ => ⟨g, rfl, heap_lt hh, fun i hi => ?_⟩⟩
    rw [World.ownsRow.cellAt h i (by omega)]
    simp [cellsI, hi]
theorem RdI.below {w w' : World} {v : Value} {l : List Nat} (h : RdI w v l) (hb : Below w.heap.size w w') : RdI w' v l := by
  obtain ⟨A, cap, hv, hc⟩ := h
  refine ⟨A, cap, hv, fun hn => ?_⟩
  obtain ⟨g, ha, hg, hx⟩ := hc hn
  refine ⟨g, ha, Nat.lt_of_lt_of_le hg hb.size, fun i hi => ?_⟩
  rw [hb.cell (p := ⟨g, i, none⟩) hg]
  exact hx i hi

theorem infoInt : (Tryd.prog.info? 3).map (fun i => (i.zero, i.size, i.bytes)) = some (some (.int .i64 0), 1, 8) := by kernel_rfl

set_option maxHeartbeats 4000000 in
set_option maxRecDepth 100000 in
theorem kids_any (l : List L.Nd) (hF : Few l) (v : Value) (p : Nat) (hp : p < l.length) (w : World) (hx : Rd w w.heap.size v l) :
    Calls Tryd.prog 14 #[v, .int .i64 p] w fun e w' => ∃ v', e = .returned v' ∧ OwnI w.heap.size v' (L.kidsL l (L.many l[p]).toNat (p + 1)) w' ∧ Below w.heap.size w w' := by
  obtain ⟨i0, hi, hz0, hz1, hz2⟩ := info_parts infoInt
  have HX := hid hx
  have HF := hid hF
  obtain ⟨A, cap, rfl, hl1, hl2, _, hcx⟩ := hx
  unfold maxLen at hl2
  obtain ⟨hl, hM⟩ := hF
  obtain ⟨b, o, rfl, hb, hcx⟩ := hcx (by rintro rfl; simp at hp)
  obtain ⟨x0, x1, x2⟩ := hcx p hp
  have X0 := hid x0
  have X1 := hid x1
  have X2 := hid x2
  have hm := hM _ (List.getElem_mem hp)
  clear hcx hM x0 x1 x2
  generalize l[p] = X at *
  obtain ⟨k1, s1, n1⟩ := X
  have hmn := many_any k1 n1 s1
  obtain ⟨c, hc⟩ : ∃ c : Nat, L.many ⟨k1, s1, n1⟩ = c := ⟨(L.many ⟨k1, s1, n1⟩).toNat, by omega⟩
  rw [hc] at hmn hm ⊢
  rw [Int.toNat_natCast]
  have HMN := hid hmn
  clear hmn
  go_enter Tryd.func14, Tryd.ntmps14
  go_wp2_with (go_at_call 36; refine (isNode_yes l _ cap p hp _).mono ?_; rintro e w' ⟨rfl, rfl⟩)
  go_loopw [5, 6, 7] (fun vl va vk wr => ∃ (k q : Nat) (acc : List Nat), va = .int .i64 q ∧ vk = .int .i64 k ∧ k ≤ c ∧ q ≤ l.length ∧ acc.length = k ∧ OwnI w.heap.size vl acc wr ∧ Below w.heap.size w wr ∧ Hid (acc ++ L.kidsL l (c - k) q = L.kidsL l c (p + 1))) (fun _ _ vk _ => c - (intOf vk).toNat)
  case atStart => exact ⟨0, p + 1, [], by go_num, rfl, by omega, by omega, rfl, OwnI.nil _ _, Below.refl _ _, hid rfl⟩
  case round =>
    obtain ⟨k, q, acc, rfl, rfl, hk, hq, hal, hO, hB, hE⟩ := hrel
    have x0 := (hB.cell (p := ⟨b, o + p * 3, none⟩) hb).trans X0.out
    have x1 := (hB.cell (p := ⟨b, o + p * 3 + 1, none⟩) hb).trans X1.out
    have x2 := (hB.cell (p := ⟨b, o + p * 3 + 2, none⟩) hb).trans X2.out
    have hbw := hB.size
    by_cases hkc : k < c
    · by_cases hlt : q < l.length
      · go_wp2_with fail
        refine (HMN.out _).mono ?_
        rintro e w1 ⟨rfl, hb1⟩
        have hB1 : Below w.heap.size w w1 := hB.trans (hb1.mono hbw)
        have hO1 : w1.ownsRow w.heap.size 3 1 u5 acc.length (cellsI acc) := OwnI.below hO hb1
        have hE2 : Hid (acc ++ [q] ++ L.kidsL l (c - (k + 1)) (q + L.eat 1 (l.drop q)) = L.kidsL l c (p + 1)) := hid (by
          rw [← hE.out, show c - k = (c - (k + 1)) + 1 by omega, L.kidsL, if_pos hlt]
          simp)
        clear x0 x1 x2 hO hb1
        go_wp2_with (at_builtin; refine wpList_append_own _ rfl _ _ 29 rfl w.heap.size 3 i0 (.int .i64 0) 1 8 Tryd.underlying29 hi hz0 hz1 hz2 rfl (by decide) _ _ _ rfl (World.ownsRow.alloc hO1 _) ⟨w1.heap.size, 0, none⟩ 1 1 [.int .i64 q] rfl rfl ?c1 ?c2 ?c3 ?c4 ?c5 ?_)
        case c1 => intro j u hj; match j, hj with | 0, hj => simp at hj; subst hj; simp [Addr.add]
        case c2 => intro u hu; simp at hu; subst hu; rfl
        case c3 => unfold maxLen; omega
        case c4 => omega
        case c5 => have := hB1.size; simp; omega
        intro v' w2 hown hgrow _
        have hB2 : Below w.heap.size w w2 := (hB1.alloc hB1.size _).grown hgrow (by have := hB1.size; simp; omega) (fun k hk => (World.ownsRow.lt hO1 k hk).1)
        rw [← hal] at hown
        have hO2 := OwnI.snoc q hown
        have HEnd := hid (end_any l HF.out _ q hlt w2 ((HX.out.below hB2).size))
        clear hown hgrow hO1 hB1
        go_wp2_with fail
        refine (HEnd.out).mono ?_
        rintro e w3 ⟨rfl, hb3⟩
        have he := L.eat_le 1 (l.drop q)
        rw [List.length_drop] at he
        go_wp2
        go_roundw
        case rel => exact ⟨k + 1, q + L.eat 1 (l.drop q), acc ++ [q], rfl, by go_num, by omega, by omega, by simp [hal], hO2.below hb3, hB2.trans (hb3.mono hB2.size), hE2⟩
        case measure => simp [intOf]; omega
      · obtain rfl : q = l.length := by omega
        go_wp2_with fail
        refine (HMN.out _).mono ?_
        rintro e w1 ⟨rfl, hb1⟩
        go_wp2
        go_ret
        refine ⟨_, rfl, ?_, hB.trans (hb1.mono hbw)⟩
        rw [← hE.out, show c - k = (c - (k + 1)) + 1 by omega, L.kidsL, if_neg (by omega), List.append_nil]
        exact OwnI.below hO hb1
    · obtain rfl : k = c := by omega
      go_wp2_with fail
      refine (HMN.out _).mono ?_
      rintro e w1 ⟨rfl, hb1⟩
      go_wp2
      go_ret
      refine ⟨_, rfl, ?_, hB.trans (hb1.mono hbw)⟩
      rw [← hE.out, Nat.sub_self, L.kidsL, List.append_nil]
      exact OwnI.below hO hb1

set_option maxHeartbeats 4000000 in
set_option maxRecDepth 100000 in
theorem refKids_any (l : List L.Nd) (hF : Few l) (v : Value) (p : Nat) (hp : p < l.length) (w : World) (hx : Rd w w.heap.size v l) :
    Calls Tryd.prog 15 #[v, .int .i64 p] w fun e w' => ∃ v', e = .returned v' ∧ OwnI w.heap.size v' (L.kidsL l (L.many l[p]).toNat (p + 1)) w' ∧ Below w.heap.size w w' := by
  obtain ⟨i0, hi, hz0, hz1, hz2⟩ := info_parts infoInt
  have HX := hid hx
  have HF := hid hF
  obtain ⟨A, cap, rfl, hl1, hl2, _, hcx⟩ := hx
  unfold maxLen at hl2
  obtain ⟨hl, hM⟩ := hF
  obtain ⟨b, o, rfl, hb, hcx⟩ := hcx (by rintro rfl; simp at hp)
  obtain ⟨x0, x1, x2⟩ := hcx p hp
  have X0 := hid x0
  have X1 := hid x1
  have X2 := hid x2
  have hm := hM _ (List.getElem_mem hp)
  clear hcx hM x0 x1 x2
  generalize l[p] = X at *
  obtain ⟨k1, s1, n1⟩ := X
  have hmn := refMany_any k1 n1 s1
  obtain ⟨c, hc⟩ : ∃ c : Nat, L.many ⟨k1, s1, n1⟩ = c := ⟨(L.many ⟨k1, s1, n1⟩).toNat, by omega⟩
  rw [hc] at hmn hm ⊢
  rw [Int.toNat_natCast]
  have HMN := hid hmn
  clear hmn
  have hd : decide (l.length ≤ p) = false := by simp; omega
  go_enter Tryd.func15, Tryd.ntmps15
  go_wp2
  go_loopw [5, 6, 7] (fun vl va vk wr => ∃ (k q : Nat) (acc : List Nat), va = .int .i64 q ∧ vk = .int .i64 k ∧ k ≤ c ∧ q ≤ l.length ∧ acc.length = k ∧ OwnI w.heap.size vl acc wr ∧ Below w.heap.size w wr ∧ Hid (acc ++ L.kidsL l (c - k) q = L.kidsL l c (p + 1))) (fun _ _ vk _ => c - (intOf vk).toNat)
  case atStart => exact ⟨0, p + 1, [], by go_num, rfl, by omega, by omega, rfl, World.ownsRow_made w #[] 0 (Nat.le_refl _) (Nat.zero_le _) (by simp), below_new _, hid rfl⟩
  case round =>
    obtain ⟨k, q, acc, rfl, rfl, hk, hq, hal, hO, hB, hE⟩ := hrel
    have x0 := (hB.cell (p := ⟨b, o + p * 3, none⟩) hb).trans X0.out
    have x1 := (hB.cell (p := ⟨b, o + p * 3 + 1, none⟩) hb).trans X1.out
    have x2 := (hB.cell (p := ⟨b, o + p * 3 + 2, none⟩) hb).trans X2.out
    have hbw := hB.size
    by_cases hkc : k < c
    · by_cases hlt : q < l.length
      · go_wp2_with fail
        refine (HMN.out _).mono ?_
        rintro e w1 ⟨rfl, hb1⟩
        have hB1 : Below w.heap.size w w1 := hB.trans (hb1.mono hbw)
        have hO1 : w1.ownsRow w.heap.size 3 1 u5 acc.length (cellsI acc) := OwnI.below hO hb1
        have hE2 : Hid (acc ++ [q] ++ L.kidsL l (c - (k + 1)) (q + L.eat 1 (l.drop q)) = L.kidsL l c (p + 1)) := hid (by
          rw [← hE.out, show c - k = (c - (k + 1)) + 1 by omega, L.kidsL, if_pos hlt]
          simp)
        clear x0 x1 x2 hO hb1
        go_wp2_with (at_builtin; refine wpList_append_own _ rfl _ _ 29 rfl w.heap.size 3 i0 (.int .i64 0) 1 8 Tryd.underlying29 hi hz0 hz1 hz2 rfl (by decide) _ _ _ rfl (World.ownsRow.alloc hO1 _) ⟨w1.heap.size, 0, none⟩ 1 1 [.int .i64 q] rfl rfl ?c1 ?c2 ?c3 ?c4 ?c5 ?_)
        case c1 => intro j u hj; match j, hj with | 0, hj => simp at hj; subst hj; simp [Addr.add]
        case c2 => intro u hu; simp at hu; subst hu; rfl
        case c3 => unfold maxLen; omega
        case c4 => omega
        case c5 => have := hB1.size; simp; omega
        intro v' w2 hown hgrow _
        have hB2 : Below w.heap.size w w2 := (hB1.alloc hB1.size _).grown hgrow (by have := hB1.size; simp; omega) (fun k hk => (World.ownsRow.lt hO1 k hk).1)
        rw [← hal] at hown
        have hO2 := OwnI.snoc q hown
        have HEnd := hid (refEnd_any l HF.out _ q hlt w2 ((HX.out.below hB2).size))
        clear hown hgrow hO1 hB1
        go_wp2_with fail
        refine (HEnd.out).mono ?_
        rintro e w3 ⟨rfl, hb3⟩
        have he := L.eat_le 1 (l.drop q)
        rw [List.length_drop] at he
        go_wp2
        go_roundw
        case rel => exact ⟨k + 1, q + L.eat 1 (l.drop q), acc ++ [q], rfl, by go_num, by omega, by omega, by simp [hal], hO2.below hb3, hB2.trans (hb3.mono hB2.size), hE2⟩
        case measure => simp [intOf]; omega
      · obtain rfl : q = l.length := by omega
        go_wp2_with fail
        refine (HMN.out _).mono ?_
        rintro e w1 ⟨rfl, hb1⟩
        go_wp2
        go_ret
        refine ⟨_, rfl, ?_, hB.trans (hb1.mono hbw)⟩
        rw [← hE.out, show c - k = (c - (k + 1)) + 1 by omega, L.kidsL, if_neg (by omega), List.append_nil]
        exact OwnI.below hO hb1
    · obtain rfl : k = c := by omega
      go_wp2_with fail
      refine (HMN.out _).mono ?_
      rintro e w1 ⟨rfl, hb1⟩
      go_wp2
      go_ret
      refine ⟨_, rfl, ?_, hB.trans (hb1.mono hbw)⟩
      rw [← hE.out, Nat.sub_self, L.kidsL, List.append_nil]
      exact OwnI.below hO hb1

set_option maxHeartbeats 1000000 in
theorem kids_out (l : List L.Nd) (v : Value) (i : Int) (hi : ¬ (0 ≤ i ∧ i < l.length)) (w : World) (hx : Rd w w.heap.size v l) :
    Calls Tryd.prog 14 #[v, .int .i64 i] w fun e w' => e = .returned (.slice none 0 0) ∧ w = w' := by
  obtain ⟨A, cap, rfl, _⟩ := hx
  go_enter Tryd.func14, Tryd.ntmps14
  go_wp2_with (go_at_call 36; refine (isNode_no l A cap i hi _).mono ?_; rintro e w' ⟨rfl, rfl⟩)
  go_ret
  exact ⟨rfl, rfl⟩

set_option maxHeartbeats 1000000 in
theorem refKids_out (l : List L.Nd) (v : Value) (i : Int) (hi : ¬ (0 ≤ i ∧ i < l.length)) (w : World) (hx : Rd w w.heap.size v l) :
    Calls Tryd.prog 15 #[v, .int .i64 i] w fun e w' => ∃ v', e = .returned v' ∧ OwnI w.heap.size v' [] w' ∧ Below w.heap.size w w' := by
  obtain ⟨A, cap, rfl, _⟩ := hx
  by_cases h0 : i < 0
  · go_enter Tryd.func15, Tryd.ntmps15
    go_wp2
    go_ret
    exact ⟨_, rfl, World.ownsRow_made w #[] 0 (Nat.le_refl _) (Nat.zero_le _) (by simp), below_new _⟩
  · have h2 : (l.length : Int) ≤ i := by omega
    go_enter Tryd.func15, Tryd.ntmps15
    go_wp2
    go_ret
    exact ⟨_, rfl, World.ownsRow_made w #[] 0 (Nat.le_refl _) (Nat.zero_le _) (by simp), below_new _⟩

set_option maxHeartbeats 2000000 in
set_option maxRecDepth 100000 in
theorem ints_same (l : List Nat) (v1 v2 : Value) (w : World) (h1 : RdI w v1 l) (h2 : RdI w v2 l) (hn : l.length ≤ 1000000) :
    Calls Tryd.prog 13 #[v1, v2] w fun e w' => e = .returned (.bool true) ∧ Below w.heap.size w w' := by
  obtain ⟨A, cap, rfl, hc1⟩ := h1
  obtain ⟨A2, cap2, rfl, hc2⟩ := h2
  have H1 := hid hc1
  have H2 := hid hc2
  clear hc1 hc2
  go_enter Tryd.func13, Tryd.ntmps13
  go_wp2
  go_loopw [5] (fun vi wr => ∃ k : Nat, vi = .int .i64 k ∧ k ≤ l.length ∧ Below w.heap.size w wr) (fun vi _ => l.length - (intOf vi).toNat)
  case atStart => exact ⟨0, rfl, by omega, Below.refl _ _⟩
  case round =>
    obtain ⟨k, rfl, hk, hB⟩ := hrel
    by_cases hlt : k < l.length
    · obtain ⟨g1, rfl, hg1, hx1⟩ := H1.out (by rintro rfl; simp at hlt)
      obtain ⟨g2, rfl, hg2, hx2⟩ := H2.out (by rintro rfl; simp at hlt)
      have a0 := (hB.cell (p := ⟨g1, k, none⟩) hg1).trans (hx1 k hlt)
      have b0 := (hB.cell (p := ⟨g2, k, none⟩) hg2).trans (hx2 k hlt)
      clear hx1 hx2
      generalize l[k] = x0 at *
      go_wp2
      go_quiet (fail)
      go_wp2
      go_roundw
      case rel => exact ⟨k + 1, by go_num, by omega, below_drewN hB _⟩
      case measure => simp [intOf]; omega
    · go_wp2
      go_ret
      exact ⟨rfl, hB⟩

end Go.Proofs.YtimlblbmfckeiaaDoor
