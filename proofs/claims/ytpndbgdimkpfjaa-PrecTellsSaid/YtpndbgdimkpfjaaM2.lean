/-
  The texts TyE, TyK, TyC, TyA, one behind the other. Conditions: those that each of them names.
-/
import Derived.Test.YtpndbgdimkpfjaaM1
import Derived.Lib.SliceRun
import Derived.Lib.AppendZeros
section
/-
  The walks of End, ty's and the reference's, and of ty.isNode. Conditions: at most 20000 nodes, each of which has from 0 to 50 children.
-/
namespace Go.Proofs.Ytpndbgdimkpfjaa
open Go.RowKit

/-- Nodes that have from 0 to 50 children, not too many. -/
def Few (l : List L.Nd) : Prop := l.length ≤ 20000 ∧ ∀ x ∈ l, 0 ≤ L.many x ∧ L.many x ≤ 50

theorem isNode_yes (l : List L.Nd) (A : Option Addr) (cap : Nat) (p : Nat) (hp : p < l.length) (w : World) :
    Calls Try.prog 53 #[.slice A l.length cap, .int .i64 p] w fun e w' => e = .returned (.bool true) ∧ w = w' := by
  go_enter Try.func53, Try.ntmps53
  go_wp2
  go_ret
  exact ⟨ret_bool (by simp), rfl⟩
theorem isNode_no (l : List L.Nd) (A : Option Addr) (cap : Nat) (i : Int) (hp : ¬ (0 ≤ i ∧ i < l.length)) (w : World) :
    Calls Try.prog 53 #[.slice A l.length cap, .int .i64 i] w fun e w' => e = .returned (.bool false) ∧ w = w' := by
  by_cases h0 : 0 ≤ i
  · go_enter Try.func53, Try.ntmps53
    go_wp2
    go_ret
    exact ⟨ret_bool (by first | (simp; done) | (simp; omega)), rfl⟩
  · go_enter Try.func53, Try.ntmps53
    go_wp2
    go_ret
    exact ⟨ret_bool (by first | (simp; done) | (simp; omega)), rfl⟩

set_option maxHeartbeats 2000000 in
set_option maxRecDepth 100000 in
theorem end_any (l : List L.Nd) (hF : Few l) (v : Value) (p : Nat) (hp : p < l.length) (w : World) (hx : Rd w w.heap.size v l) :
    Calls Try.prog 36 #[v, .int .i64 p] w fun e w' => e = .returned (.int .i64 ((p + L.eat 1 (l.drop p) : Nat) : Int)) ∧ Below w.heap.size w w' := by
  obtain ⟨A, cap, rfl, hl1, hl2, _, hcx⟩ := hx
  unfold maxLen at hl2
  obtain ⟨hl, hM⟩ := hF
  have HCX := hid hcx
  have HM := hid hM
  clear hcx hM
  go_enter Try.func36, Try.ntmps36
  go_wp2_with (go_at_call 53; refine (isNode_yes l A cap p hp _).mono ?_; rintro e w' ⟨rfl, rfl⟩)
  go_loopw [1, 5] (fun vi vc wr => ∃ q c : Nat, vi = .int .i64 q ∧ vc = .int .i64 c ∧ q ≤ l.length ∧ c ≤ 1 + 50 * q ∧ Below w.heap.size w wr ∧ Hid (q + L.eat c (l.drop q) = p + L.eat 1 (l.drop p))) (fun vi _ _ => l.length - (intOf vi).toNat)
  case atStart => exact ⟨p, 1, rfl, rfl, by omega, by omega, Below.refl _ _, hid rfl⟩
  case round =>
    obtain ⟨q, c, rfl, rfl, hq, hc, hB, hE⟩ := hrel
    by_cases h0 : c = 0
    · subst h0
      go_wp2
      go_ret
      refine ⟨ret_int ?_, hB⟩
      rw [← hE.out, L.eat_zero]
      rfl
    by_cases hlt : q < l.length
    · obtain ⟨b, o, rfl, hb, hcx⟩ := HCX.out (by rintro rfl; simp at hlt)
      obtain ⟨x0, x1, x2⟩ := hcx q hlt
      have ex : ∀ j, wr.cell? ⟨b, j, none⟩ = w.cell? ⟨b, j, none⟩ := fun j => hB.cell (p := ⟨b, j, none⟩) hb
      rw [← ex] at x0 x1 x2
      have hm := HM.out _ (List.getElem_mem hlt)
      have hdr : Hid (l.drop q = l[q] :: l.drop (q + 1)) := hid (List.drop_eq_getElem_cons hlt)
      clear hcx ex
      generalize l[q] = X at *
      obtain ⟨k1, s1, n1⟩ := X
      have hmn := many_any k1 n1 s1
      obtain ⟨mm, hmm⟩ : ∃ mm : Nat, L.many ⟨k1, s1, n1⟩ = mm := ⟨(L.many ⟨k1, s1, n1⟩).toNat, by omega⟩
      obtain ⟨c', rfl⟩ : ∃ c', c = c' + 1 := ⟨c - 1, by omega⟩
      have hE2 : Hid (q + (1 + L.eat (c' + mm) (l.drop (q + 1))) = p + L.eat 1 (l.drop p)) := hid (by rw [← hE.out, hdr.out, L.eat, hmm]; rfl)
      rw [hmm] at hmn hm
      have HMN := hid hmn
      have hbw := hB.size
      clear hmn
      go_wp2_with fail
      refine (HMN.out _).mono ?_
      rintro e w1 ⟨rfl, hb1⟩
      have hB1 : Below w.heap.size w w1 := hB.trans (hb1.mono hbw)
      go_wp2
      go_roundw
      case rel => exact ⟨q + 1, c' + mm, by go_num, by go_num, by omega, by omega, hB1, hid (by rw [← hE2.out]; omega)⟩
      case measure => simp [intOf]; omega
    · go_wp2
      go_ret
      refine ⟨ret_int ?_, hB⟩
      rw [← hE.out, List.drop_eq_nil_of_le (by omega), L.eat]
      rfl

set_option maxHeartbeats 2000000 in
set_option maxRecDepth 100000 in
theorem end_out (l : List L.Nd) (v : Value) (i : Int) (hi : ¬ (0 ≤ i ∧ i < l.length)) (w : World) (hx : Rd w w.heap.size v l) :
    Calls Try.prog 36 #[v, .int .i64 i] w fun e w' => e = .returned (.int .i64 (-1)) ∧ w = w' := by
  obtain ⟨A, cap, rfl, _⟩ := hx
  go_enter Try.func36, Try.ntmps36
  go_wp2_with (go_at_call 53; refine (isNode_no l A cap i hi _).mono ?_; rintro e w' ⟨rfl, rfl⟩)
  go_ret
  exact ⟨rfl, rfl⟩

set_option maxHeartbeats 2000000 in
set_option maxRecDepth 100000 in
theorem refEnd_any (l : List L.Nd) (hF : Few l) (v : Value) (p : Nat) (hp : p < l.length) (w : World) (hx : Rd w w.heap.size v l) :
    Calls Try.prog 49 #[v, .int .i64 p] w fun e w' => e = .returned (.int .i64 ((p + L.eat 1 (l.drop p) : Nat) : Int)) ∧ Below w.heap.size w w' := by
  obtain ⟨A, cap, rfl, hl1, hl2, _, hcx⟩ := hx
  unfold maxLen at hl2
  obtain ⟨hl, hM⟩ := hF
  have HCX := hid hcx
  have HM := hid hM
  clear hcx hM
  have hd : decide (l.length ≤ p) = false := by simp; omega
  go_enter Try.func49, Try.ntmps49
  go_wp2
  go_loopw [5, 6] (fun vc vi wr => ∃ q c : Nat, vi = .int .i64 q ∧ vc = .int .i64 ((c + 1 : Nat) : Int) ∧ q ≤ l.length ∧ c ≤ 1 + 50 * q ∧ Below w.heap.size w wr ∧ Hid (q + L.eat (c + 1) (l.drop q) = p + L.eat 1 (l.drop p))) (fun _ vi _ => l.length - (intOf vi).toNat)
  case atStart => exact ⟨p, 0, rfl, rfl, by omega, by omega, Below.refl _ _, hid rfl⟩
  case round =>
    obtain ⟨q, c, rfl, rfl, hq, hc, hB, hE⟩ := hrel
    by_cases hlt : q < l.length
    · obtain ⟨b, o, rfl, hb, hcx⟩ := HCX.out (by rintro rfl; simp at hlt)
      obtain ⟨x0, x1, x2⟩ := hcx q hlt
      have ex : ∀ j, wr.cell? ⟨b, j, none⟩ = w.cell? ⟨b, j, none⟩ := fun j => hB.cell (p := ⟨b, j, none⟩) hb
      rw [← ex] at x0 x1 x2
      have hm := HM.out _ (List.getElem_mem hlt)
      have hdr : Hid (l.drop q = l[q] :: l.drop (q + 1)) := hid (List.drop_eq_getElem_cons hlt)
      clear hcx ex
      generalize l[q] = X at *
      obtain ⟨k1, s1, n1⟩ := X
      have hmn := refMany_any k1 n1 s1
      obtain ⟨mm, hmm⟩ : ∃ mm : Nat, L.many ⟨k1, s1, n1⟩ = mm := ⟨(L.many ⟨k1, s1, n1⟩).toNat, by omega⟩
      have hE2 : Hid (q + (1 + L.eat (c + mm) (l.drop (q + 1))) = p + L.eat 1 (l.drop p)) := hid (by rw [← hE.out, hdr.out, L.eat, hmm]; rfl)
      rw [hmm] at hmn hm
      have HMN := hid hmn
      have hbw := hB.size
      clear hmn
      by_cases hz : c + mm = 0
      · obtain rfl : c = 0 := by omega
        obtain rfl : mm = 0 := by omega
        go_wp2_with fail
        refine (HMN.out _).mono ?_
        rintro e w1 ⟨rfl, hb1⟩
        have hB1 : Below w.heap.size w w1 := hB.trans (hb1.mono hbw)
        go_wp2
        go_ret
        refine ⟨ret_int ?_, hB1⟩
        rw [← hE2.out, L.eat_zero]
        simp
      · go_wp2_with fail
        refine (HMN.out _).mono ?_
        rintro e w1 ⟨rfl, hb1⟩
        have hB1 : Below w.heap.size w w1 := hB.trans (hb1.mono hbw)
        have hz2 : (((c : Int) + 1 - 1 + (mm : Int)) == 0) = false := by simp; omega
        have hz3 : (((c : Int) + (mm : Int)) == 0) = false := by simp; omega
        go_wp2
        go_roundw
        case rel => exact ⟨q + 1, c + mm - 1, by go_num, by go_num, by omega, by omega, hB1, hid (by rw [← hE2.out, show c + mm - 1 + 1 = c + mm by omega]; omega)⟩
        case measure => simp [intOf]; omega
    · go_wp2
      go_ret
      refine ⟨ret_int ?_, hB⟩
      rw [← hE.out, List.drop_eq_nil_of_le (by omega), L.eat]
      simp
      omega

set_option maxHeartbeats 2000000 in
set_option maxRecDepth 100000 in
theorem refEnd_out (l : List L.Nd) (v : Value) (i : Int) (hi : ¬ (0 ≤ i ∧ i < l.length)) (w : World) (hx : Rd w w.heap.size v l) :
    Calls Try.prog 49 #[v, .int .i64 i] w fun e w' => e = .returned (.int .i64 (-1)) ∧ w = w' := by
  obtain ⟨A, cap, rfl, _⟩ := hx
  by_cases h0 : i < 0
  · go_enter Try.func49, Try.ntmps49
    go_wp2
    go_ret
    exact ⟨rfl, rfl⟩
  · have h2 : (l.length : Int) ≤ i := by omega
    go_enter Try.func49, Try.ntmps49
    go_wp2
    go_ret
    exact ⟨rfl, rfl⟩

end Go.Proofs.Ytpndbgdimkpfjaa
end

section
/-
  The walks of Kids, ty's and the reference's, and of the reference's Ints. Conditions: at most 20000 nodes, each of which has from 0 to 50 children.
-/
namespace Go.Proofs.Ytpndbgdimkpfjaa
open Go.RowKit

def cellsI (ks : List Nat) : List Value := ks.map fun i => .int .i64 ((i : Nat) : Int)

/-- A slice of these numbers, in a block from B on, of the call's own. -/
def OwnI (B : Nat) (v : Value) (ks : List Nat) (w : World) : Prop := w.ownsRow B 3 1 v ks.length (cellsI ks)

theorem OwnI.below {B : Nat} {v : Value} {l : List Nat} {w w' : World} (h : OwnI B v l w) (hb : Below w.heap.size w w') : OwnI B v l w' := by
  unfold OwnI at h ⊢
  by_cases hv : v.ownBlock = none
  · exact h.kept (grown_of_below hb) (Or.inl hv)
  · exact h.kept (grown_of_below hb) (Or.inr hv)
theorem OwnI.nil (B : Nat) (w : World) : OwnI B (.slice none 0 0) [] w := World.ownsRow_nil w B _ 1
theorem OwnI.snoc {B : Nat} {v : Value} {l : List Nat} {w : World} (q : Nat) (h : w.ownsRow B 3 1 v (l.length + 1) (cellsI l ++ [.int .i64 ((q : Nat) : Int)])) : OwnI B v (l ++ [q]) w := by
  unfold OwnI
  have : cellsI (l ++ [q]) = cellsI l ++ [.int .i64 ((q : Nat) : Int)] := by simp [cellsI]
  rw [this, List.length_append]
  exact h

/-- A row of numbers is read cell by cell. -/
def RdI (w : World) (v : Value) (l : List Nat) : Prop :=
  ∃ (A : Option Addr) (cap : Nat), v = .slice A l.length cap ∧ (l ≠ [] → ∃ g, A = some ⟨g, 0, none⟩ ∧ g < w.heap.size ∧ ∀ (i : Nat) (h : i < l.length), w.cell? ⟨g, i, none⟩ = some (.int .i64 ((l[i] : Nat) : Int)))

theorem OwnI.rd {B : Nat} {v : Value} {l : List Nat} {w : World} (h : OwnI B v l w) : RdI w v l := by
  rcases h.2 with ⟨hv, h0⟩ | ⟨g, cap, cur, hv, _, hh, hc, hm, _⟩
  · exact ⟨none, 0, by rw [hv, h0], fun hn => absurd (List.eq_nil_of_length_eq_zero h0) hn⟩
  · subst hv
    refine ⟨_, cap, rfl, fun _ => ⟨g, rfl, heap_lt hh, fun i hi => ?_⟩⟩
    rw [World.ownsRow.cellAt h i (by omega)]
    simp [cellsI, hi]
theorem RdI.below {w w' : World} {v : Value} {l : List Nat} (h : RdI w v l) (hb : Below w.heap.size w w') : RdI w' v l := by
  obtain ⟨A, cap, hv, hc⟩ := h
  refine ⟨A, cap, hv, fun hn => ?_⟩
  obtain ⟨g, ha, hg, hx⟩ := hc hn
  refine ⟨g, ha, Nat.lt_of_lt_of_le hg hb.size, fun i hi => ?_⟩
  rw [hb.cell (p := ⟨g, i, none⟩) hg]
  exact hx i hi

theorem infoInt : (Try.prog.info? 3).map (fun i => (i.zero, i.size, i.bytes)) = some (some (.int .i64 0), 1, 8) := by kernel_rfl

set_option maxHeartbeats 4000000 in
set_option maxRecDepth 100000 in
theorem kids_any (l : List L.Nd) (hF : Few l) (v : Value) (p : Nat) (hp : p < l.length) (w : World) (hx : Rd w w.heap.size v l) :
    Calls Try.prog 47 #[v, .int .i64 p] w fun e w' => ∃ v', e = .returned v' ∧ OwnI w.heap.size v' (L.kidsL l (L.many l[p]).toNat (p + 1)) w' ∧ Below w.heap.size w w' := by
  obtain ⟨i0, hi, hz0, hz1, hz2⟩ := info_parts infoInt
  have HX := hid hx
  have HF := hid hF
  obtain ⟨A, cap, rfl, hl1, hl2, _, hcx⟩ := hx
  unfold maxLen at hl2
  obtain ⟨hl, hM⟩ := hF
  obtain ⟨b, o, rfl, hb, hcx⟩ := hcx (by rintro rfl; simp at hp)
  obtain ⟨x0, x1, x2⟩ := hcx p hp
  have X0 := hid x0
  have X1 := hid x1
  have X2 := hid x2
  have hm := hM _ (List.getElem_mem hp)
  clear hcx hM x0 x1 x2
  generalize l[p] = X at *
  obtain ⟨k1, s1, n1⟩ := X
  have hmn := many_any k1 n1 s1
  obtain ⟨c, hc⟩ : ∃ c : Nat, L.many ⟨k1, s1, n1⟩ = c := ⟨(L.many ⟨k1, s1, n1⟩).toNat, by omega⟩
  rw [hc] at hmn hm ⊢
  rw [Int.toNat_natCast]
  have HMN := hid hmn
  clear hmn
  go_enter Try.func47, Try.ntmps47
  go_wp2_with (go_at_call 53; refine (isNode_yes l _ cap p hp _).mono ?_; rintro e w' ⟨rfl, rfl⟩)
  go_loopw [5, 6, 7] (fun vl va vk wr => ∃ (k q : Nat) (acc : List Nat), va = .int .i64 q ∧ vk = .int .i64 k ∧ k ≤ c ∧ q ≤ l.length ∧ acc.length = k ∧ OwnI w.heap.size vl acc wr ∧ Below w.heap.size w wr ∧ Hid (acc ++ L.kidsL l (c - k) q = L.kidsL l c (p + 1))) (fun _ _ vk _ => c - (intOf vk).toNat)
  case atStart => exact ⟨0, p + 1, [], by go_num, rfl, by omega, by omega, rfl, OwnI.nil _ _, Below.refl _ _, hid rfl⟩
  case round =>
    obtain ⟨k, q, acc, rfl, rfl, hk, hq, hal, hO, hB, hE⟩ := hrel
    have x0 := (hB.cell (p := ⟨b, o + p * 3, none⟩) hb).trans X0.out
    have x1 := (hB.cell (p := ⟨b, o + p * 3 + 1, none⟩) hb).trans X1.out
    have x2 := (hB.cell (p := ⟨b, o + p * 3 + 2, none⟩) hb).trans X2.out
    have hbw := hB.size
    by_cases hkc : k < c
    · by_cases hlt : q < l.length
      · go_wp2_with fail
        refine (HMN.out _).mono ?_
        rintro e w1 ⟨rfl, hb1⟩
        have hB1 : Below w.heap.size w w1 := hB.trans (hb1.mono hbw)
        have hO1 : w1.ownsRow w.heap.size 3 1 u5 acc.length (cellsI acc) := OwnI.below hO hb1
        have hE2 : Hid (acc ++ [q] ++ L.kidsL l (c - (k + 1)) (q + L.eat 1 (l.drop q)) = L.kidsL l c (p + 1)) := hid (by
          rw [← hE.out, show c - k = (c - (k + 1)) + 1 by omega, L.kidsL, if_pos hlt]
          simp)
        clear x0 x1 x2 hO hb1
        go_wp2_with (at_builtin; refine wpList_append_own _ rfl _ _ 59 rfl w.heap.size 3 i0 (.int .i64 0) 1 8 Try.underlying59 hi hz0 hz1 hz2 rfl (by decide) _ _ _ rfl (World.ownsRow.alloc hO1 _) ⟨w1.heap.size, 0, none⟩ 1 1 [.int .i64 q] rfl rfl ?c1 ?c2 ?c3 ?c4 ?c5 ?_)
        case c1 => intro j u hj; match j, hj with | 0, hj => simp at hj; subst hj; simp [Addr.add]
        case c2 => intro u hu; simp at hu; subst hu; rfl
        case c3 => unfold maxLen; omega
        case c4 => omega
        case c5 => have := hB1.size; simp; omega
        intro v' w2 hown hgrow _
        have hB2 : Below w.heap.size w w2 := (hB1.alloc hB1.size _).grown hgrow (by have := hB1.size; simp; omega) (fun k hk => (World.ownsRow.lt hO1 k hk).1)
        rw [← hal] at hown
        have hO2 := OwnI.snoc q hown
        have HEnd := hid (end_any l HF.out _ q hlt w2 ((HX.out.below hB2).size))
        clear hown hgrow hO1 hB1
        go_wp2_with fail
        refine (HEnd.out).mono ?_
        rintro e w3 ⟨rfl, hb3⟩
        have he := L.eat_le 1 (l.drop q)
        rw [List.length_drop] at he
        go_wp2
        go_roundw
        case rel => exact ⟨k + 1, q + L.eat 1 (l.drop q), acc ++ [q], rfl, by go_num, by omega, by omega, by simp [hal], hO2.below hb3, hB2.trans (hb3.mono hB2.size), hE2⟩
        case measure => simp [intOf]; omega
      · obtain rfl : q = l.length := by omega
        go_wp2_with fail
        refine (HMN.out _).mono ?_
        rintro e w1 ⟨rfl, hb1⟩
        go_wp2
        go_ret
        refine ⟨_, rfl, ?_, hB.trans (hb1.mono hbw)⟩
        rw [← hE.out, show c - k = (c - (k + 1)) + 1 by omega, L.kidsL, if_neg (by omega), List.append_nil]
        exact OwnI.below hO hb1
    · obtain rfl : k = c := by omega
      go_wp2_with fail
      refine (HMN.out _).mono ?_
      rintro e w1 ⟨rfl, hb1⟩
      go_wp2
      go_ret
      refine ⟨_, rfl, ?_, hB.trans (hb1.mono hbw)⟩
      rw [← hE.out, Nat.sub_self, L.kidsL, List.append_nil]
      exact OwnI.below hO hb1

set_option maxHeartbeats 4000000 in
set_option maxRecDepth 100000 in
theorem refKids_any (l : List L.Nd) (hF : Few l) (v : Value) (p : Nat) (hp : p < l.length) (w : World) (hx : Rd w w.heap.size v l) :
    Calls Try.prog 55 #[v, .int .i64 p] w fun e w' => ∃ v', e = .returned v' ∧ OwnI w.heap.size v' (L.kidsL l (L.many l[p]).toNat (p + 1)) w' ∧ Below w.heap.size w w' := by
  obtain ⟨i0, hi, hz0, hz1, hz2⟩ := info_parts infoInt
  have HX := hid hx
  have HF := hid hF
  obtain ⟨A, cap, rfl, hl1, hl2, _, hcx⟩ := hx
  unfold maxLen at hl2
  obtain ⟨hl, hM⟩ := hF
  obtain ⟨b, o, rfl, hb, hcx⟩ := hcx (by rintro rfl; simp at hp)
  obtain ⟨x0, x1, x2⟩ := hcx p hp
  have X0 := hid x0
  have X1 := hid x1
  have X2 := hid x2
  have hm := hM _ (List.getElem_mem hp)
  clear hcx hM x0 x1 x2
  generalize l[p] = X at *
  obtain ⟨k1, s1, n1⟩ := X
  have hmn := refMany_any k1 n1 s1
  obtain ⟨c, hc⟩ : ∃ c : Nat, L.many ⟨k1, s1, n1⟩ = c := ⟨(L.many ⟨k1, s1, n1⟩).toNat, by omega⟩
  rw [hc] at hmn hm ⊢
  rw [Int.toNat_natCast]
  have HMN := hid hmn
  clear hmn
  have hd : decide (l.length ≤ p) = false := by simp; omega
  go_enter Try.func55, Try.ntmps55
  go_wp2
  go_loopw [5, 6, 7] (fun vl va vk wr => ∃ (k q : Nat) (acc : List Nat), va = .int .i64 q ∧ vk = .int .i64 k ∧ k ≤ c ∧ q ≤ l.length ∧ acc.length = k ∧ OwnI w.heap.size vl acc wr ∧ Below w.heap.size w wr ∧ Hid (acc ++ L.kidsL l (c - k) q = L.kidsL l c (p + 1))) (fun _ _ vk _ => c - (intOf vk).toNat)
  case atStart => exact ⟨0, p + 1, [], by go_num, rfl, by omega, by omega, rfl, World.ownsRow_made w #[] 0 (Nat.le_refl _) (Nat.zero_le _) (by simp), below_new _, hid rfl⟩
  case round =>
    obtain ⟨k, q, acc, rfl, rfl, hk, hq, hal, hO, hB, hE⟩ := hrel
    have x0 := (hB.cell (p := ⟨b, o + p * 3, none⟩) hb).trans X0.out
    have x1 := (hB.cell (p := ⟨b, o + p * 3 + 1, none⟩) hb).trans X1.out
    have x2 := (hB.cell (p := ⟨b, o + p * 3 + 2, none⟩) hb).trans X2.out
    have hbw := hB.size
    by_cases hkc : k < c
    · by_cases hlt : q < l.length
      · go_wp2_with fail
        refine (HMN.out _).mono ?_
        rintro e w1 ⟨rfl, hb1⟩
        have hB1 : Below w.heap.size w w1 := hB.trans (hb1.mono hbw)
        have hO1 : w1.ownsRow w.heap.size 3 1 u5 acc.length (cellsI acc) := OwnI.below hO hb1
        have hE2 : Hid (acc ++ [q] ++ L.kidsL l (c - (k + 1)) (q + L.eat 1 (l.drop q)) = L.kidsL l c (p + 1)) := hid (by
          rw [← hE.out, show c - k = (c - (k + 1)) + 1 by omega, L.kidsL, if_pos hlt]
          simp)
        clear x0 x1 x2 hO hb1
        go_wp2_with (at_builtin; refine wpList_append_own _ rfl _ _ 59 rfl w.heap.size 3 i0 (.int .i64 0) 1 8 Try.underlying59 hi hz0 hz1 hz2 rfl (by decide) _ _ _ rfl (World.ownsRow.alloc hO1 _) ⟨w1.heap.size, 0, none⟩ 1 1 [.int .i64 q] rfl rfl ?c1 ?c2 ?c3 ?c4 ?c5 ?_)
        case c1 => intro j u hj; match j, hj with | 0, hj => simp at hj; subst hj; simp [Addr.add]
        case c2 => intro u hu; simp at hu; subst hu; rfl
        case c3 => unfold maxLen; omega
        case c4 => omega
        case c5 => have := hB1.size; simp; omega
        intro v' w2 hown hgrow _
        have hB2 : Below w.heap.size w w2 := (hB1.alloc hB1.size _).grown hgrow (by have := hB1.size; simp; omega) (fun k hk => (World.ownsRow.lt hO1 k hk).1)
        rw [← hal] at hown
        have hO2 := OwnI.snoc q hown
        have HEnd := hid (refEnd_any l HF.out _ q hlt w2 ((HX.out.below hB2).size))
        clear hown hgrow hO1 hB1
        go_wp2_with fail
        refine (HEnd.out).mono ?_
        rintro e w3 ⟨rfl, hb3⟩
        have he := L.eat_le 1 (l.drop q)
        rw [List.length_drop] at he
        go_wp2
        go_roundw
        case rel => exact ⟨k + 1, q + L.eat 1 (l.drop q), acc ++ [q], rfl, by go_num, by omega, by omega, by simp [hal], hO2.below hb3, hB2.trans (hb3.mono hB2.size), hE2⟩
        case measure => simp [intOf]; omega
      · obtain rfl : q = l.length := by omega
        go_wp2_with fail
        refine (HMN.out _).mono ?_
        rintro e w1 ⟨rfl, hb1⟩
        go_wp2
        go_ret
        refine ⟨_, rfl, ?_, hB.trans (hb1.mono hbw)⟩
        rw [← hE.out, show c - k = (c - (k + 1)) + 1 by omega, L.kidsL, if_neg (by omega), List.append_nil]
        exact OwnI.below hO hb1
    · obtain rfl : k = c := by omega
      go_wp2_with fail
      refine (HMN.out _).mono ?_
      rintro e w1 ⟨rfl, hb1⟩
      go_wp2
      go_ret
      refine ⟨_, rfl, ?_, hB.trans (hb1.mono hbw)⟩
      rw [← hE.out, Nat.sub_self, L.kidsL, List.append_nil]
      exact OwnI.below hO hb1

set_option maxHeartbeats 1000000 in
theorem kids_out (l : List L.Nd) (v : Value) (i : Int) (hi : ¬ (0 ≤ i ∧ i < l.length)) (w : World) (hx : Rd w w.heap.size v l) :
    Calls Try.prog 47 #[v, .int .i64 i] w fun e w' => e = .returned (.slice none 0 0) ∧ w = w' := by
  obtain ⟨A, cap, rfl, _⟩ := hx
  go_enter Try.func47, Try.ntmps47
  go_wp2_with (go_at_call 53; refine (isNode_no l A cap i hi _).mono ?_; rintro e w' ⟨rfl, rfl⟩)
  go_ret
  exact ⟨rfl, rfl⟩

set_option maxHeartbeats 1000000 in
theorem refKids_out (l : List L.Nd) (v : Value) (i : Int) (hi : ¬ (0 ≤ i ∧ i < l.length)) (w : World) (hx : Rd w w.heap.size v l) :
    Calls Try.prog 55 #[v, .int .i64 i] w fun e w' => ∃ v', e = .returned v' ∧ OwnI w.heap.size v' [] w' ∧ Below w.heap.size w w' := by
  obtain ⟨A, cap, rfl, _⟩ := hx
  by_cases h0 : i < 0
  · go_enter Try.func55, Try.ntmps55
    go_wp2
    go_ret
    exact ⟨_, rfl, World.ownsRow_made w #[] 0 (Nat.le_refl _) (Nat.zero_le _) (by simp), below_new _⟩
  · have h2 : (l.length : Int) ≤ i := by omega
    go_enter Try.func55, Try.ntmps55
    go_wp2
    go_ret
    exact ⟨_, rfl, World.ownsRow_made w #[] 0 (Nat.le_refl _) (Nat.zero_le _) (by simp), below_new _⟩

end Go.Proofs.Ytpndbgdimkpfjaa
end

section
/-
  The walks of slices.Clone at nodes, of ty.labelled, and of Part, ty's and the reference's. Conditions: a slice of at most 20000 nodes, for Part each of which has from 0 to 50 children.
-/
namespace Go.Proofs.Ytpndbgdimkpfjaa.L
open Go

/-- The same nodes, the first one with this label. -/
def setName : List Nd → ByteArray → List Nd
  | [], _ => []
  | x :: r, s => ⟨x.kind, s, x.n⟩ :: r

/-- The nodes of the tree at place p, without its label. -/
def partL (l : List Nd) (p : Nat) : List Nd := setName ((l.drop p).take (eat 1 (l.drop p))) ⟨#[]⟩

theorem setName_length (l : List Nd) (s : ByteArray) : (setName l s).length = l.length := by cases l <;> rfl

end Go.Proofs.Ytpndbgdimkpfjaa.L
namespace Go.Proofs.Ytpndbgdimkpfjaa
open Go.RowKit

theorem cellsN_setName {l : List L.Nd} (h : l ≠ []) (s : ByteArray) : cellsN (L.setName l s) = (cellsN l).set 1 (.string s) := by
  cases l with
  | nil => exact absurd rfl h
  | cons x r => rfl

set_option maxHeartbeats 1000000 in
set_option maxRecDepth 100000 in
theorem clone_any (l : List L.Nd) (h0 : l ≠ []) (hl : l.length ≤ 20000) (v : Value) (w : World) (hx : Rd w w.heap.size v l) :
    Calls Try.prog 62 #[v] w fun e w' => ∃ g cap, e = .returned (.slice (some ⟨g, 0, none⟩) l.length cap) ∧ Own w.heap.size (.slice (some ⟨g, 0, none⟩) l.length cap) l w' ∧ Below w.heap.size w w' := by
  obtain ⟨i0, hi, hz0, hz1, hz2⟩ := info_parts infoNode
  have q22 : ∀ (w : World) (a : Option Addr) (n c n' c' : Nat), (binOp .eql 23 (.slice a n c) (.slice none n' c')).run Try.prog w = .ok (.bool a.isNone) w := fun w a n c n' c' => Lib.run_eql_slice_nil w _ _ a n c n' c' Try.underlying23
  rcases hx.src with ⟨_, hn⟩ | ⟨a, cap, rfl, hs⟩
  · exact absurd hn h0
  have HS := hid hs
  clear hs hx
  go_enter Try.func62, Try.ntmps62
  go_wp2_with (at_builtin; refine wpList_append_own _ rfl _ _ 23 rfl w.heap.size 39 i0 (.agg #[.int .i64 0, .string ⟨#[]⟩, .int .i64 0]) 3 32 Try.underlying23 hi hz0 hz1 hz2 rfl (by decide) _ _ _ rfl (World.ownsRow_made w #[] 0 (Nat.le_refl _) (Nat.zero_le _) (by simp)) a l.length cap (cellsN l) rfl (cellsN_len l) ?c1 ?c2 ?c3 ?c4 ?c5 ?_)
  case c1 => exact fun j u hj => Lib.cell?_alloc_some _ (HS.out j u hj)
  case c2 => exact cellsN_one l
  case c3 => unfold maxLen; omega
  case c4 => omega
  case c5 => simp
  intro v' w1 hown hgrow hnil
  have hO : Own w.heap.size v' l w1 := by
    unfold Own
    simpa using hown
  have hB : Below w.heap.size w w1 := (below_new _).grown hgrow (by simp) (by intro k hk; simp [Value.ownBlock] at hk; omega)
  obtain ⟨g, cap', rfl⟩ : ∃ g cap', v' = .slice (some ⟨g, 0, none⟩) l.length cap' := by
    rcases hO.2 with ⟨_, hz⟩ | ⟨g, cap, cur, hv, _⟩
    · exact absurd (List.eq_nil_of_length_eq_zero hz) h0
    · exact ⟨g, cap, hv⟩
  go_wp2
  go_ret
  exact ⟨g, cap', rfl, hO, hB⟩

set_option maxHeartbeats 1000000 in
set_option maxRecDepth 100000 in
theorem labelled_any (l : List L.Nd) (h0 : l ≠ []) (hl : l.length ≤ 20000) (v : Value) (s : ByteArray) (w : World) (hx : Rd w w.heap.size v l) :
    Calls Try.prog 57 #[v, .string s] w fun e w' => ∃ v', e = .returned v' ∧ Own w.heap.size v' (L.setName l s) w' ∧ Below w.heap.size w w' := by
  have HC := hid (clone_any l h0 hl v w hx)
  obtain ⟨A, cap, rfl, _⟩ := hx
  have hpos : 0 < l.length := List.length_pos_iff.2 h0
  go_enter Try.func57, Try.ntmps57
  go_wp2_with fail
  refine (HC.out).mono ?_
  rintro e w1 ⟨g, cap', rfl, hO, hB⟩
  obtain ⟨hst, hgr⟩ := World.ownsRow.stored hO 1 (.string s)
  have c1 := (World.ownsRow.cellAt hO 1 (by omega)).trans (show (cellsN l)[1]? = some (.string (l[0]'hpos).name) by have := (cellsN_get l 0 hpos).2.1; simpa using this)
  have f1 := World.ownsRow.frozenAt hO 1
  have hlt := (Own.lt hO g rfl)
  have HST := hid hst
  have HGR := hid hgr
  clear hst hgr hO
  go_wp2
  go_ret
  refine ⟨_, rfl, ?_, hB.setCell (p := ⟨g, 1, none⟩) hlt.1 _⟩
  unfold Own
  rw [cellsN_setName h0, L.setName_length]
  exact HST.out

/-- A part of a slice that is read. -/
theorem Rd.sub {w : World} {B b o n cap p e : Nat} {l : List L.Nd} (h : Rd w B (.slice (some ⟨b, o, none⟩) n cap) l) (hp : p + e ≤ l.length) (he : 0 < e) (hn : n = l.length) :
    Rd w B (.slice (some ⟨b, o + p * 3, none⟩) e (cap - p)) ((l.drop p).take e) := by
  have hne : l ≠ [] := by rintro rfl; simp at hp; omega
  have hc := h.at_slice hne
  obtain ⟨A, c, hv, h1, h2, _, hb⟩ := h
  obtain ⟨b', o', hA, hb', _⟩ := hb hne
  rw [hA] at hv
  simp only [Value.slice.injEq, Option.some.injEq, Addr.mk.injEq] at hv
  obtain ⟨⟨rfl, rfl, _⟩, _, rfl⟩ := hv
  have hlen : ((l.drop p).take e).length = e := by simp; omega
  refine ⟨some ⟨b, o + p * 3, none⟩, cap - p, by rw [hlen], by omega, by omega, by simp, fun _ => ⟨b, o + p * 3, rfl, hb', fun i hi => ?_⟩⟩
  have hi2 : p + i < l.length := by omega
  have hg : ((l.drop p).take e)[i] = l[p + i] := by simp
  rw [hg]
  obtain ⟨x, y, z⟩ := hc (p + i) hi2
  have e1 : o + p * 3 + i * 3 = o + (p + i) * 3 := by omega
  rw [e1]
  exact ⟨x, y, z⟩

set_option maxHeartbeats 1000000 in
set_option maxRecDepth 100000 in
theorem part_any (l : List L.Nd) (hF : Few l) (v : Value) (p : Nat) (hp : p < l.length) (w : World) (hx : Rd w w.heap.size v l) :
    Calls Try.prog 45 #[v, .int .i64 p] w fun e w' => ∃ v', e = .returned v' ∧ Own w.heap.size v' (L.partL l p) w' ∧ Below w.heap.size w w' := by
  have HE := hid (end_any l hF v p hp w hx)
  have HX := hid hx
  obtain ⟨A, cap, rfl, hl1, hl2, _, hcx⟩ := hx
  unfold maxLen at hl2
  obtain ⟨b, o, rfl, hb, hcx⟩ := hcx (by rintro rfl; simp at hp)
  have he1 : 0 < L.eat 1 (l.drop p) := L.eat_pos (by omega) (by intro h; have := congrArg List.length h; simp at this; omega)
  have he2 := L.eat_le 1 (l.drop p)
  rw [List.length_drop] at he2
  have hl := hF.1
  clear hcx
  have HP : Hid (L.partL l p = L.setName ((l.drop p).take (L.eat 1 (l.drop p))) ⟨#[]⟩) := hid rfl
  generalize L.eat 1 (l.drop p) = E at *
  go_enter Try.func45, Try.ntmps45
  go_wp2_with (first | (go_at_call 53; refine (isNode_yes l _ cap p hp _).mono ?_; rintro e w' ⟨rfl, rfl⟩) | (go_at_call 36; refine (HE.out).mono ?_; rintro e w1 ⟨rfl, hb1⟩))
  have hne : (l.drop p).take E ≠ [] := by intro h; have := congrArg List.length h; simp at this; omega
  have hR : Rd w1 w1.heap.size (.slice (some ⟨b, o + p * 3, none⟩) E (cap - p)) ((l.drop p).take E) := ((HX.out.below hb1).size).sub (by omega) he1 rfl
  refine (labelled_any _ hne (by simp; omega) _ _ _ hR).mono ?_
  rintro e w2 ⟨v', rfl, hO, hb2⟩
  go_wp2
  go_ret
  refine ⟨v', rfl, ?_, hb1.trans (hb2.mono hb1.size)⟩
  rw [HP.out]
  exact ⟨hO.1, hO.2.imp id fun ⟨g, cp, cur, h1, h2, h3⟩ => ⟨g, cp, cur, h1, Nat.le_trans hb1.size h2, h3⟩⟩

set_option maxHeartbeats 1000000 in
theorem part_out (l : List L.Nd) (v : Value) (i : Int) (hi : ¬ (0 ≤ i ∧ i < l.length)) (w : World) (hx : Rd w w.heap.size v l) :
    Calls Try.prog 45 #[v, .int .i64 i] w fun e w' => e = .returned (.slice none 0 0) ∧ w = w' := by
  obtain ⟨A, cap, rfl, _⟩ := hx
  go_enter Try.func45, Try.ntmps45
  go_wp2_with (go_at_call 53; refine (isNode_no l A cap i hi _).mono ?_; rintro e w' ⟨rfl, rfl⟩)
  go_ret
  exact ⟨rfl, rfl⟩

set_option maxHeartbeats 1000000 in
set_option maxRecDepth 100000 in
theorem refPart_any (l : List L.Nd) (hF : Few l) (v : Value) (p : Nat) (hp : p < l.length) (w : World) (hx : Rd w w.heap.size v l) :
    Calls Try.prog 56 #[v, .int .i64 p] w fun e w' => ∃ v', e = .returned v' ∧ Own w.heap.size v' (L.partL l p) w' ∧ Below w.heap.size w w' := by
  obtain ⟨i0, hi, hz0, hz1, hz2⟩ := info_parts infoNode
  have HE := hid fun W hW => refEnd_any l hF v p hp W hW
  have HX := hid hx
  obtain ⟨A, cap, rfl, hl1, hl2, _, hcx⟩ := hx
  unfold maxLen at hl2
  obtain ⟨b, o, rfl, hb, hcx⟩ := hcx (by rintro rfl; simp at hp)
  have he1 : 0 < L.eat 1 (l.drop p) := L.eat_pos (by omega) (by intro h; have := congrArg List.length h; simp at this; omega)
  have he2 := L.eat_le 1 (l.drop p)
  rw [List.length_drop] at he2
  have hl := hF.1
  clear hcx
  have HP : Hid (L.partL l p = L.setName ((l.drop p).take (L.eat 1 (l.drop p))) ⟨#[]⟩) := hid rfl
  generalize L.eat 1 (l.drop p) = E at *
  have hne : (l.drop p).take E ≠ [] := by intro h; have := congrArg List.length h; simp at this; omega
  have hlen : ((l.drop p).take E).length = E := by simp; omega
  have HLEN := hid hlen
  clear hlen
  go_enter Try.func56, Try.ntmps56
  go_wp2_with fail
  refine (HE.out _ ((HX.out.alloc _).size)).mono ?_
  rintro e w1 ⟨rfl, hb1⟩
  have hB1 : Below w.heap.size w w1 := (below_new _).trans (hb1.mono (by simp))
  have hR : Rd w1 w1.heap.size (.slice (some ⟨b, o + p * 3, none⟩) E (cap - p)) ((l.drop p).take E) := ((HX.out.below hB1).size).sub (by omega) he1 rfl
  obtain ⟨a, c, hv, hs⟩ : ∃ a c, Value.slice (some ⟨b, o + p * 3, none⟩) E (cap - p) = .slice (some a) ((l.drop p).take E).length c ∧ ∀ j u, (cellsN ((l.drop p).take E))[j]? = some u → w1.cell? (a.add j) = some u := by
    rcases hR.src with ⟨h, _⟩ | h
    · cases h
    · exact h
  simp only [Value.slice.injEq, Option.some.injEq] at hv
  obtain ⟨rfl, -, -⟩ := hv
  have HS := hid hs
  have hO0 : w1.ownsRow w.heap.size 39 3 (.slice (some ⟨w.heap.size, 0, none⟩) 0 0) 0 [] := by
    have h : Own w.heap.size (.slice (some ⟨w.heap.size, 0, none⟩) 0 0) [] (w.alloc (.cells #[] 39)) := World.ownsRow_made w #[] 0 (Nat.le_refl _) (Nat.zero_le _) (by simp)
    exact h.below hb1
  clear hs hR hb1
  go_wp2_with (at_builtin; refine wpList_append_own _ rfl _ _ 23 rfl w.heap.size 39 i0 (.agg #[.int .i64 0, .string ⟨#[]⟩, .int .i64 0]) 3 32 Try.underlying23 hi hz0 hz1 hz2 rfl (by decide) _ _ _ rfl hO0 ⟨b, o + p * 3, none⟩ (p + E - p) (cap - p) (cellsN ((l.drop p).take E)) rfl ?c0 ?c1 ?c2 ?c3 ?c4 ?c5 ?_)
  case c0 => rw [cellsN_len, HLEN.out]; congr 1; omega
  case c1 => exact HS.out
  case c2 => exact cellsN_one _
  case c3 => unfold maxLen; omega
  case c4 => omega
  case c5 => exact hB1.size
  intro v' w2 hown hgrow hnil
  have hO : Own w.heap.size v' ((l.drop p).take E) w2 := by
    unfold Own
    rw [HLEN.out]
    simpa using hown
  have hB : Below w.heap.size w w2 := hB1.grown hgrow hB1.size (by intro k hk; simp [Value.ownBlock] at hk; omega)
  obtain ⟨g, cap', rfl⟩ : ∃ g cap', v' = .slice (some ⟨g, 0, none⟩) E cap' := by
    rcases hO.2 with ⟨_, hz⟩ | ⟨g, cap, cur, hv, _⟩
    · rw [HLEN.out] at hz; omega
    · rw [HLEN.out] at hv; exact ⟨g, cap, hv⟩
  have hO' := hO
  unfold Own at hO'
  rw [HLEN.out] at hO'
  obtain ⟨hst, hgr⟩ := World.ownsRow.stored hO' 1 (.string ⟨#[]⟩)
  have hpos : 0 < ((l.drop p).take E).length := by rw [HLEN.out]; exact he1
  have c1 := (World.ownsRow.cellAt hO' 1 (by omega)).trans (show (cellsN ((l.drop p).take E))[1]? = some (.string (((l.drop p).take E)[0]'hpos).name) by have := (cellsN_get _ 0 hpos).2.1; simpa using this)
  have f1 := World.ownsRow.frozenAt hO' 1
  have hlt := (Own.lt hO g rfl)
  have HST := hid hst
  generalize (((l.drop p).take E)[0]'hpos).name = nm at c1
  clear hst hgr hO hO' hown hgrow hnil hO0
  go_wp2
  go_ret
  refine ⟨_, rfl, ?_, hB.setCell (p := ⟨g, 1, none⟩) hlt.1 _⟩
  unfold Own
  rw [HP.out, cellsN_setName hne, L.setName_length, HLEN.out]
  exact HST.out

set_option maxHeartbeats 1000000 in
theorem refPart_out (l : List L.Nd) (v : Value) (i : Int) (hi : ¬ (0 ≤ i ∧ i < l.length)) (w : World) (hx : Rd w w.heap.size v l) :
    Calls Try.prog 56 #[v, .int .i64 i] w fun e w' => e = .returned (.slice none 0 0) ∧ w = w' := by
  obtain ⟨A, cap, rfl, _⟩ := hx
  by_cases h0 : i < 0
  · go_enter Try.func56, Try.ntmps56
    go_wp2
    go_ret
    exact ⟨rfl, rfl⟩
  · have h2 : (l.length : Int) ≤ i := by omega
    go_enter Try.func56, Try.ntmps56
    go_wp2
    go_ret
    exact ⟨rfl, rfl⟩

end Go.Proofs.Ytpndbgdimkpfjaa
end

section
/-
  The walks of slices.Grow (of nothing) and slices.Concat at nodes, and of Arrow, ty's and the reference's. Conditions: rows that are not empty, of at most 20000 nodes each.
-/
namespace Go.Proofs.Ytpndbgdimkpfjaa
open Go.RowKit

/-- The rows, one behind the other. -/
def catT (ts : List (Value × List L.Nd)) : List L.Nd := ts.flatMap (·.2)

theorem catT_step {ts : List (Value × List L.Nd)} {k : Nat} (h : k < ts.length) : catT (ts.take (k + 1)) = catT (ts.take k) ++ ts[k].2 := by
  unfold catT
  rw [List.take_succ_eq_append_getElem h, List.flatMap_append]
  simp

theorem catT_le {ts : List (Value × List L.Nd)} (h : ∀ t ∈ ts, t.2.length ≤ 20000) : (catT ts).length ≤ ts.length * 20000 := by
  induction ts with
  | nil => simp [catT]
  | cons t r ih =>
    have h1 := ih fun x hx => h x (by simp [hx])
    have h2 := h t (by simp)
    simp only [catT, List.flatMap_cons, List.length_append, List.length_cons] at h1 ⊢
    omega

/-- A slice of one node that is written out. -/
theorem lit_own (w : World) (B : Nat) (hB : B ≤ w.heap.size) (k n : Int) (s : ByteArray) : Own B (.slice (some ⟨w.heap.size, 0, none⟩) 1 1) [⟨k, s, n⟩] (w.alloc (.cells #[.int .i64 k, .string s, .int .i64 n] 39)) :=
  World.ownsRow_lit w _ 1 hB (by unfold maxLen; omega) rfl

theorem Own.more {B B' : Nat} {v : Value} {l : List L.Nd} {w : World} (h : Own B v l w) (hB : B' ≤ B) : Own B' v l w :=
  ⟨h.1, h.2.imp id fun ⟨g, cp, cur, h1, h2, h3⟩ => ⟨g, cp, cur, h1, Nat.le_trans hB h2, h3⟩⟩

set_option maxHeartbeats 1000000 in
set_option maxRecDepth 100000 in
theorem refArrow_any (a b : List L.Nd) (va vb : Value) (w : World) (ha : Rd w w.heap.size va a) (hb : Rd w w.heap.size vb b) (ha0 : a ≠ []) (hb0 : b ≠ []) (hal : a.length ≤ 20000) (hbl : b.length ≤ 20000) :
    Calls Try.prog 31 #[va, vb] w fun e w' => ∃ v', e = .returned v' ∧ Own w.heap.size v' (⟨5, ⟨#[]⟩, 0⟩ :: (a ++ b)) w' ∧ Below w.heap.size w w' := by
  obtain ⟨i0, hi, hz0, hz1, hz2⟩ := info_parts infoNode
  have HA := hid ha
  have HB := hid hb
  obtain ⟨A1, c1, rfl, -⟩ := ha
  obtain ⟨A2, c2, rfl, -⟩ := hb
  have hO0 : (w.alloc (.cells #[.int .i64 5, .string ⟨#[]⟩, .int .i64 0] 39)).ownsRow w.heap.size 39 3 (.slice (some ⟨w.heap.size, 0, none⟩) 1 1) 1 (cellsN [⟨5, ⟨#[]⟩, 0⟩]) := lit_own w w.heap.size (Nat.le_refl _) 5 0 ⟨#[]⟩
  obtain ⟨a1, cp1, hv1, hs1⟩ : ∃ a1 cp, Value.slice A1 a.length c1 = .slice (some a1) a.length cp ∧ ∀ j u, (cellsN a)[j]? = some u → (w.alloc (.cells #[.int .i64 5, .string ⟨#[]⟩, .int .i64 0] 39)).cell? (a1.add j) = some u := by
    rcases (HA.out.alloc (.cells #[.int .i64 5, .string ⟨#[]⟩, .int .i64 0] 39)).src with ⟨_, hz⟩ | h
    · exact absurd hz ha0
    · exact h
  simp only [Value.slice.injEq] at hv1
  obtain ⟨rfl, -, rfl⟩ := hv1
  have HS1 := hid hs1
  clear hs1
  go_enter Try.func31, Try.ntmps31
  go_wp2_with (at_builtin; refine wpList_append_own _ rfl _ _ 23 rfl w.heap.size 39 i0 (.agg #[.int .i64 0, .string ⟨#[]⟩, .int .i64 0]) 3 32 Try.underlying23 hi hz0 hz1 hz2 rfl (by decide) _ _ _ rfl hO0 a1 a.length c1 (cellsN a) rfl (cellsN_len a) ?c1 ?c2 ?c3 ?c4 ?c5 ?_)
  case c1 => exact HS1.out
  case c2 => exact cellsN_one _
  case c3 => unfold maxLen; omega
  case c4 => omega
  case c5 => simp
  intro v1 w1 hown hgrow _
  have hB1 : Below w.heap.size w w1 := (below_new _).grown hgrow (by simp) (fun k hk => by simp [Value.ownBlock] at hk; omega)
  have hO1 : Own w.heap.size v1 ([⟨5, ⟨#[]⟩, 0⟩] ++ a) w1 := Own.append hown
  have hO1' : w1.ownsRow w.heap.size 39 3 v1 (1 + a.length) (cellsN ([⟨5, ⟨#[]⟩, 0⟩] ++ a)) := by
    unfold Own at hO1
    rw [List.length_append] at hO1
    exact hO1
  obtain ⟨a2, cp2, hv2, hs2⟩ : ∃ a2 cp, Value.slice A2 b.length c2 = .slice (some a2) b.length cp ∧ ∀ j u, (cellsN b)[j]? = some u → w1.cell? (a2.add j) = some u := by
    rcases (HB.out.below hB1).src with ⟨_, hz⟩ | h
    · exact absurd hz hb0
    · exact h
  simp only [Value.slice.injEq] at hv2
  obtain ⟨rfl, -, rfl⟩ := hv2
  have HS2 := hid hs2
  clear hs2 hown hgrow hO0
  go_wp2_with (at_builtin; refine wpList_append_own _ rfl _ _ 23 rfl w.heap.size 39 i0 (.agg #[.int .i64 0, .string ⟨#[]⟩, .int .i64 0]) 3 32 Try.underlying23 hi hz0 hz1 hz2 rfl (by decide) _ _ _ rfl hO1' a2 b.length c2 (cellsN b) rfl (cellsN_len b) ?c1 ?c2 ?c3 ?c4 ?c5 ?_)
  case c1 => exact HS2.out
  case c2 => exact cellsN_one _
  case c3 => unfold maxLen; omega
  case c4 => omega
  case c5 => exact hB1.size
  intro v2 w2 hown hgrow _
  have hB2 : Below w.heap.size w w2 := hB1.grown hgrow hB1.size (fun k hk => (World.ownsRow.lt hO1' k hk).1)
  have hO2 : Own w.heap.size v2 ([⟨5, ⟨#[]⟩, 0⟩] ++ a ++ b) w2 := Own.append (by rw [List.length_append]; exact hown)
  clear hown hgrow hO1' hO1
  go_wp2
  go_ret
  exact ⟨_, rfl, by simpa using hO2, hB2⟩

end Go.Proofs.Ytpndbgdimkpfjaa
end
