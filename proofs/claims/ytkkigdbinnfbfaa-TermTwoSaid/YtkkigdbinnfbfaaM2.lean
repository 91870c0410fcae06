/-
  The texts TyE, TyK, TyC, TyA, TyQ, one behind the other. Conditions: those that each of them names.
-/
import Derived.Test.YtkkigdbinnfbfaaM1
import Derived.Lib.SliceRun
import Derived.Lib.AppendZeros
section
/-
  The walks of End, ty's and the reference's, and of ty.isNode. Conditions: at most 20000 nodes, each of which has from 0 to 50 children.
-/
namespace Go.Proofs.Ytkkigdbinnfbfaa
open Go.RowKit

/-- Nodes that have from 0 to 50 children, not too many. -/
def Few (l : List L.Nd) : Prop := l.length ≤ 20000 ∧ ∀ x ∈ l, 0 ≤ L.many x ∧ L.many x ≤ 50

theorem isNode_yes (l : List L.Nd) (A : Option Addr) (cap : Nat) (p : Nat) (hp : p < l.length) (w : World) :
    Calls Try.prog 73 #[.slice A l.length cap, .int .i64 p] w fun e w' => e = .returned (.bool true) ∧ w = w' := by
  go_enter Try.func73, Try.ntmps73
  go_wp2
  go_ret
  exact ⟨ret_bool (by simp), rfl⟩
theorem isNode_no (l : List L.Nd) (A : Option Addr) (cap : Nat) (i : Int) (hp : ¬ (0 ≤ i ∧ i < l.length)) (w : World) :
    Calls Try.prog 73 #[.slice A l.length cap, .int .i64 i] w fun e w' => e = .returned (.bool false) ∧ w = w' := by
  by_cases h0 : 0 ≤ i
  · go_enter Try.func73, Try.ntmps73
    go_wp2
    go_ret
    exact ⟨ret_bool (by first | (simp; done) | (simp; omega)), rfl⟩
  · go_enter Try.func73, Try.ntmps73
    go_wp2
    go_ret
    exact ⟨ret_bool (by first | (simp; done) | (simp; omega)), rfl⟩

set_option maxHeartbeats 2000000 in
set_option maxRecDepth 100000 in
theorem end_any (l : List L.Nd) (hF : Few l) (v : Value) (p : Nat) (hp : p < l.length) (w : World) (hx : Rd w w.heap.size v l) :
    Calls Try.prog 34 #[v, .int .i64 p] w fun e w' => e = .returned (.int .i64 ((p + L.eat 1 (l.drop p) : Nat) : Int)) ∧ Below w.heap.size w w' := by
  obtain ⟨A, cap, rfl, hl1, hl2, _, hcx⟩ := hx
  unfold maxLen at hl2
  obtain ⟨hl, hM⟩ := hF
  have HCX := hid hcx
  have HM := hid hM
  clear hcx hM
  go_enter Try.func34, Try.ntmps34
  go_wp2_with (go_at_call 73; refine (isNode_yes l A cap p hp _).mono ?_; rintro e w' ⟨rfl, rfl⟩)
  go_loopw [1, 5] (fun vi vc wr => ∃ q c : Nat, vi = .int .i64 q ∧ vc = .int .i64 c ∧ q ≤ l.length ∧ c ≤ 1 + 50 * q ∧ Below w.heap.size w wr ∧ Hid (q + L.eat c (l.drop q) = p + L.eat 1 (l.drop p))) (fun vi _ _ => l.length - (intOf vi).toNat)
  case atStart => exact ⟨p, 1, rfl, rfl, by omega, by omega, Below.refl _ _, hid rfl⟩
  case round =>
    obtain ⟨q, c, rfl, rfl, hq, hc, hB, hE⟩ := hrel
    by_cases h0 : c = 0
    · subst h0
      go_wp2
      go_ret
      refine ⟨ret_int ?_, hB⟩
      rw [← hE.out, L.eat_zero]
      rfl
    by_cases hlt : q < l.length
    · obtain ⟨b, o, rfl, hb, hcx⟩ := HCX.out (by rintro rfl; simp at hlt)
      obtain ⟨x0, x1, x2⟩ := hcx q hlt
      have ex : ∀ j, wr.cell? ⟨b, j, none⟩ = w.cell? ⟨b, j, none⟩ := fun j => hB.cell (p := ⟨b, j, none⟩) hb
      rw [← ex] at x0 x1 x2
      have hm := HM.out _ (List.getElem_mem hlt)
      have hdr : Hid (l.drop q = l[q] :: l.drop (q + 1)) := hid (List.drop_eq_getElem_cons hlt)
      clear hcx ex
      generalize l[q] = X at *
      obtain ⟨k1, s1, n1⟩ := X
      have hmn := many_any k1 n1 s1
      obtain ⟨mm, hmm⟩ : ∃ mm : Nat, L.many ⟨k1, s1, n1⟩ = mm := ⟨(L.many ⟨k1, s1, n1⟩).toNat, by omega⟩
      obtain ⟨c', rfl⟩ : ∃ c', c = c' + 1 := ⟨c - 1, by omega⟩
      have hE2 : Hid (q + (1 + L.eat (c' + mm) (l.drop (q + 1))) = p + L.eat 1 (l.drop p)) := hid (by rw [← hE.out, hdr.out, L.eat, hmm]; rfl)
      rw [hmm] at hmn hm
      have HMN := hid hmn
      have hbw := hB.size
      clear hmn
      go_wp2_with fail
      refine (HMN.out _).mono ?_
      rintro e w1 ⟨rfl, hb1⟩
      have hB1 : Below w.heap.size w w1 := hB.trans (hb1.mono hbw)
      go_wp2
      go_roundw
      case rel => exact ⟨q + 1, c' + mm, by go_num, by go_num, by omega, by omega, hB1, hid (by rw [← hE2.out]; omega)⟩
      case measure => simp [intOf]; omega
    · go_wp2
      go_ret
      refine ⟨ret_int ?_, hB⟩
      rw [← hE.out, List.drop_eq_nil_of_le (by omega), L.eat]
      rfl

set_option maxHeartbeats 2000000 in
set_option maxRecDepth 100000 in
theorem end_out (l : List L.Nd) (v : Value) (i : Int) (hi : ¬ (0 ≤ i ∧ i < l.length)) (w : World) (hx : Rd w w.heap.size v l) :
    Calls Try.prog 34 #[v, .int .i64 i] w fun e w' => e = .returned (.int .i64 (-1)) ∧ w = w' := by
  obtain ⟨A, cap, rfl, _⟩ := hx
  go_enter Try.func34, Try.ntmps34
  go_wp2_with (go_at_call 73; refine (isNode_no l A cap i hi _).mono ?_; rintro e w' ⟨rfl, rfl⟩)
  go_ret
  exact ⟨rfl, rfl⟩

set_option maxHeartbeats 2000000 in
set_option maxRecDepth 100000 in
theorem refEnd_any (l : List L.Nd) (hF : Few l) (v : Value) (p : Nat) (hp : p < l.length) (w : World) (hx : Rd w w.heap.size v l) :
    Calls Try.prog 56 #[v, .int .i64 p] w fun e w' => e = .returned (.int .i64 ((p + L.eat 1 (l.drop p) : Nat) : Int)) ∧ Below w.heap.size w w' := by
  obtain ⟨A, cap, rfl, hl1, hl2, _, hcx⟩ := hx
  unfold maxLen at hl2
  obtain ⟨hl, hM⟩ := hF
  have HCX := hid hcx
  have HM := hid hM
  clear hcx hM
  have hd : decide (l.length ≤ p) = false := by simp; omega
  go_enter Try.func56, Try.ntmps56
  go_wp2
  go_loopw [5, 6] (fun vc vi wr => ∃ q c : Nat, vi = .int .i64 q ∧ vc = .int .i64 ((c + 1 : Nat) : Int) ∧ q ≤ l.length ∧ c ≤ 1 + 50 * q ∧ Below w.heap.size w wr ∧ Hid (q + L.eat (c + 1) (l.drop q) = p + L.eat 1 (l.drop p))) (fun _ vi _ => l.length - (intOf vi).toNat)
  case atStart => exact ⟨p, 0, rfl, rfl, by omega, by omega, Below.refl _ _, hid rfl⟩
  case round =>
    obtain ⟨q, c, rfl, rfl, hq, hc, hB, hE⟩ := hrel
    by_cases hlt : q < l.length
    · obtain ⟨b, o, rfl, hb, hcx⟩ := HCX.out (by rintro rfl; simp at hlt)
      obtain ⟨x0, x1, x2⟩ := hcx q hlt
      have ex : ∀ j, wr.cell? ⟨b, j, none⟩ = w.cell? ⟨b, j, none⟩ := fun j => hB.cell (p := ⟨b, j, none⟩) hb
      rw [← ex] at x0 x1 x2
      have hm := HM.out _ (List.getElem_mem hlt)
      have hdr : Hid (l.drop q = l[q] :: l.drop (q + 1)) := hid (List.drop_eq_getElem_cons hlt)
      clear hcx ex
      generalize l[q] = X at *
      obtain ⟨k1, s1, n1⟩ := X
      have hmn := refMany_any k1 n1 s1
      obtain ⟨mm, hmm⟩ : ∃ mm : Nat, L.many ⟨k1, s1, n1⟩ = mm := ⟨(L.many ⟨k1, s1, n1⟩).toNat, by omega⟩
      have hE2 : Hid (q + (1 + L.eat (c + mm) (l.drop (q + 1))) = p + L.eat 1 (l.drop p)) := hid (by rw [← hE.out, hdr.out, L.eat, hmm]; rfl)
      rw [hmm] at hmn hm
      have HMN := hid hmn
      have hbw := hB.size
      clear hmn
      by_cases hz : c + mm = 0
      · obtain rfl : c = 0 := by omega
        obtain rfl : mm = 0 := by omega
        go_wp2_with fail
        refine (HMN.out _).mono ?_
        rintro e w1 ⟨rfl, hb1⟩
        have hB1 : Below w.heap.size w w1 := hB.trans (hb1.mono hbw)
        go_wp2
        go_ret
        refine ⟨ret_int ?_, hB1⟩
        rw [← hE2.out, L.eat_zero]
        simp
      · go_wp2_with fail
        refine (HMN.out _).mono ?_
        rintro e w1 ⟨rfl, hb1⟩
        have hB1 : Below w.heap.size w w1 := hB.trans (hb1.mono hbw)
        have hz2 : (((c : Int) + 1 - 1 + (mm : Int)) == 0) = false := by simp; omega
        have hz3 : (((c : Int) + (mm : Int)) == 0) = false := by simp; omega
        go_wp2
        go_roundw
        case rel => exact ⟨q + 1, c + mm - 1, by go_num, by go_num, by omega, by omega, hB1, hid (by rw [← hE2.out, show c + mm - 1 + 1 = c + mm by omega]; omega)⟩
        case measure => simp [intOf]; omega
    · go_wp2
      go_ret
      refine ⟨ret_int ?_, hB⟩
      rw [← hE.out, List.drop_eq_nil_of_le (by omega), L.eat]
      simp
      omega

set_option maxHeartbeats 2000000 in
set_option maxRecDepth 100000 in
theorem refEnd_out (l : List L.Nd) (v : Value) (i : Int) (hi : ¬ (0 ≤ i ∧ i < l.length)) (w : World) (hx : Rd w w.heap.size v l) :
    Calls Try.prog 56 #[v, .int .i64 i] w fun e w' => e = .returned (.int .i64 (-1)) ∧ w = w' := by
  obtain ⟨A, cap, rfl, _⟩ := hx
  by_cases h0 : i < 0
  · go_enter Try.func56, Try.ntmps56
    go_wp2
    go_ret
    exact ⟨rfl, rfl⟩
  · have h2 : (l.length : Int) ≤ i := by omega
    go_enter Try.func56, Try.ntmps56
    go_wp2
    go_ret
    exact ⟨rfl, rfl⟩

end Go.Proofs.Ytkkigdbinnfbfaa
end

section
/-
  The walks of Kids, ty's and the reference's, and of the reference's Ints. Conditions: at most 20000 nodes, each of which has from 0 to 50 children.
-/
namespace Go.Proofs.Ytkkigdbinnfbfaa
open Go.RowKit

def cellsI (ks : List Nat) : List Value := ks.map fun i => .int .i64 ((i : Nat) : Int)

/-- A slice of these numbers, in a block from B on, of the call's own. -/
def OwnI (B : Nat) (v : Value) (ks : List Nat) (w : World) : Prop := w.ownsRow B 3 1 v ks.length (cellsI ks)

theorem OwnI.below {B : Nat} {v : Value} {l : List Nat} {w w' : World} (h : OwnI B v l w) (hb : Below w.heap.size w w') : OwnI B v l w' := by
  unfold OwnI at h ⊢
  by_cases hv : v.ownBlock = none
  · exact h.kept (grown_of_below hb) (Or.inl hv)
  · exact h.kept (grown_of_below hb) (Or.inr hv)
theorem OwnI.nil (B : Nat) (w : World) : OwnI B (.slice none 0 0) [] w := World.ownsRow_nil w B _ 1
theorem OwnI.snoc {B : Nat} {v : Value} {l : List Nat} {w : World} (q : Nat) (h : w.ownsRow B 3 1 v (l.length + 1) (cellsI l ++ [.int .i64 ((q : Nat) : Int)])) : OwnI B v (l ++ [q]) w := by
  unfold OwnI
  have : cellsI (l ++ [q]) = cellsI l ++ [.int .i64 ((q : Nat) : Int)] := by simp [cellsI]
  rw [this, List.length_append]
  exact h

/-- A row of numbers is read cell by cell. -/
def RdI (w : World) (v : Value) (l : List Nat) : Prop :=
  ∃ (A : Option Addr) (cap : Nat), v = .slice A l.length cap ∧ (l ≠ [] → ∃ g, A = some ⟨g, 0, none⟩ ∧ g < w.heap.size ∧ ∀ (i : Nat) (h : i < l.length), w.cell? ⟨g, i, none⟩ = some (.int .i64 ((l[i] : Nat) : Int)))

theorem OwnI.rd {B : Nat} {v : Value} {l : List Nat} {w : World} (h : OwnI B v l w) : RdI w v l := by
  rcases h.2 with ⟨hv, h0⟩ | ⟨g, cap, cur, hv, _, hh, hc, hm, _⟩
  · exact ⟨none, 0, by rw [hv, h0], fun hn => absurd (List.eq_nil_of_length_eq_zero h0) hn⟩
  · subst hv
    refine ⟨_, cap, rfl, fun _ => ⟨g, rfl, heap_lt hh, fun i hi => ?_⟩⟩
    rw [World.ownsRow.cellAt h i (by omega)]
    simp [cellsI, hi]
theorem RdI.below {w w' : World} {v : Value} {l : List Nat} (h : RdI w v l) (hb : Below w.heap.size w w') : RdI w' v l := by
  obtain ⟨A, cap, hv, hc⟩ := h
  refine ⟨A, cap, hv, fun hn => ?_⟩
  obtain ⟨g, ha, hg, hx⟩ := hc hn
  refine ⟨g, ha, Nat.lt_of_lt_of_le hg hb.size, fun i hi => ?_⟩
  rw [hb.cell (p := ⟨g, i, none⟩) hg]
  exact hx i hi

theorem infoInt : (Try.prog.info? 3).map (fun i => (i.zero, i.size, i.bytes)) = some (some (.int .i64 0), 1, 8) := by kernel_rfl

set_option maxHeartbeats 4000000 in
set_option maxRecDepth 100000 in
theorem kids_any (l : List L.Nd) (hF : Few l) (v : Value) (p : Nat) (hp : p < l.length) (w : World) (hx : Rd w w.heap.size v l) :
    Calls Try.prog 33 #[v, .int .i64 p] w fun e w' => ∃ v', e = .returned v' ∧ OwnI w.heap.size v' (L.kidsL l (L.many l[p]).toNat (p + 1)) w' ∧ Below w.heap.size w w' := by
  obtain ⟨i0, hi, hz0, hz1, hz2⟩ := info_parts infoInt
  have HX := hid hx
  have HF := hid hF
  obtain ⟨A, cap, rfl, hl1, hl2, _, hcx⟩ := hx
  unfold maxLen at hl2
  obtain ⟨hl, hM⟩ := hF
  obtain ⟨b, o, rfl, hb, hcx⟩ := hcx (by rintro rfl; simp at hp)
  obtain ⟨x0, x1, x2⟩ := hcx p hp
  have X0 := hid x0
  have X1 := hid x1
  have X2 := hid x2
  have hm := hM _ (List.getElem_mem hp)
  clear hcx hM x0 x1 x2
  generalize l[p] = X at *
  obtain ⟨k1, s1, n1⟩ := X
  have hmn := many_any k1 n1 s1
  obtain ⟨c, hc⟩ : ∃ c : Nat, L.many ⟨k1, s1, n1⟩ = c := ⟨(L.many ⟨k1, s1, n1⟩).toNat, by omega⟩
  rw [hc] at hmn hm ⊢
  rw [Int.toNat_natCast]
  have HMN := hid hmn
  clear hmn
  go_enter Try.func33, Try.ntmps33
  go_wp2_with (go_at_call 73; refine (isNode_yes l _ cap p hp _).mono ?_; rintro e w' ⟨rfl, rfl⟩)
  go_loopw [5, 6, 7] (fun vl va vk wr => ∃ (k q : Nat) (acc : List Nat), va = .int .i64 q ∧ vk = .int .i64 k ∧ k ≤ c ∧ q ≤ l.length ∧ acc.length = k ∧ OwnI w.heap.size vl acc wr ∧ Below w.heap.size w wr ∧ Hid (acc ++ L.kidsL l (c - k) q = L.kidsL l c (p + 1))) (fun _ _ vk _ => c - (intOf vk).toNat)
  case atStart => exact ⟨0, p + 1, [], by go_num, rfl, by omega, by omega, rfl, OwnI.nil _ _, Below.refl _ _, hid rfl⟩
  case round =>
    obtain ⟨k, q, acc, rfl, rfl, hk, hq, hal, hO, hB, hE⟩ := hrel
    have x0 := (hB.cell (p := ⟨b, o + p * 3, none⟩) hb).trans X0.out
    have x1 := (hB.cell (p := ⟨b, o + p * 3 + 1, none⟩) hb).trans X1.out
    have x2 := (hB.cell (p := ⟨b, o + p * 3 + 2, none⟩) hb).trans X2.out
    have hbw := hB.size
    by_cases hkc : k < c
    · by_cases hlt : q < l.length
      · go_wp2_with fail
        refine (HMN.out _).mono ?_
        rintro e w1 ⟨rfl, hb1⟩
        have hB1 : Below w.heap.size w w1 := hB.trans (hb1.mono hbw)
        have hO1 : w1.ownsRow w.heap.size 3 1 u5 acc.length (cellsI acc) := OwnI.below hO hb1
        have hE2 : Hid (acc ++ [q] ++ L.kidsL l (c - (k + 1)) (q + L.eat 1 (l.drop q)) = L.kidsL l c (p + 1)) := hid (by
          rw [← hE.out, show c - k = (c - (k + 1)) + 1 by omega, L.kidsL, if_pos hlt]
          simp)
        clear x0 x1 x2 hO hb1
        go_wp2_with (at_builtin; refine wpList_append_own _ rfl _ _ 30 rfl w.heap.size 3 i0 (.int .i64 0) 1 8 Try.underlying30 hi hz0 hz1 hz2 rfl (by decide) _ _ _ rfl (World.ownsRow.alloc hO1 _) ⟨w1.heap.size, 0, none⟩ 1 1 [.int .i64 q] rfl rfl ?c1 ?c2 ?c3 ?c4 ?c5 ?_)
        case c1 => intro j u hj; match j, hj with | 0, hj => simp at hj; subst hj; simp [Addr.add]
        case c2 => intro u hu; simp at hu; subst hu; rfl
        case c3 => unfold maxLen; omega
        case c4 => omega
        case c5 => have := hB1.size; simp; omega
        intro v' w2 hown hgrow _
        have hB2 : Below w.heap.size w w2 := (hB1.alloc hB1.size _).grown hgrow (by have := hB1.size; simp; omega) (fun k hk => (World.ownsRow.lt hO1 k hk).1)
        rw [← hal] at hown
        have hO2 := OwnI.snoc q hown
        have HEnd := hid (end_any l HF.out _ q hlt w2 ((HX.out.below hB2).size))
        clear hown hgrow hO1 hB1
        go_wp2_with fail
        refine (HEnd.out).mono ?_
        rintro e w3 ⟨rfl, hb3⟩
        have he := L.eat_le 1 (l.drop q)
        rw [List.length_drop] at he
        go_wp2
        go_roundw
        case rel => exact ⟨k + 1, q + L.eat 1 (l.drop q), acc ++ [q], rfl, by go_num, by omega, by omega, by simp [hal], hO2.below hb3, hB2.trans (hb3.mono hB2.size), hE2⟩
        case measure => simp [intOf]; omega
      · obtain rfl : q = l.length := by omega
        go_wp2_with fail
        refine (HMN.out _).mono ?_
        rintro e w1 ⟨rfl, hb1⟩
        go_wp2
        go_ret
        refine ⟨_, rfl, ?_, hB.trans (hb1.mono hbw)⟩
        rw [← hE.out, show c - k = (c - (k + 1)) + 1 by omega, L.kidsL, if_neg (by omega), List.append_nil]
        exact OwnI.below hO hb1
    · obtain rfl : k = c := by omega
      go_wp2_with fail
      refine (HMN.out _).mono ?_
      rintro e w1 ⟨rfl, hb1⟩
      go_wp2
      go_ret
      refine ⟨_, rfl, ?_, hB.trans (hb1.mono hbw)⟩
      rw [← hE.out, Nat.sub_self, L.kidsL, List.append_nil]
      exact OwnI.below hO hb1

set_option maxHeartbeats 4000000 in
set_option maxRecDepth 100000 in
theorem refKids_any (l : List L.Nd) (hF : Few l) (v : Value) (p : Nat) (hp : p < l.length) (w : World) (hx : Rd w w.heap.size v l) :
    Calls Try.prog 59 #[v, .int .i64 p] w fun e w' => ∃ v', e = .returned v' ∧ OwnI w.heap.size v' (L.kidsL l (L.many l[p]).toNat (p + 1)) w' ∧ Below w.heap.size w w' := by
  obtain ⟨i0, hi, hz0, hz1, hz2⟩ := info_parts infoInt
  have HX := hid hx
  have HF := hid hF
  obtain ⟨A, cap, rfl, hl1, hl2, _, hcx⟩ := hx
  unfold maxLen at hl2
  obtain ⟨hl, hM⟩ := hF
  obtain ⟨b, o, rfl, hb, hcx⟩ := hcx (by rintro rfl; simp at hp)
  obtain ⟨x0, x1, x2⟩ := hcx p hp
  have X0 := hid x0
  have X1 := hid x1
  have X2 := hid x2
  have hm := hM _ (List.getElem_mem hp)
  clear hcx hM x0 x1 x2
  generalize l[p] = X at *
  obtain ⟨k1, s1, n1⟩ := X
  have hmn := refMany_any k1 n1 s1
  obtain ⟨c, hc⟩ : ∃ c : Nat, L.many ⟨k1, s1, n1⟩ = c := ⟨(L.many ⟨k1, s1, n1⟩).toNat, by omega⟩
  rw [hc] at hmn hm ⊢
  rw [Int.toNat_natCast]
  have HMN := hid hmn
  clear hmn
  have hd : decide (l.length ≤ p) = false := by simp; omega
  go_enter Try.func59, Try.ntmps59
  go_wp2
  go_loopw [5, 6, 7] (fun vl va vk wr => ∃ (k q : Nat) (acc : List Nat), va = .int .i64 q ∧ vk = .int .i64 k ∧ k ≤ c ∧ q ≤ l.length ∧ acc.length = k ∧ OwnI w.heap.size vl acc wr ∧ Below w.heap.size w wr ∧ Hid (acc ++ L.kidsL l (c - k) q = L.kidsL l c (p + 1))) (fun _ _ vk _ => c - (intOf vk).toNat)
  case atStart => exact ⟨0, p + 1, [], by go_num, rfl, by omega, by omega, rfl, World.ownsRow_made w #[] 0 (Nat.le_refl _) (Nat.zero_le _) (by simp), below_new _, hid rfl⟩
  case round =>
    obtain ⟨k, q, acc, rfl, rfl, hk, hq, hal, hO, hB, hE⟩ := hrel
    have x0 := (hB.cell (p := ⟨b, o + p * 3, none⟩) hb).trans X0.out
    have x1 := (hB.cell (p := ⟨b, o + p * 3 + 1, none⟩) hb).trans X1.out
    have x2 := (hB.cell (p := ⟨b, o + p * 3 + 2, none⟩) hb).trans X2.out
    have hbw := hB.size
    by_cases hkc : k < c
    · by_cases hlt : q < l.length
      · go_wp2_with fail
        refine (HMN.out _).mono ?_
        rintro e w1 ⟨rfl, hb1⟩
        have hB1 : Below w.heap.size w w1 := hB.trans (hb1.mono hbw)
        have hO1 : w1.ownsRow w.heap.size 3 1 u5 acc.length (cellsI acc) := OwnI.below hO hb1
        have hE2 : Hid (acc ++ [q] ++ L.kidsL l (c - (k + 1)) (q + L.eat 1 (l.drop q)) = L.kidsL l c (p + 1)) := hid (by
          rw [← hE.out, show c - k = (c - (k + 1)) + 1 by omega, L.kidsL, if_pos hlt]
          simp)
        clear x0 x1 x2 hO hb1
        go_wp2_with (at_builtin; refine wpList_append_own _ rfl _ _ 30 rfl w.heap.size 3 i0 (.int .i64 0) 1 8 Try.underlying30 hi hz0 hz1 hz2 rfl (by decide) _ _ _ rfl (World.ownsRow.alloc hO1 _) ⟨w1.heap.size, 0, none⟩ 1 1 [.int .i64 q] rfl rfl ?c1 ?c2 ?c3 ?c4 ?c5 ?_)
        case c1 => intro j u hj; match j, hj with | 0, hj => simp at hj; subst hj; simp [Addr.add]
        case c2 => intro u hu; simp at hu; subst hu; rfl
        case c3 => unfold maxLen; omega
        case c4 => omega
        case c5 => have := hB1.size; simp; omega
        intro v' w2 hown hgrow _
        have hB2 : Below w.heap.size w w2 := (hB1.alloc hB1.size _).grown hgrow (by have := hB1.size; simp; omega) (fun k hk => (World.ownsRow.lt hO1 k hk).1)
        rw [← hal] at hown
        have hO2 := OwnI.snoc q hown
        have HEnd := hid (refEnd_any l HF.out _ q hlt w2 ((HX.out.below hB2).size))
        clear hown hgrow hO1 hB1
        go_wp2_with fail
        refine (HEnd.out).mono ?_
        rintro e w3 ⟨rfl, hb3⟩
        have he := L.eat_le 1 (l.drop q)
        rw [List.length_drop] at he
        go_wp2
        go_roundw
        case rel => exact ⟨k + 1, q + L.eat 1 (l.drop q), acc ++ [q], rfl, by go_num, by omega, by omega, by simp [hal], hO2.below hb3, hB2.trans (hb3.mono hB2.size), hE2⟩
        case measure => simp [intOf]; omega
      · obtain rfl : q = l.length := by omega
        go_wp2_with fail
        refine (HMN.out _).mono ?_
        rintro e w1 ⟨rfl, hb1⟩
        go_wp2
        go_ret
        refine ⟨_, rfl, ?_, hB.trans (hb1.mono hbw)⟩
        rw [← hE.out, show c - k = (c - (k + 1)) + 1 by omega, L.kidsL, if_neg (by omega), List.append_nil]
        exact OwnI.below hO hb1
    · obtain rfl : k = c := by omega
      go_wp2_with fail
      refine (HMN.out _).mono ?_
      rintro e w1 ⟨rfl, hb1⟩
      go_wp2
      go_ret
      refine ⟨_, rfl, ?_, hB.trans (hb1.mono hbw)⟩
      rw [← hE.out, Nat.sub_self, L.kidsL, List.append_nil]
      exact OwnI.below hO hb1

set_option maxHeartbeats 1000000 in
theorem kids_out (l : List L.Nd) (v : Value) (i : Int) (hi : ¬ (0 ≤ i ∧ i < l.length)) (w : World) (hx : Rd w w.heap.size v l) :
    Calls Try.prog 33 #[v, .int .i64 i] w fun e w' => e = .returned (.slice none 0 0) ∧ w = w' := by
  obtain ⟨A, cap, rfl, _⟩ := hx
  go_enter Try.func33, Try.ntmps33
  go_wp2_with (go_at_call 73; refine (isNode_no l A cap i hi _).mono ?_; rintro e w' ⟨rfl, rfl⟩)
  go_ret
  exact ⟨rfl, rfl⟩

set_option maxHeartbeats 1000000 in
theorem refKids_out (l : List L.Nd) (v : Value) (i : Int) (hi : ¬ (0 ≤ i ∧ i < l.length)) (w : World) (hx : Rd w w.heap.size v l) :
    Calls Try.prog 59 #[v, .int .i64 i] w fun e w' => ∃ v', e = .returned v' ∧ OwnI w.heap.size v' [] w' ∧ Below w.heap.size w w' := by
  obtain ⟨A, cap, rfl, _⟩ := hx
  by_cases h0 : i < 0
  · go_enter Try.func59, Try.ntmps59
    go_wp2
    go_ret
    exact ⟨_, rfl, World.ownsRow_made w #[] 0 (Nat.le_refl _) (Nat.zero_le _) (by simp), below_new _⟩
  · have h2 : (l.length : Int) ≤ i := by omega
    go_enter Try.func59, Try.ntmps59
    go_wp2
    go_ret
    exact ⟨_, rfl, World.ownsRow_made w #[] 0 (Nat.le_refl _) (Nat.zero_le _) (by simp), below_new _⟩

end Go.Proofs.Ytkkigdbinnfbfaa
end

section
/-
  The walks of slices.Clone at nodes, of ty.labelled, and of Part, ty's and the reference's. Conditions: a slice of at most 20000 nodes, for Part each of which has from 0 to 50 children.
-/
namespace Go.Proofs.Ytkkigdbinnfbfaa.L
open Go

/-- The same nodes, the first one with this label. -/
def setName : List Nd → ByteArray → List Nd
  | [], _ => []
  | x :: r, s => ⟨x.kind, s, x.n⟩ :: r

/-- The nodes of the tree at place p, without its label. -/
def partL (l : List Nd) (p : Nat) : List Nd := setName ((l.drop p).take (eat 1 (l.drop p))) ⟨#[]⟩

theorem setName_length (l : List Nd) (s : ByteArray) : (setName l s).length = l.length := by cases l <;> rfl

end Go.Proofs.Ytkkigdbinnfbfaa.L
namespace Go.Proofs.Ytkkigdbinnfbfaa
open Go.RowKit

theorem cellsN_setName {l : List L.Nd} (h : l ≠ []) (s : ByteArray) : cellsN (L.setName l s) = (cellsN l).set 1 (.string s) := by
  cases l with
  | nil => exact absurd rfl h
  | cons x r => rfl

set_option maxHeartbeats 1000000 in
set_option maxRecDepth 100000 in
theorem clone_any (l : List L.Nd) (h0 : l ≠ []) (hl : l.length ≤ 20000) (v : Value) (w : World) (hx : Rd w w.heap.size v l) :
    Calls Try.prog 46 #[v] w fun e w' => ∃ g cap, e = .returned (.slice (some ⟨g, 0, none⟩) l.length cap) ∧ Own w.heap.size (.slice (some ⟨g, 0, none⟩) l.length cap) l w' ∧ Below w.heap.size w w' := by
  obtain ⟨i0, hi, hz0, hz1, hz2⟩ := info_parts infoNode
  have q22 : ∀ (w : World) (a : Option Addr) (n c n' c' : Nat), (binOp .eql 23 (.slice a n c) (.slice none n' c')).run Try.prog w = .ok (.bool a.isNone) w := fun w a n c n' c' => Lib.run_eql_slice_nil w _ _ a n c n' c' Try.underlying23
  rcases hx.src with ⟨_, hn⟩ | ⟨a, cap, rfl, hs⟩
  · exact absurd hn h0
  have HS := hid hs
  clear hs hx
  go_enter Try.func46, Try.ntmps46
  go_wp2_with (at_builtin; refine wpList_append_own _ rfl _ _ 23 rfl w.heap.size 39 i0 (.agg #[.int .i64 0, .string ⟨#[]⟩, .int .i64 0]) 3 32 Try.underlying23 hi hz0 hz1 hz2 rfl (by decide) _ _ _ rfl (World.ownsRow_made w #[] 0 (Nat.le_refl _) (Nat.zero_le _) (by simp)) a l.length cap (cellsN l) rfl (cellsN_len l) ?c1 ?c2 ?c3 ?c4 ?c5 ?_)
  case c1 => exact fun j u hj => Lib.cell?_alloc_some _ (HS.out j u hj)
  case c2 => exact cellsN_one l
  case c3 => unfold maxLen; omega
  case c4 => omega
  case c5 => simp
  intro v' w1 hown hgrow hnil
  have hO : Own w.heap.size v' l w1 := by
    unfold Own
    simpa using hown
  have hB : Below w.heap.size w w1 := (below_new _).grown hgrow (by simp) (by intro k hk; simp [Value.ownBlock] at hk; omega)
  obtain ⟨g, cap', rfl⟩ : ∃ g cap', v' = .slice (some ⟨g, 0, none⟩) l.length cap' := by
    rcases hO.2 with ⟨_, hz⟩ | ⟨g, cap, cur, hv, _⟩
    · exact absurd (List.eq_nil_of_length_eq_zero hz) h0
    · exact ⟨g, cap, hv⟩
  go_wp2
  go_ret
  exact ⟨g, cap', rfl, hO, hB⟩

/-- A part of a slice that is read. -/
theorem Rd.sub {w : World} {B b o n cap p e : Nat} {l : List L.Nd} (h : Rd w B (.slice (some ⟨b, o, none⟩) n cap) l) (hp : p + e ≤ l.length) (he : 0 < e) (hn : n = l.length) :
    Rd w B (.slice (some ⟨b, o + p * 3, none⟩) e (cap - p)) ((l.drop p).take e) := by
  have hne : l ≠ [] := by rintro rfl; simp at hp; omega
  have hc := h.at_slice hne
  obtain ⟨A, c, hv, h1, h2, _, hb⟩ := h
  obtain ⟨b', o', hA, hb', _⟩ := hb hne
  rw [hA] at hv
  simp only [Value.slice.injEq, Option.some.injEq, Addr.mk.injEq] at hv
  obtain ⟨⟨rfl, rfl, _⟩, _, rfl⟩ := hv
  have hlen : ((l.drop p).take e).length = e := by simp; omega
  refine ⟨some ⟨b, o + p * 3, none⟩, cap - p, by rw [hlen], by omega, by omega, by simp, fun _ => ⟨b, o + p * 3, rfl, hb', fun i hi => ?_⟩⟩
  have hi2 : p + i < l.length := by omega
  have hg : ((l.drop p).take e)[i] = l[p + i] := by simp
  rw [hg]
  obtain ⟨x, y, z⟩ := hc (p + i) hi2
  have e1 : o + p * 3 + i * 3 = o + (p + i) * 3 := by omega
  rw [e1]
  exact ⟨x, y, z⟩

end Go.Proofs.Ytkkigdbinnfbfaa
end

section
/-
  The walks of slices.Grow (of nothing) and slices.Concat at nodes, and of Arrow, ty's and the reference's. Conditions: rows that are not empty, of at most 20000 nodes each.
-/
namespace Go.Proofs.Ytkkigdbinnfbfaa
open Go.RowKit

set_option maxHeartbeats 1000000 in
set_option maxRecDepth 100000 in
theorem grow_any (n : Nat) (h0 : 0 < n) (hn : n ≤ 1000000) (w : World) :
    Calls Try.prog 43 #[.slice none 0 0, .int .i64 n] w fun e w' => ∃ v', e = .returned v' ∧ Own w.heap.size v' [] w' ∧ Below w.heap.size w w' := by
  obtain ⟨i0, hi, hz0, hz1, hz2⟩ := info_parts infoNode
  have hr : ∀ W : World, (Builtin.append_ #[23, 3] 23 #[.slice none 0 0, .int .i64 n]).run Try.prog W = .ok (.slice (some ⟨W.heap.size, 0, none⟩) n (grownCap W n 0 39)) (W.drew.alloc (.cells (Builtin.zeroCells (Value.agg #[.int .i64 0, .string ⟨#[]⟩, .int .i64 0]).cells n ++ Builtin.zeroCells (Value.agg #[.int .i64 0, .string ⟨#[]⟩, .int .i64 0]).cells (grownCap W n 0 39 - n)) 39)) := fun W =>
    Lib.run_append_nil_zeros W 23 3 23 39 i0 _ _ _ Try.underlying23 Try.underlying3 hi hz0 n h0 (by rw [hz1]; decide) (by omega) (by rw [hz2]; omega)
  have hge := grownCap_ge w n 0 39
  have hle := grownCap_le_maxLen w n 0 39 (by unfold maxLen; omega)
  have HR := hid (hr w)
  have HL := hid hle
  have HS : Hid ((Builtin.zeroCells (Value.agg #[.int .i64 0, .string ⟨#[]⟩, .int .i64 0]).cells n ++ Builtin.zeroCells (Value.agg #[.int .i64 0, .string ⟨#[]⟩, .int .i64 0]).cells (grownCap w n 0 39 - n)).size = grownCap w n 0 39 * 3) := hid (by
    rw [Array.size_append, size_zeroCells, size_zeroCells]
    show n * 3 + (grownCap w n 0 39 - n) * 3 = _
    omega)
  clear hr hle
  unfold maxLen at HL
  generalize grownCap w n 0 39 = C at *
  generalize (Builtin.zeroCells (Value.agg #[.int .i64 0, .string ⟨#[]⟩, .int .i64 0]).cells n ++ Builtin.zeroCells (Value.agg #[.int .i64 0, .string ⟨#[]⟩, .int .i64 0]).cells (C - n)) = Z at *
  have hl2 := HL.out
  go_enter Try.func43, Try.ntmps43
  go_wp2_with (at_builtin; refine Lib.wpList_append_run _ rfl _ _ _ _ rfl _ _ rfl rfl _ _ HR.out ?_)
  go_wp2
  go_ret
  refine ⟨_, rfl, ?_, (below_new _).drew⟩
  have h : (w.alloc (.cells Z 39)).ownsRow w.heap.size 39 3 (.slice (some ⟨w.heap.size, 0, none⟩) 0 C) 0 [] := World.ownsRow_made w Z C (Nat.le_refl _) (by unfold maxLen; exact HL.out) HS.out
  exact h

/-- The rows, one behind the other. -/
def catT (ts : List (Value × List L.Nd)) : List L.Nd := ts.flatMap (·.2)

theorem catT_step {ts : List (Value × List L.Nd)} {k : Nat} (h : k < ts.length) : catT (ts.take (k + 1)) = catT (ts.take k) ++ ts[k].2 := by
  unfold catT
  rw [List.take_succ_eq_append_getElem h, List.flatMap_append]
  simp

theorem catT_le {ts : List (Value × List L.Nd)} (h : ∀ t ∈ ts, t.2.length ≤ 20000) : (catT ts).length ≤ ts.length * 20000 := by
  induction ts with
  | nil => simp [catT]
  | cons t r ih =>
    have h1 := ih fun x hx => h x (by simp [hx])
    have h2 := h t (by simp)
    simp only [catT, List.flatMap_cons, List.length_append, List.length_cons] at h1 ⊢
    omega

set_option maxHeartbeats 4000000 in
set_option maxRecDepth 100000 in
theorem concat_any (ts : List (Value × List L.Nd)) (w : World) (G cap : Nat) (hG : G < w.heap.size) (hn : ts.length ≤ 10) (hR : ∀ t ∈ ts, Rd w w.heap.size t.1 t.2) (hs : ∀ t ∈ ts, t.2.length ≤ 20000) (h0 : ∀ t ∈ ts, t.2 ≠ [])
    (hc : ∀ (j : Nat) (h : j < ts.length), w.cell? ⟨G, j, none⟩ = some ts[j].1) (hpos : 0 < ts.length) :
    Calls Try.prog 19 #[.slice (some ⟨G, 0, none⟩) ts.length cap] w fun e w' => ∃ v', e = .returned v' ∧ Own w.heap.size v' (catT ts) w' ∧ Below w.heap.size w w' := by
  obtain ⟨i0, hi, hz0, hz1, hz2⟩ := info_parts infoNode
  have HR := hid hR
  have HS := hid hs
  have H0 := hid h0
  have HC := hid hc
  have hall : (catT ts).length ≤ 200000 := by have := catT_le hs; omega
  have hk : ∀ k, (catT (ts.take k)).length ≤ 200000 := fun k => by
    have h1 := catT_le (ts := ts.take k) (fun t ht => hs t (List.mem_of_mem_take ht))
    have h2 : (ts.take k).length ≤ 10 := by rw [List.length_take]; omega
    omega
  have hcp : 0 < (catT ts).length := by
    cases ts with
    | nil => simp at hpos
    | cons t r =>
      have := List.length_pos_iff.2 (h0 t (by simp))
      simp only [catT, List.flatMap_cons, List.length_append]
      omega
  have HK := hid hk
  clear hR hs h0 hc hk
  go_enter Try.func19, Try.ntmps19
  go_wp2
  go_loop [3, 11] (fun vs vi => ∃ k : Nat, vi = .int .i64 k ∧ k ≤ ts.length ∧ vs = .int .i64 (catT (ts.take k)).length) (fun _ vi => ts.length - (intOf vi).toNat)
  case atStart => exact ⟨0, rfl, by omega, by simp [catT]⟩
  case round =>
    obtain ⟨k, rfl, hk, rfl⟩ := hrel
    by_cases hlt : k < ts.length
    · have c0 := HC.out k hlt
      have hm := List.getElem_mem hlt
      have hst : (catT (ts.take (k + 1))).length = (catT (ts.take k)).length + ts[k].2.length := by rw [catT_step hlt, List.length_append]
      have hl1 := HK.out k
      have hl2 := HK.out (k + 1)
      obtain ⟨A, cp, hv, -⟩ := HR.out _ hm
      rw [hv] at c0
      have HST := hid hst
      clear hm hv hst
      generalize (catT (ts.take k)).length = z at *
      generalize ts[k].2.length = y at *
      have hxy : z + y ≤ 200000 := by have := HST.out; omega
      go_wp2
      go_round
      case rel => exact ⟨k + 1, by go_num, by omega, by rw [HST.out]; go_num⟩
      case measure => simp [intOf]; omega
    · obtain rfl : k = ts.length := by omega
      rw [List.take_length]
      have HGR := hid (grow_any (catT ts).length hcp (by omega) w)
      go_wp2_with fail
      refine (HGR.out).mono ?_
      rintro e w1 ⟨v1, rfl, hO1, hB1⟩
      go_wp2
      go_loopw [6, 27] (fun vs vi wr => ∃ k : Nat, vi = .int .i64 k ∧ k ≤ ts.length ∧ Own w.heap.size vs (catT (ts.take k)) wr ∧ Below w.heap.size w wr) (fun _ vi _ => ts.length - (intOf vi).toNat)
      case atStart => exact ⟨0, rfl, by omega, hO1, hB1⟩
      case round =>
        obtain ⟨k, rfl, hk, hO, hB⟩ := hrel
        by_cases hlt : k < ts.length
        · have c0 := (hB.cell (p := ⟨G, k, none⟩) hG).trans (HC.out k hlt)
          have hm := List.getElem_mem hlt
          have hst := catT_step hlt
          have hl1 := HK.out k
          have hl2 := HK.out (k + 1)
          rw [hst, List.length_append] at hl2
          obtain ⟨a, cp, hv, hsr⟩ : ∃ a cp, ts[k].1 = .slice (some a) ts[k].2.length cp ∧ ∀ j u, (cellsN ts[k].2)[j]? = some u → wr.cell? (a.add j) = some u := by
            rcases ((HR.out _ hm).below hB).src with ⟨_, hz⟩ | h
            · exact absurd hz (H0.out _ hm)
            · exact h
          rw [hv] at c0
          have HST := hid hst
          have HSR := hid hsr
          have hO1 : wr.ownsRow w.heap.size 39 3 u6 (catT (ts.take k)).length (cellsN (catT (ts.take k))) := hO
          have hbw := hB.size
          clear hm hv hst hsr hO
          generalize ts[k].2 = y at *
          generalize catT (ts.take k) = z at *
          go_wp2_with (at_builtin; refine wpList_append_own _ rfl _ _ 23 rfl w.heap.size 39 i0 (.agg #[.int .i64 0, .string ⟨#[]⟩, .int .i64 0]) 3 32 Try.underlying23 hi hz0 hz1 hz2 rfl (by decide) _ _ _ rfl hO1 a y.length cp (cellsN y) rfl (cellsN_len y) ?c1 ?c2 ?c3 ?c4 ?c5 ?_)
          case c1 => exact HSR.out
          case c2 => exact cellsN_one _
          case c3 => unfold maxLen; omega
          case c4 => omega
          case c5 => exact hbw
          intro v' w2 hown hgrow _
          have hB2 : Below w.heap.size w w2 := hB.grown hgrow hbw (fun k hk => (World.ownsRow.lt hO1 k hk).1)
          have hO2 := Own.append hown
          rw [← HST.out] at hO2
          clear hown hgrow hO1
          go_wp2
          go_roundw
          case rel => exact ⟨k + 1, by go_num, by omega, hO2, hB2⟩
          case measure => simp [intOf]; omega
        · obtain rfl : k = ts.length := by omega
          rw [List.take_length] at hO
          go_wp2
          go_ret
          exact ⟨_, rfl, hO, hB⟩

/-- A slice of one node that is written out. -/
theorem lit_own (w : World) (B : Nat) (hB : B ≤ w.heap.size) (k n : Int) (s : ByteArray) : Own B (.slice (some ⟨w.heap.size, 0, none⟩) 1 1) [⟨k, s, n⟩] (w.alloc (.cells #[.int .i64 k, .string s, .int .i64 n] 39)) :=
  World.ownsRow_lit w _ 1 hB (by unfold maxLen; omega) rfl

theorem Own.more {B B' : Nat} {v : Value} {l : List L.Nd} {w : World} (h : Own B v l w) (hB : B' ≤ B) : Own B' v l w :=
  ⟨h.1, h.2.imp id fun ⟨g, cp, cur, h1, h2, h3⟩ => ⟨g, cp, cur, h1, Nat.le_trans hB h2, h3⟩⟩

end Go.Proofs.Ytkkigdbinnfbfaa
end

section
/-
  The walks of ty.isRow, with slices.ContainsFunc and IndexFunc at texts. Conditions: texts of at most 2000000 bytes, at most 1000000 of them.
-/
namespace Go.Proofs.Ytkkigdbinnfbfaa.L
open Go

/-- May a node of this kind have n children of these labels, if none is there twice? -/
def isRow (kind : Int) (ss : List ByteArray) (n : Int) : Bool := (decide (kind = 6) || decide (kind = 7)) && (decide ((ss.length : Int) = n) && (numbered ⟨kind, ⟨#[]⟩, n⟩ && ss.all (isLabel kind)))

theorem anyS_step {p : ByteArray → Bool} {l : List ByteArray} {i : Nat} (h : i < l.length) : (l.drop i).any p = (p l[i] || (l.drop (i + 1)).any p) := by
  rw [List.drop_eq_getElem_cons h, List.any_cons]

end Go.Proofs.Ytkkigdbinnfbfaa.L
namespace Go.Proofs.Ytkkigdbinnfbfaa
open Go.RowKit

/-- A slice of texts that is read. -/
def RdS (w : World) (B : Nat) (v : Value) (ss : List ByteArray) : Prop :=
  ∃ (A : Option Addr) (cap : Nat), v = .slice A ss.length cap ∧ (ss ≠ [] → ∃ b o, A = some ⟨b, o, none⟩ ∧ b < B ∧ ∀ (i : Nat) (h : i < ss.length), w.cell? ⟨b, o + i, none⟩ = some (.string ss[i]))

theorem RdS.low {w w' : World} {B : Nat} {v : Value} {l : List ByteArray} (h : RdS w B v l) (hb : Below B w w') : RdS w' B v l := by
  obtain ⟨A, cap, hv, hc⟩ := h
  refine ⟨A, cap, hv, fun hn => ?_⟩
  obtain ⟨b, o, ha, hlt, hx⟩ := hc hn
  refine ⟨b, o, ha, hlt, fun i hi => ?_⟩
  rw [hb.cell (p := ⟨b, o + i, none⟩) hlt]
  exact hx i hi
theorem RdS.more {w : World} {B B' : Nat} {v : Value} {l : List ByteArray} (h : RdS w B v l) (hB : B ≤ B') : RdS w B' v l := by
  obtain ⟨A, cap, hv, hc⟩ := h
  refine ⟨A, cap, hv, fun hn => ?_⟩
  obtain ⟨b, o, ha, hlt, hx⟩ := hc hn
  exact ⟨b, o, ha, by omega, hx⟩
theorem RdS.below {w w' : World} {v : Value} {l : List ByteArray} (h : RdS w w.heap.size v l) (hb : Below w.heap.size w w') : RdS w' w'.heap.size v l := (h.low hb).more hb.size

end Go.Proofs.Ytkkigdbinnfbfaa
end
