/-
  The walk of term.Fresh. Conditions: a type of at most 20000 nodes, whose names have at most 2^63-1 bytes; a number of at most 10^15.
-/
import Derived.Test.YtmifcjiakiddkaaTmW1
import Derived.Test.YtmifcjiakiddkaaM2
import Derived.Test.YtmifcjiakiddkaaTmA
namespace Go.Proofs.Ytmifcjiakiddkaa.L
open Go
theorem dyns_take {t : List Nd} {k : Nat} (h : k < t.length) : dyns (t.take (k + 1)) = dyns (t.take k) + (if t[k].kind = 0 then 1 else 0) := by
  rw [List.take_succ_eq_append_getElem h]
  unfold dyns
  rw [List.countP_append]
  by_cases e : t[k].kind = 0 <;> simp [e]
/-- As far as it was walked. -/
def freshTo (t : List Nd) (n : Int) (k : Nat) : List Nd := (freshL t n).take k ++ t.drop k
theorem freshTo_zero (t : List Nd) (n : Int) : freshTo t n 0 = t := by simp [freshTo]
theorem freshTo_end (t : List Nd) (n : Int) : freshTo t n t.length = freshL t n := by simp [freshTo, ← fresh_len t n]
theorem freshTo_len (t : List Nd) (n : Int) {k : Nat} (h : k ≤ t.length) : (freshTo t n k).length = t.length := by simp [freshTo, fresh_len]; omega
theorem freshTo_succ (t : List Nd) (n : Int) {k : Nat} (h : k < t.length) : freshTo t n (k + 1) = (freshTo t n k).set k (if t[k].kind = 0 then ⟨8, t[k].name, n + dyns (t.take k)⟩ else t[k]) := by
  have hk : k < (freshL t n).length := by rw [fresh_len]; exact h
  have e1 := fresh_at t n k h
  rw [List.getElem?_eq_getElem hk] at e1
  have e1 := Option.some.inj e1
  unfold freshTo
  rw [List.take_succ_eq_append_getElem hk, e1, List.drop_eq_getElem_cons h, List.set_append, if_neg (show ¬k < ((freshL t n).take k).length by rw [List.length_take]; omega)]
  generalize (if t[k].kind = 0 then (⟨8, t[k].name, n + dyns (t.take k)⟩ : Nd) else t[k]) = z
  rw [List.length_take, Nat.min_eq_left (Nat.le_of_lt hk), Nat.sub_self, List.append_assoc]
  rfl
theorem freshTo_at (t : List Nd) (n : Int) {k : Nat} (h : k < t.length) : (freshTo t n k)[k]'(by rw [freshTo_len t n (Nat.le_of_lt h)]; exact h) = t[k] := by
  have hk : k < (freshL t n).length := by rw [fresh_len]; exact h
  unfold freshTo
  rw [List.getElem_append_right (by simp; omega)]
  simp [Nat.min_eq_left (Nat.le_of_lt hk)]
end Go.Proofs.Ytmifcjiakiddkaa.L
namespace Go.Proofs.Ytmifcjiakiddkaa
open Go.RowKit

theorem cellsN_set : ∀ (l : List L.Nd) (k : Nat) (y : L.Nd), k < l.length → cellsN (l.set k y) = (((cellsN l).set (k * 3) (.int .i64 y.kind)).set (k * 3 + 1) (.string y.name)).set (k * 3 + 2) (.int .i64 y.n)
  | [], _, _, h => by cases h
  | x :: l, 0, y, _ => rfl
  | x :: l, k + 1, y, h => by
    have ih := cellsN_set l k y (by simpa using h)
    have e0 : (k + 1) * 3 = k * 3 + 1 + 1 + 1 := by omega
    rw [e0]
    show _ :: _ :: _ :: cellsN (l.set k y) = _
    rw [ih]
    rfl
/-- A node written anew. -/
theorem Own.setNd {B g cap : Nat} {l : List L.Nd} {w : World} (h : Own B (.slice (some ⟨g, 0, none⟩) l.length cap) l w) {k : Nat} (hk : k < l.length) (y : L.Nd) :
    Own B (.slice (some ⟨g, 0, none⟩) l.length cap) (l.set k y) (((w.setCell ⟨g, k * 3, none⟩ (.int .i64 y.kind)).setCell ⟨g, k * 3 + 1, none⟩ (.string y.name)).setCell ⟨g, k * 3 + 2, none⟩ (.int .i64 y.n)) := by
  have a := (World.ownsRow.stored h (k * 3) (.int .i64 y.kind)).1
  have b := (World.ownsRow.stored a (k * 3 + 1) (.string y.name)).1
  have c := (World.ownsRow.stored b (k * 3 + 2) (.int .i64 y.n)).1
  unfold Own
  rw [cellsN_set l k y hk, List.length_set]
  exact c

def FreshPost (t : List L.Nd) (n : Int) (w : World) (e : Ending) (w' : World) : Prop := ∃ v', e = .returned (.tuple #[v', .int .i64 (n + L.dyns t)]) ∧ Own w.heap.size v' (L.freshL t n) w' ∧ Below w.heap.size w w'

set_option maxHeartbeats 4000000 in
set_option maxRecDepth 100000 in
theorem fresh_any (t : List L.Nd) (h0 : t ≠ []) (hl : t.length ≤ 20000) (n : Int) (hn0 : 0 ≤ n) (hn1 : n ≤ 1000000000000000) (v : Value) (w : World) (hx : Rd w w.heap.size v t) :
    Calls Try.prog 10 #[v, .int .i64 n] w (FreshPost t n w) := by
  have HX := hid hx
  have HC := hid (clone_any t h0 hl v w hx)
  obtain ⟨A, cap, rfl, hl1, hl2⟩ := hx.len
  unfold maxLen at hl2
  clear hx
  have hdl : Hid (∀ k, L.dyns (t.take k) ≤ 20000) := hid fun k => Nat.le_trans (List.countP_le_length) (by simp; omega)
  go_enter Try.func10, Try.ntmps10
  go_wp2_with fail
  refine (HC.out).mono ?_
  rintro e w1 ⟨g, cap2, rfl, hO, hB⟩
  have HO := hid hO
  have HB := hid hB
  clear hO hB HC
  go_wp2
  go_loopw [1, 13] (fun v1 v13 wr => ∃ k : Nat, v13 = .int .i64 k ∧ k ≤ t.length ∧ v1 = .int .i64 (n + L.dyns (t.take k)) ∧ Hid (Own w.heap.size (.slice (some ⟨g, 0, none⟩) t.length cap2) (L.freshTo t n k) wr) ∧ Hid (Below w.heap.size w wr)) (fun _ v13 _ => t.length - (intOf v13).toNat)
  case atStart => exact ⟨0, rfl, by omega, by simp [L.dyns], hid (by rw [L.freshTo_zero]; exact HO.out), HB⟩
  case round =>
    obtain ⟨k, rfl, hk, rfl, hO, hBr⟩ := hrel
    by_cases hlt : k < t.length
    · obtain ⟨b, o, rfl, hb, c0, c1, c2⟩ := ((HX.out.low hBr.out)).at hlt
      have hS := L.freshTo_succ t n hlt
      have hLn := L.freshTo_len t n (Nat.le_of_lt hlt)
      have hD := L.dyns_take hlt
      have hd := hdl.out k
      have HS := hid hS
      have HD := hid hD
      have hON := hid (show Own w.heap.size (.slice (some ⟨g, 0, none⟩) (L.freshTo t n k).length cap2) (L.freshTo t n k) wr from by rw [hLn]; exact hO.out)
      have HLN := hid hLn
      have HSE := hid (show (L.freshTo t n k).set k t[k] = L.freshTo t n k from by
        have h2 : k < (L.freshTo t n k).length := by omega
        conv => lhs; rw [← L.freshTo_at t n hlt]
        exact List.set_getElem_self h2)
      clear hS hLn hD hO
      generalize t[k] = x at *
      generalize L.dyns (t.take k) = d at *
      by_cases hx : x.kind = 0
      · obtain ⟨W, hW⟩ : ∃ W, wr.alloc (.cells #[.int .i64 0, .string x.name, .int .i64 x.n] 34) = W := ⟨_, rfl⟩
        have hOW := hON.out.alloc (.cells #[.int .i64 0, .string x.name, .int .i64 x.n] 34)
        have hBW := hBr.out.alloc (by have := hBr.out.size; omega) (.cells #[.int .i64 0, .string x.name, .int .i64 x.n] 34)
        rw [hW] at hOW hBW
        have hg := (Own.lt hOW g rfl)
        have hk3 : k < (L.freshTo t n k).length := by rw [HLN.out]; exact hlt
        have hl3 := cellsN_len (L.freshTo t n k)
        have a1 := (World.ownsRow.stored hOW (k * 3) (.int .i64 8)).1
        have a2 := (World.ownsRow.stored a1 (k * 3 + 1) (.string x.name)).1
        obtain ⟨z0, q0⟩ : ∃ z, W.cell? ⟨g, k * 3, none⟩ = some z := ⟨_, (World.ownsRow.cellAt hOW (k * 3) (by omega)).trans (List.getElem?_eq_getElem (by omega))⟩
        obtain ⟨z1, q1⟩ : ∃ z, (W.setCell ⟨g, k * 3, none⟩ (.int .i64 8)).cell? ⟨g, k * 3 + 1, none⟩ = some z := ⟨_, (World.ownsRow.cellAt a1 (k * 3 + 1) (by omega)).trans (List.getElem?_eq_getElem (by simp; omega))⟩
        obtain ⟨z2, q2⟩ : ∃ z, ((W.setCell ⟨g, k * 3, none⟩ (.int .i64 8)).setCell ⟨g, k * 3 + 1, none⟩ (.string x.name)).cell? ⟨g, k * 3 + 2, none⟩ = some z := ⟨_, (World.ownsRow.cellAt a2 (k * 3 + 2) (by omega)).trans (List.getElem?_eq_getElem (by simp; omega))⟩
        have f0 := World.ownsRow.frozenAt hOW (k * 3)
        have f1 := World.ownsRow.frozenAt a1 (k * 3 + 1)
        have f2 := World.ownsRow.frozenAt a2 (k * 3 + 2)
        have HW := hid hW
        rw [← hW] at q0 q1 q2 f0 f1 f2
        have R1 := hid (hOW.setNd hk3 ⟨8, x.name, n + d⟩)
        have R2 := hid (((hBW.setCell (p := ⟨g, k * 3, none⟩) hg.1 (.int .i64 8)).setCell (p := ⟨g, k * 3 + 1, none⟩) hg.1 (.string x.name)).setCell (p := ⟨g, k * 3 + 2, none⟩) hg.1 (.int .i64 (n + d)))
        have e2 := hid (HD.out.trans (by rw [if_pos hx]))
        clear hW hOW hBW hg hON hBr hk3 a1 a2 hl3
        go_wp2_with fail
        refine ⟨⟨k + 1, by go_num, by omega, by rw [e2.out]; simp [Int.add_assoc], hid ?_, hid ?_⟩, by simp [intOf]; omega⟩
        · rw [HW.out, HS.out, if_pos hx, ← HLN.out]
          exact R1.out
        · rw [HW.out]
          exact R2.out
      · have e1 := hid ((HS.out.trans (by rw [if_neg hx])).trans HSE.out)
        have e2 := hid (HD.out.trans (by rw [if_neg hx]))
        have R1 : Hid (Own w.heap.size (.slice (some ⟨g, 0, none⟩) t.length cap2) (L.freshTo t n (k + 1)) (wr.alloc (.cells #[.int .i64 x.kind, .string x.name, .int .i64 x.n] 34))) := hid (by
          rw [e1.out, ← HLN.out]
          exact hON.out.alloc _)
        have R2 := hid (hBr.out.alloc (by have := hBr.out.size; omega) (.cells #[.int .i64 x.kind, .string x.name, .int .i64 x.n] 34))
        clear hON hBr HSE HS
        go_wp2_with fail
        go_round
        case rel => exact ⟨k + 1, by go_num, by omega, by rw [e2.out, Nat.add_zero], R1, R2⟩
        case measure => simp [intOf]; omega
    · have ek : k = t.length := by omega
      subst ek
      have EX : Hid (FreshPost t n w (.returned (.tuple #[.slice (some ⟨g, 0, none⟩) t.length cap2, .int .i64 (n + L.dyns (t.take t.length))])) wr) := hid ⟨_, by rw [List.take_length], by rw [← L.freshTo_end]; exact hO.out, hBr.out⟩
      generalize L.dyns (t.take t.length) = d at *
      clear hO hBr
      go_wp2
      refine bodyPost_ret (v := .tuple #[.slice (some ⟨g, 0, none⟩) t.length cap2, .int .i64 (n + d)]) (by simp [results, Try.results10, go_sem]) rfl ?_
      exact EX.out
end Go.Proofs.Ytmifcjiakiddkaa
