/-
  The walk of term.Fresh. Conditions: a type of at most 20000 nodes, whose names have at most 2^63-1 bytes; a number of at most 10^15.
-/
import Derived.Test.YtkkigdbinnfbfaaTmW1
import Derived.Test.YtkkigdbinnfbfaaM2
import Derived.Test.YtkkigdbinnfbfaaTmA
namespace Go.Proofs.Ytkkigdbinnfbfaa.L
open Go
theorem dyns_take {t : List Nd} {k : Nat} (h : k < t.length) : dyns (t.take (k + 1)) = dyns (t.take k) + (if t[k].kind = 0 then 1 else 0) := by
  rw [List.take_succ_eq_append_getElem h]
  unfold dyns
  rw [List.countP_append]
  by_cases e : t[k].kind = 0 <;> simp [e]
/-- As far as it was walked. -/
def freshTo (t : List Nd) (n : Int) (k : Nat) : List Nd := (freshL t n).take k ++ t.drop k
theorem freshTo_zero (t : List Nd) (n : Int) : freshTo t n 0 = t := by simp [freshTo]
theorem freshTo_end (t : List Nd) (n : Int) : freshTo t n t.length = freshL t n := by simp [freshTo, ← fresh_len t n]
theorem freshTo_len (t : List Nd) (n : Int) {k : Nat} (h : k ≤ t.length) : (freshTo t n k).length = t.length := by simp [freshTo, fresh_len]; omega
theorem freshTo_succ (t : List Nd) (n : Int) {k : Nat} (h : k < t.length) : freshTo t n (k + 1) = (freshTo t n k).set k (if t[k].kind = 0 then ⟨8, t[k].name, n + dyns (t.take k)⟩ else t[k]) := by
  have hk : k < (freshL t n).length := by rw [fresh_len]; exact h
  have e1 := fresh_at t n k h
  rw [List.getElem?_eq_getElem hk] at e1
  have e1 := Option.some.inj e1
  unfold freshTo
  rw [List.take_succ_eq_append_getElem hk, e1, List.drop_eq_getElem_cons h, List.set_append, if_neg (show ¬k < ((freshL t n).take k).length by rw [List.length_take]; omega)]
  generalize (if t[k].kind = 0 then (⟨8, t[k].name, n + dyns (t.take k)⟩ : Nd) else t[k]) = z
  rw [List.length_take, Nat.min_eq_left (Nat.le_of_lt hk), Nat.sub_self, List.append_assoc]
  rfl
theorem freshTo_at (t : List Nd) (n : Int) {k : Nat} (h : k < t.length) : (freshTo t n k)[k]'(by rw [freshTo_len t n (Nat.le_of_lt h)]; exact h) = t[k] := by
  have hk : k < (freshL t n).length := by rw [fresh_len]; exact h
  unfold freshTo
  rw [List.getElem_append_right (by simp; omega)]
  simp [Nat.min_eq_left (Nat.le_of_lt hk)]
end Go.Proofs.Ytkkigdbinnfbfaa.L
namespace Go.Proofs.Ytkkigdbinnfbfaa
open Go.RowKit

theorem cellsN_set : ∀ (l : List L.Nd) (k : Nat) (y : L.Nd), k < l.length → cellsN (l.set k y) = (((cellsN l).set (k * 3) (.int .i64 y.kind)).set (k * 3 + 1) (.string y.name)).set (k * 3 + 2) (.int .i64 y.n)
  | [], _, _, h => by cases h
  | x :: l, 0, y, _ => rfl
  | x :: l, k + 1, y, h => by
    have ih := cellsN_set l k y (by simpa using h)
    have e0 : (k + 1) * 3 = k * 3 + 1 + 1 + 1 := by omega
    rw [e0]
    show _ :: _ :: _ :: cellsN (l.set k y) = _
    rw [ih]
    rfl
/-- A node written anew. -/
theorem Own.setNd {B g cap : Nat} {l : List L.Nd} {w : World} (h : Own B (.slice (some ⟨g, 0, none⟩) l.length cap) l w) {k : Nat} (hk : k < l.length) (y : L.Nd) :
    Own B (.slice (some ⟨g, 0, none⟩) l.length cap) (l.set k y) (((w.setCell ⟨g, k * 3, none⟩ (.int .i64 y.kind)).setCell ⟨g, k * 3 + 1, none⟩ (.string y.name)).setCell ⟨g, k * 3 + 2, none⟩ (.int .i64 y.n)) := by
  have a := (World.ownsRow.stored h (k * 3) (.int .i64 y.kind)).1
  have b := (World.ownsRow.stored a (k * 3 + 1) (.string y.name)).1
  have c := (World.ownsRow.stored b (k * 3 + 2) (.int .i64 y.n)).1
  unfold Own
  rw [cellsN_set l k y hk, List.length_set]
  exact c

def FreshPost (t : List L.Nd) (n : Int) (w : World) (e : Ending) (w' : World) : Prop := ∃ v', e = .returned (.tuple #[v', .int .i64 (n + L.dyns t)]) ∧ Own w.heap.size v' (L.freshL t n) w' ∧ Below w.heap.size w w'

end Go.Proofs.Ytkkigdbinnfbfaa
