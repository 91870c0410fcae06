/-
  What TermCanon asks of canonical numbers. No program's walk.
-/
import Derived.Test.YtmifcjiakiddkaaTmK2
import Derived.Test.YtmifcjiakiddkaaTmK3
import Derived.Test.YtmifcjiakiddkaaTmW4
namespace Go.Proofs.Ytmifcjiakiddkaa.L
open Go
theorem canons_at : ∀ (l : List (List Nd)) (s : List Int) (i : Nat) (h : i < l.length), (canonLs s l)[i]? = some (canonL (seenLs s (l.take i)) l[i]).1
  | [], _, _, h => by cases h
  | t :: l, s, 0, _ => rfl
  | t :: l, s, i + 1, h => by
    have := canons_at l (canonL s t).2 i (by simpa using h)
    rw [canonLs, List.getElem?_cons_succ, this]
    rfl
theorem canon_take (s : List Int) (t : List Nd) (k : Nat) : (canonL s t).1.take k = (canonL s (t.take k)).1 := by
  conv => lhs; rw [← List.take_append_drop k t, canon_app]
  have hl : (canonL s (t.take k)).1.length = min k t.length := by rw [canon_len, List.length_take]
  simp only
  by_cases h : k ≤ t.length
  · rw [List.take_append_of_le_length (by omega), List.take_of_length_le (by omega)]
  · rw [List.take_of_length_le (by rw [List.length_append, hl, canon_len, List.length_drop]; omega), List.drop_eq_nil_of_le (by omega), canon_nil, List.append_nil]
theorem canon_at {s : List Int} {t : List Nd} {k : Nat} (h : k < t.length) : (canonL s t).1[k]? = some (if varN t[k] = true then ⟨t[k].kind, t[k].name, ((seeN (seenTo s t k) t[k].n).idxOf t[k].n : Nat) + 1⟩ else t[k]) := by
  have e1 : (canonL s t).1[k]? = ((canonL s t).1.take (k + 1))[k]? := by rw [List.getElem?_take_of_lt (by omega)]
  rw [e1, canon_take, List.take_succ_eq_append_getElem h, canon_app]
  have hl : (canonL s (t.take k)).1.length = k := by rw [canon_len, List.length_take]; omega
  rw [List.getElem?_append_right (by omega), hl, Nat.sub_self]
  by_cases hv : varN t[k] = true
  · rw [if_pos hv, canon_var hv]; rfl
  · rw [if_neg hv, canon_not hv]; rfl
/-! ### Moved numbers -/
def mvTo (by_ : Int) (t : List Nd) (k : Nat) : List Nd := (t.take k).map (mvN (· + by_)) ++ t.drop k
theorem mvTo_zero (b : Int) (t : List Nd) : mvTo b t 0 = t := by simp [mvTo]
theorem mvTo_end (b : Int) (t : List Nd) : mvTo b t t.length = t.map (mvN (· + b)) := by simp [mvTo]
theorem mvTo_len (b : Int) (t : List Nd) (k : Nat) : (mvTo b t k).length = t.length := by simp [mvTo]; omega
theorem mvTo_at (b : Int) (t : List Nd) {k : Nat} (h : k < t.length) : (mvTo b t k)[k]'(by rw [mvTo_len]; exact h) = t[k] := by
  unfold mvTo
  rw [List.getElem_append_right (by simp; omega)]
  simp [Nat.min_eq_left (Nat.le_of_lt h)]
theorem mvTo_succ (b : Int) (t : List Nd) {k : Nat} (h : k < t.length) : mvTo b t (k + 1) = (mvTo b t k).set k (mvN (· + b) t[k]) := by
  unfold mvTo
  rw [List.take_succ_eq_append_getElem h, List.drop_eq_getElem_cons h, List.set_append, if_neg (by simp; omega), List.map_append]
  generalize t[k] = x
  simp [Nat.min_eq_left (Nat.le_of_lt h)]
theorem mv_inj (b : Int) : ∀ a c : Int, (· + b) a = (· + b) c → a = c := fun a c h => by
  simp only at h
  omega
end Go.Proofs.Ytmifcjiakiddkaa.L
namespace Go.Proofs.Ytmifcjiakiddkaa
open Go.RowKit
theorem canon_in : ∀ (t : List L.Nd) (s : List Int), (∀ y ∈ t, InN y) → s.length + t.length ≤ 1000000 → ∀ y ∈ (L.canonL s t).1, InN y
  | [], s, _, _, y, hy => by cases hy
  | x :: t, s, h, hl, y, hy => by
    simp only [List.length_cons] at hl
    by_cases hv : L.varN x = true
    · rw [L.canon_var hv] at hy
      have hs : (L.seeN s x.n).length ≤ s.length + 1 := by unfold L.seeN; split <;> simp
      simp only [List.mem_cons] at hy
      rcases hy with rfl | hy
      · have hi := List.idxOf_le_length (a := x.n) (l := L.seeN s x.n)
        exact ⟨by simp only; omega, (h x (by simp)).2.1, by simp only; omega⟩
      · exact canon_in t _ (fun z hz => h z (by simp [hz])) (by omega) y hy
    · rw [L.canon_not hv] at hy
      simp only [List.mem_cons] at hy
      rcases hy with rfl | hy
      · exact h _ (by simp)
      · exact canon_in t _ (fun z hz => h z (by simp [hz])) (by omega) y hy
theorem canons_in (l : List (List L.Nd)) (hl : l.length ≤ 100) (h : ∀ t ∈ l, t.length ≤ 1000 ∧ ∀ y ∈ t, InN y) : ∀ t ∈ L.canonLs [] l, t.length ≤ 1000 ∧ ∀ y ∈ t, InN y := by
  intro t ht
  obtain ⟨i, hi, rfl⟩ := List.mem_iff_getElem.1 ht
  have hi2 : i < l.length := by rw [L.canons_len] at hi; exact hi
  have e := L.canons_at l [] i hi2
  rw [List.getElem?_eq_getElem hi] at e
  rw [Option.some.inj e]
  have hm := h _ (List.getElem_mem hi2)
  have hs := L.seens_len (l.take i) [] (fun u hu => (h u (List.take_subset _ _ hu)).1)
  rw [List.length_take] at hs
  simp only [List.length_nil] at hs
  exact ⟨by rw [L.canon_len]; exact hm.1, canon_in _ _ hm.2 (by omega)⟩
end Go.Proofs.Ytmifcjiakiddkaa
