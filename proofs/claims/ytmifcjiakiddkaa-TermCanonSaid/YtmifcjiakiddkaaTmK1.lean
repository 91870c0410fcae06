/-
  Canonical numbers, as far as they were told; the map that tells them. No program's walk.
-/
import Derived.Test.YtmifcjiakiddkaaTmB
import Derived.Test.YtmifcjiakiddkaaTmE1
namespace Go.Proofs.Ytmifcjiakiddkaa.L
open Go
theorem canon_app : ∀ (a b : List Nd) (s : List Int), canonL s (a ++ b) = ((canonL s a).1 ++ (canonL (canonL s a).2 b).1, (canonL (canonL s a).2 b).2)
  | [], b, s => rfl
  | x :: a, b, s => by
    by_cases h : varN x = true
    · rw [List.cons_append, canon_var h, canon_var h, canon_app a b]; rfl
    · rw [List.cons_append, canon_not h, canon_not h, canon_app a b]; rfl
/-- The numbers seen after these types. -/
def seenLs : List Int → List (List Nd) → List Int
  | s, [] => s
  | s, t :: r => seenLs (canonL s t).2 r
theorem canons_snoc : ∀ (l : List (List Nd)) (t : List Nd) (s : List Int), canonLs s (l ++ [t]) = canonLs s l ++ [(canonL (seenLs s l) t).1] ∧ seenLs s (l ++ [t]) = (canonL (seenLs s l) t).2
  | [], t, s => ⟨rfl, rfl⟩
  | x :: l, t, s => by
    obtain ⟨h1, h2⟩ := canons_snoc l t (canonL s x).2
    exact ⟨by rw [List.cons_append, canonLs, h1]; rfl, by rw [List.cons_append, seenLs, h2]; rfl⟩
/-- A type, as far as its numbers were told. -/
def canonTo (s : List Int) (t : List Nd) (k : Nat) : List Nd := (canonL s (t.take k)).1 ++ t.drop k
def seenTo (s : List Int) (t : List Nd) (k : Nat) : List Int := (canonL s (t.take k)).2
theorem canonTo_zero (s : List Int) (t : List Nd) : canonTo s t 0 = t := by simp [canonTo, canon_nil]
theorem seenTo_zero (s : List Int) (t : List Nd) : seenTo s t 0 = s := by simp [seenTo, canon_nil]
theorem canonTo_end (s : List Int) (t : List Nd) : canonTo s t t.length = (canonL s t).1 := by simp [canonTo]
theorem seenTo_end (s : List Int) (t : List Nd) : seenTo s t t.length = (canonL s t).2 := by simp [seenTo]
theorem canonTo_len (s : List Int) (t : List Nd) (k : Nat) : (canonTo s t k).length = t.length := by simp [canonTo, canon_len]; omega
theorem seen_var {s : List Int} {t : List Nd} {k : Nat} (h : k < t.length) (hv : varN t[k] = true) : seenTo s t (k + 1) = seeN (seenTo s t k) t[k].n ∧ canonTo s t (k + 1) = (canonTo s t k).set k ⟨t[k].kind, t[k].name, ((seeN (seenTo s t k) t[k].n).idxOf t[k].n : Nat) + 1⟩ := by
  have hl : (canonL s (t.take k)).1.length = k := by rw [canon_len, List.length_take]; omega
  unfold seenTo canonTo
  rw [List.take_succ_eq_append_getElem h, canon_app, canon_var hv]
  refine ⟨rfl, ?_⟩
  rw [List.drop_eq_getElem_cons h, List.set_append, if_neg (by omega), hl, Nat.sub_self]
  generalize t[k] = x
  simp [canon_nil]
theorem seen_not {s : List Int} {t : List Nd} {k : Nat} (h : k < t.length) (hv : ¬varN t[k] = true) : seenTo s t (k + 1) = seenTo s t k ∧ canonTo s t (k + 1) = canonTo s t k := by
  unfold seenTo canonTo
  rw [List.take_succ_eq_append_getElem h, canon_app, canon_not hv]
  refine ⟨rfl, ?_⟩
  rw [List.drop_eq_getElem_cons h]
  simp [canon_nil]
theorem seen_len (t : List Nd) : ∀ s : List Int, (canonL s t).2.length ≤ s.length + t.length := by
  induction t with
  | nil => intro s; simp [canon_nil]
  | cons x t ih =>
    intro s
    by_cases h : varN x = true
    · rw [canon_var h]
      have := ih (seeN s x.n)
      have h2 : (seeN s x.n).length ≤ s.length + 1 := by unfold seeN; split <;> simp
      simp only [List.length_cons]
      omega
    · rw [canon_not h]
      have := ih s
      simp only [List.length_cons]
      omega
/-- D tells each seen number's place, from 1 on. -/
structure NumD (D : DataW Unit) (s : List Int) : Prop where
  at_ : ∀ n : Int, D.atKey (.int .i64 n) (.lit (.int .i64 0)) = .lit (.int .i64 (if n ∈ s then (s.idxOf n : Nat) + 1 else 0))
  has : ∀ n : Int, Go.Maps.has D (.int .i64 n) = decide (n ∈ s)
  size : Go.Maps.size D = s.length
theorem numD_nil : NumD (.map []) [] := ⟨fun _ => rfl, fun _ => rfl, rfl⟩
theorem numD_put {D : DataW Unit} {s : List Int} (ht : Go.Maps.Tidy D) (hm : Go.Maps.IsMap D) (h : NumD D s) {n : Int} (hn : n ∉ s) : NumD (D.put (.int .i64 n) (.lit (.int .i64 ((s.length : Nat) + 1)))) (s ++ [n]) := by
  refine ⟨fun m => ?_, fun m => ?_, ?_⟩
  · by_cases e : m = n
    · subst e
      rw [Go.Maps.atKey_put_same hm (show WideAt.IsKeyLit (Lit.int .i64 m) from trivial), if_pos (by simp), List.idxOf_append, if_neg hn]
      simp
    · rw [Go.Maps.atKey_put_other (fun g => e (by injection g)), h.at_]
      by_cases hm2 : m ∈ s
      · rw [if_pos hm2, if_pos (by simp [hm2]), List.idxOf_append, if_pos hm2]
      · rw [if_neg hm2, if_neg (by simp [hm2, e])]
  · by_cases e : m = n
    · subst e
      rw [Go.Maps.has_put_same hm (show WideAt.IsKeyLit (Lit.int .i64 m) from trivial)]
      simp
    · rw [Go.Maps.has_put_other (fun g => e (by injection g)), h.has]
      simp [e]
  · rw [Go.Maps.size_put ht, h.has, decide_eq_false hn, if_neg (by simp), h.size]
    simp
end Go.Proofs.Ytmifcjiakiddkaa.L
