/-
  Canonical numbers: moved numbers have the same canon, the canon's canon is the canon, its numbers go from 1 on. No program.
-/
import Derived.Test.YtmifcjiakiddkaaM1
namespace Go.Proofs.Ytmifcjiakiddkaa.L
open Go

/-- The numbers seen, with one more, if it is new. -/
def seeN (s : List Int) (n : Int) : List Int := if n ∈ s then s else s ++ [n]
def canonL : List Int → List Nd → List Nd × List Int
  | s, [] => ([], s)
  | s, x :: r => if varN x = true then
      (⟨x.kind, x.name, ((seeN s x.n).idxOf x.n : Nat) + 1⟩ :: (canonL (seeN s x.n) r).1, (canonL (seeN s x.n) r).2)
    else (x :: (canonL s r).1, (canonL s r).2)
def canonLs : List Int → List (List Nd) → List (List Nd)
  | _, [] => []
  | s, t :: r => (canonL s t).1 :: canonLs (canonL s t).2 r
theorem canon_nil (s : List Int) : canonL s [] = ([], s) := rfl
theorem canon_var {x : Nd} (h : varN x = true) (s : List Int) (r : List Nd) : canonL s (x :: r) = (⟨x.kind, x.name, ((seeN s x.n).idxOf x.n : Nat) + 1⟩ :: (canonL (seeN s x.n) r).1, (canonL (seeN s x.n) r).2) := by
  rw [canonL, if_pos h]
theorem canon_not {x : Nd} (h : ¬varN x = true) (s : List Int) (r : List Nd) : canonL s (x :: r) = (x :: (canonL s r).1, (canonL s r).2) := by
  rw [canonL, if_neg h]
theorem canon_len : ∀ (t : List Nd) (s : List Int), (canonL s t).1.length = t.length
  | [], _ => rfl
  | x :: t, s => by
    by_cases h : varN x = true
    · rw [canon_var h]; simp [canon_len t]
    · rw [canon_not h]; simp [canon_len t]
theorem canons_len : ∀ (l : List (List Nd)) (s : List Int), (canonLs s l).length = l.length
  | [], _ => rfl
  | t :: l, s => by rw [canonLs]; simp [canons_len l]

/-! ### Numbers moved -/
/-- The variables' numbers told by f. -/
def mvN (f : Int → Int) (x : Nd) : Nd := if varN x = true then ⟨x.kind, x.name, f x.n⟩ else x
theorem mv_var (f : Int → Int) (x : Nd) : varN (mvN f x) = varN x := by
  unfold mvN
  split <;> rfl
theorem idx_map {f : Int → Int} (hf : ∀ a b, f a = f b → a = b) (n : Int) : ∀ s : List Int, (s.map f).idxOf (f n) = s.idxOf n
  | [] => rfl
  | a :: s => by
    rw [List.map_cons, List.idxOf_cons, List.idxOf_cons, idx_map hf n s]
    by_cases e : a = n
    · subst e; simp
    · have : f a ≠ f n := fun h => e (hf _ _ h)
      rw [beq_false_of_ne this, beq_false_of_ne e]
theorem see_map {f : Int → Int} (hf : ∀ a b, f a = f b → a = b) (s : List Int) (n : Int) : seeN (s.map f) (f n) = (seeN s n).map f := by
  have : f n ∈ s.map f ↔ n ∈ s := by
    rw [List.mem_map]
    constructor
    · rintro ⟨a, ha, e⟩
      rw [← hf _ _ e]; exact ha
    · exact fun h => ⟨n, h, rfl⟩
  unfold seeN
  by_cases h : n ∈ s
  · rw [if_pos h, if_pos (this.2 h)]
  · rw [if_neg h, if_neg (fun g => h (this.1 g))]
    simp
theorem canon_moved {f : Int → Int} (hf : ∀ a b, f a = f b → a = b) : ∀ (t : List Nd) (s : List Int), canonL (s.map f) (t.map (mvN f)) = ((canonL s t).1, (canonL s t).2.map f)
  | [], s => by simp [canon_nil]
  | x :: t, s => by
    rw [List.map_cons]
    by_cases h : varN x = true
    · rw [canon_var (by rw [mv_var]; exact h), canon_var h]
      have e : mvN f x = ⟨x.kind, x.name, f x.n⟩ := by unfold mvN; rw [if_pos h]
      rw [e]
      simp only
      rw [see_map hf, canon_moved hf t, idx_map hf]
    · rw [canon_not (by rw [mv_var]; exact h), canon_not h, canon_moved hf t]
      have e : mvN f x = x := by unfold mvN; rw [if_neg h]
      rw [e]
theorem canons_moved {f : Int → Int} (hf : ∀ a b, f a = f b → a = b) : ∀ (l : List (List Nd)) (s : List Int), canonLs (s.map f) (l.map (·.map (mvN f))) = canonLs s l
  | [], _ => rfl
  | t :: l, s => by
    rw [List.map_cons, canonLs, canonLs, canon_moved hf, canons_moved hf l]

/-! ### The canon's canon -/
def iota (m : Nat) : List Int := (List.range m).map fun i : Nat => (i : Int) + 1
theorem iota_succ (m : Nat) : iota (m + 1) = iota m ++ [(m : Int) + 1] := by
  unfold iota
  rw [List.range_succ]
  simp
theorem iota_mem (m : Nat) (n : Int) : n ∈ iota m ↔ 1 ≤ n ∧ n ≤ m := by
  unfold iota
  rw [List.mem_map]
  constructor
  · rintro ⟨a, ha, e⟩
    have := List.mem_range.1 ha
    omega
  · intro h
    exact ⟨(n - 1).toNat, List.mem_range.2 (by omega), by omega⟩
theorem iota_idx : ∀ (m i : Nat), i < m → (iota m).idxOf ((i : Int) + 1) = i
  | 0, _, h => by omega
  | m + 1, i, h => by
    rw [iota_succ]
    by_cases e : i < m
    · rw [List.idxOf_append, if_pos ((iota_mem _ _).2 (by omega)), iota_idx m i e]
    · obtain rfl : i = m := by omega
      rw [List.idxOf_append, if_neg (fun g => by have := (iota_mem _ _).1 g; omega)]
      simp [iota]
theorem see_iota {s : List Int} (n : Int) : seeN (iota s.length) (((seeN s n).idxOf n : Nat) + 1) = iota (seeN s n).length ∧ (seeN s n).idxOf n < (seeN s n).length := by
  unfold seeN
  by_cases h : n ∈ s
  · have := List.idxOf_lt_length_of_mem h
    rw [if_pos h, if_pos ((iota_mem _ _).2 (by omega))]
    exact ⟨rfl, this⟩
  · rw [if_neg h, List.idxOf_append, if_neg h]
    have e : List.idxOf n [n] = 0 := by simp
    rw [e, if_neg (fun g => by have := (iota_mem _ _).1 g; omega)]
    simp [iota_succ]
theorem canon_again : ∀ (t : List Nd) (s : List Int), canonL (iota s.length) (canonL s t).1 = ((canonL s t).1, iota (canonL s t).2.length)
  | [], s => by simp [canon_nil]
  | x :: t, s => by
    by_cases h : varN x = true
    · rw [canon_var h]
      simp only
      rw [canon_var (by exact h)]
      simp only
      rw [(see_iota x.n).1, canon_again t, iota_idx _ _ (see_iota x.n).2]
    · rw [canon_not h]
      simp only
      rw [canon_not h, canon_again t]
theorem canons_again : ∀ (l : List (List Nd)) (s : List Int), canonLs (iota s.length) (canonLs s l) = canonLs s l
  | [], _ => rfl
  | t :: l, s => by
    rw [canonLs, canonLs, canon_again, canons_again l]
theorem canons_own (l : List (List Nd)) : canonLs [] (canonLs [] l) = canonLs [] l := by simpa [iota] using canons_again l []
/-! ### A node of the canon -/
theorem see_one (s : List Int) (n : Int) : ((seeN s n).idxOf n < s.length ∧ (seeN s n).length = s.length) ∨ ((seeN s n).idxOf n = s.length ∧ (seeN s n).length = s.length + 1) := by
  unfold seeN
  by_cases h : n ∈ s
  · rw [if_pos h]
    exact Or.inl ⟨List.idxOf_lt_length_of_mem h, rfl⟩
  · rw [if_neg h, List.idxOf_append, if_neg h]
    exact Or.inr (by simp)
end Go.Proofs.Ytmifcjiakiddkaa.L
