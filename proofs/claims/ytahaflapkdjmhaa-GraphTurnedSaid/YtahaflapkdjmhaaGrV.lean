/-
  How many steps the iterative walk has left; no program. Conditions: nodes below n.
-/
import Derived.Test.YtahaflapkdjmhaaGrD
namespace Go.Proofs.Ytahaflapkdjmhaa.Gr

/-- How many links of the nodes below n have not been taken. -/
def remT (nx : Nat → List Nat) (tk : Nat → Nat) : Nat → Nat
  | 0 => 0
  | n + 1 => remT nx tk n + ((nx n).length - tk n)

theorem remT_same (nx : Nat → List Nat) (tk tk' : Nat → Nat) : ∀ n, (∀ i, i < n → tk i = tk' i) → remT nx tk n = remT nx tk' n
  | 0, _ => rfl
  | n + 1, h => by rw [remT, remT, remT_same nx tk tk' n (fun i hi => h i (by omega)), h n (by omega)]

theorem remT_take (nx : Nat → List Nat) (tk : Nat → Nat) (i : Nat) (ht : tk i < (nx i).length) : ∀ n, i < n → remT nx (fun a => if a = i then tk i + 1 else tk a) n + 1 = remT nx tk n
  | 0, h => by omega
  | n + 1, h => by
    by_cases e : i = n
    · subst e
      have h1 := remT_same nx (fun a => if a = i then tk i + 1 else tk a) tk i (fun a ha => by
        have : a ≠ i := by omega
        simp [this])
      rw [remT, remT, h1]
      simp only [if_true]
      omega
    · have e2 : ¬ n = i := fun h => e h.symm
      have ih := remT_take nx tk i ht n (by omega)
      rw [remT, remT]
      simp only [e2, if_false]
      omega

/-- What goes down with each turn: 2 for a link, 1 for one on the way. -/
def left2 (nx : Nat → List Nat) (n : Nat) (P : List Nat) (tk : Nat → Nat) : Nat := 2 * remT nx tk n + P.length

theorem left2_pop (nx : Nat → List Nat) (n : Nat) (P : List Nat) (tk : Nat → Nat) (i : Nat) : left2 nx n P tk + 1 = left2 nx n (P ++ [i]) tk := by
  simp [left2]
  omega

theorem left2_take (nx : Nat → List Nat) (n : Nat) (P Q : List Nat) (tk : Nat → Nat) (i : Nat) (hi : i < n) (ht : tk i < (nx i).length) (hQ : Q.length ≤ P.length + 1) :
    left2 nx n Q (fun a => if a = i then tk i + 1 else tk a) < left2 nx n P tk := by
  have := remT_take nx tk i ht n hi
  rw [left2, left2]
  omega

end Go.Proofs.Ytahaflapkdjmhaa.Gr
