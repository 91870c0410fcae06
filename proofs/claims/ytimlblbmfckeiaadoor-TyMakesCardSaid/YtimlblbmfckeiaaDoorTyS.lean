/-
  The walks of ty.Same, with slices.EqualFunc, and of the reference's Same and One. Conditions: slices of at most 2^40 nodes.
-/
import Derived.Test.YtimlblbmfckeiaaDoorTyO
namespace Go.Proofs.YtimlblbmfckeiaaDoor.L
open Go

/-- Are two nodes alike, but for a site? -/
def sameN (x y : Nd) : Bool := decide (x.kind = y.kind) && decide (x.name = y.name) && (decide (x.n = y.n) || decide (x.kind = 0))

/-- Are two rows of nodes alike, but for sites? -/
def sameL : List Nd → List Nd → Bool
  | [], [] => true
  | x :: a, y :: b => sameN x y && sameL a b
  | _, _ => false

theorem sameL_len {a b : List Nd} (h : sameL a b = true) : a.length = b.length := by
  induction a generalizing b with
  | nil => cases b <;> simp_all [sameL]
  | cons x a ih =>
    cases b with
    | nil => simp [sameL] at h
    | cons y b =>
      simp [sameL] at h
      simp [ih h.2]

/-- From place i on. -/
theorem sameL_step {a b : List Nd} {i : Nat} (ha : i < a.length) (hb : i < b.length) : sameL (a.drop i) (b.drop i) = (sameN a[i] b[i] && sameL (a.drop (i + 1)) (b.drop (i + 1))) := by
  rw [List.drop_eq_getElem_cons ha, List.drop_eq_getElem_cons hb, sameL]

theorem sameN_iff (x y : Nd) : sameN x y = true ↔ x.kind = y.kind ∧ x.name = y.name ∧ (x.n = y.n ∨ x.kind = 0) := by
  simp [sameN, and_assoc]

end Go.Proofs.YtimlblbmfckeiaaDoor.L
namespace Go.Proofs.YtimlblbmfckeiaaDoor
open Go.RowKit

theorem eqS (s t : ByteArray) : (s.toList == t.toList) = decide (s = t) := by
  rw [Bool.eq_iff_iff]
  simp only [beq_iff_eq, decide_eq_true_eq]
  constructor
  · intro h
    rw [Lib.toList_data, Lib.toList_data] at h
    exact ByteArray.ext (Array.toList_inj.1 h)
  · rintro rfl; rfl

end Go.Proofs.YtimlblbmfckeiaaDoor
