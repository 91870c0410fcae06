/-
  Links turned around, one after another: how often each stands there; no program. Conditions: rows of numbers.
-/
import Derived.Test.YtahaflapkdjmhaaGrW
namespace Go.Proofs.Ytahaflapkdjmhaa.Gr

/-- i is put at the end of row k. -/
def putR (b : Nat → List Nat) (k i : Nat) : Nat → List Nat := fun x => if x = k then b k ++ [i] else b x
def turnRow (b : Nat → List Nat) (i : Nat) : List Nat → Nat → List Nat
  | [] => b
  | k :: ks => turnRow (putR b k i) i ks
def turnAll (b : Nat → List Nat) : Nat → List (List Nat) → Nat → List Nat
  | _, [] => b
  | j, r :: rows => turnAll (turnRow b j r) (j + 1) rows

theorem turnRow_eq (i : Nat) : ∀ (ks : List Nat) (b : Nat → List Nat) (k : Nat), turnRow b i ks k = b k ++ List.replicate (ks.count k) i
  | [], b, k => by simp [turnRow]
  | a :: ks, b, k => by
    rw [turnRow, turnRow_eq i ks, List.count_cons]
    by_cases e : k = a
    · subst e
      simp only [putR, if_true, beq_self_eq_true]
      rw [List.append_assoc, List.replicate_succ]
      rfl
    · have e2 : ¬ a = k := fun h => e h.symm
      simp [putR, e, e2]

theorem turnRow_snoc (i : Nat) : ∀ (ks : List Nat) (b : Nat → List Nat) (k : Nat), turnRow b i (ks ++ [k]) = putR (turnRow b i ks) k i
  | [], _, _ => rfl
  | a :: ks, b, k => by rw [List.cons_append, turnRow, turnRow_snoc i ks]; rfl

theorem turnAll_snoc : ∀ (rows : List (List Nat)) (b : Nat → List Nat) (j : Nat) (r : List Nat), turnAll b j (rows ++ [r]) = turnRow (turnAll b j rows) (j + rows.length) r
  | [], b, j, r => by simp [turnAll]
  | a :: rows, b, j, r => by
    rw [List.cons_append, turnAll, turnAll_snoc rows, turnAll, List.length_cons]
    congr 1
    omega

theorem turnAll_count : ∀ (rows : List (List Nat)) (b : Nat → List Nat) (j k i : Nat), (turnAll b j rows k).count i = (b k).count i + if j ≤ i then ((rows[i - j]?).getD []).count k else 0
  | [], b, j, k, i => by simp [turnAll]
  | r :: rows, b, j, k, i => by
    rw [turnAll, turnAll_count rows, turnRow_eq, List.count_append, List.count_replicate]
    by_cases e : j = i
    · subst e
      have : ¬ j + 1 ≤ j := by omega
      simp [this]
    · by_cases h : j ≤ i
      · have h1 : j + 1 ≤ i := by omega
        have h2 : i - j = (i - (j + 1)) + 1 := by omega
        simp [e, h, h1, h2]
      · have h1 : ¬ j + 1 ≤ i := by omega
        simp [e, h, h1]

/-- The links of a list of rows, and these turned. -/
def rowsF (rows : List (List Nat)) : Nat → List Nat := fun i => (rows[i]?).getD []
def turned (rows : List (List Nat)) : Nat → List Nat := turnAll (fun _ => []) 0 rows

theorem turned_count (rows : List (List Nat)) (k i : Nat) : (turned rows k).count i = (rowsF rows i).count k := by
  rw [turned, turnAll_count]
  simp [rowsF]

theorem turned_mem (rows : List (List Nat)) (k i : Nat) : i ∈ turned rows k ↔ k ∈ rowsF rows i := by
  rw [← List.count_pos_iff, turned_count, List.count_pos_iff]

theorem turned_lt (rows : List (List Nat)) (k i : Nat) (h : i ∈ turned rows k) : i < rows.length := by
  have := (turned_mem rows k i).1 h
  rcases Nat.lt_or_ge i rows.length with h1 | h1
  · exact h1
  · rw [rowsF, List.getElem?_eq_none h1] at this
    cases this

end Go.Proofs.Ytahaflapkdjmhaa.Gr
