/-
  How long a print is. Conditions: a right tree, labels of at most 200 bytes, numbers below 2^63.
-/
import Derived.Test.YtimlblbmfckeiaaDoorTyYa
namespace Go.Proofs.YtimlblbmfckeiaaDoor
open Go.RowKit

def Short (l : List L.Nd) : Prop := ∀ x ∈ l, x.name.size ≤ 200 ∧ x.n ≤ 9223372036854775807

theorem lab_len {x : L.Nd} (h : x.name.size ≤ 200) : (L.lab x).length ≤ 202 := by
  unfold L.lab
  split
  · simp
  · have : x.name.data.toList.length = x.name.size := by simp
    simp only [List.length_append, this, List.length_cons, List.length_nil]
    omega
theorem opn_len {p : Bool} {x : L.Nd} (h0 : x.kind = 8 ∨ x.kind = 9 → 0 ≤ x.n) (h1 : x.n ≤ 9223372036854775807) : (L.opn p x).length ≤ 24 := by
  have := first_len h0 h1
  unfold L.opn
  rw [List.length_append]
  split <;> simp only [List.length_cons, List.length_nil] <;> omega
theorem cls_len (p : Bool) (k : Int) : (L.cls p k).length ≤ 2 := by
  have := last_len k
  unfold L.cls
  rw [List.length_append]
  split <;> simp only [List.length_cons, List.length_nil] <;> omega

theorem prs_len : ∀ (f : L.Fo) (pk : Int) (k : Nat), f.ok = true → Short f.flat → (L.prs f pk k).length ≤ f.flat.length * 300
  | .nil, _, _, _, _ => by simp [L.prs]
  | .cons x ks r, pk, k, ho, hs => by
    simp only [L.Fo.ok, Bool.and_eq_true] at ho
    have h1 := prs_len ks x.kind 0 ho.1.2 (fun y hy => hs y (by simp [L.Fo.flat, hy]))
    have h2 := prs_len r pk (k + 1) ho.2 (fun y hy => hs y (by simp [L.Fo.flat, hy]))
    obtain ⟨h3, h4⟩ := hs x (by simp [L.Fo.flat])
    have h5 := (kind_of ho.1.1.1.1).2
    have h6 := lab_len h3
    have h7 := opn_len (p := L.par pk k x) h5 h4
    have h8 := cls_len (L.par pk k x) x.kind
    have h9 : (if 0 < k then L.betw pk else []).length ≤ 4 := by
      split
      · exact betw_len pk
      · simp
    simp only [L.prs, L.Fo.flat, List.length_append, List.length_cons]
    omega

theorem prT_len {x : L.Nd} {ks : L.Fo} {p : Bool} (ho : (L.Fo.cons x ks .nil).ok = true) (hs : Short (x :: ks.flat)) : (L.prT p x ks).length ≤ (ks.flat.length + 1) * 300 := by
  simp only [L.Fo.ok, Bool.and_true, Bool.and_eq_true] at ho
  have h1 := prs_len ks x.kind 0 ho.2 (fun y hy => hs y (by simp [hy]))
  obtain ⟨h3, h4⟩ := hs x (by simp)
  have h5 := (kind_of ho.1.1.1).2
  have h6 := lab_len h3
  have h7 := opn_len (p := p) h5 h4
  have h8 := cls_len p x.kind
  simp only [L.prT, List.length_append]
  omega

theorem prT_ne {x : L.Nd} {ks : L.Fo} {p : Bool} (ho : (L.Fo.cons x ks .nil).ok = true) : L.prT p x ks ≠ [] := by
  simp only [L.Fo.ok, Bool.and_true, Bool.and_eq_true, decide_eq_true_eq] at ho
  obtain ⟨⟨⟨h1, h2⟩, -⟩, -⟩ := ho
  have hk := (kind_of h1).1
  by_cases h5 : x.kind = 5
  · have hm : L.many x = 2 := by unfold L.many; simp [h5]
    cases ks with
    | nil => simp [L.Fo.count, hm] at h2
    | cons y k1 r =>
      cases r with
      | nil => simp [L.Fo.count, hm] at h2
      | cons z k2 r =>
        intro h
        have := congrArg List.length h
        simp [L.prT, L.prs, L.betw, h5] at this
  · intro h
    have h9 : L.first x = [] := by
      simp only [L.prT, L.opn, List.append_eq_nil_iff] at h
      exact h.2.1.2
    unfold L.first at h9
    repeat' split at h9
    all_goals first
      | (simp at h9; done)
      | omega

end Go.Proofs.YtimlblbmfckeiaaDoor
