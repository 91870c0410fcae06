/-
  Plain right types that are printed alike are alike. No machine here.
-/
import Derived.Test.YtimlblbmfckeiaaDoorTyPm
namespace Go.Proofs.YtimlblbmfckeiaaDoor
open Go.RowKit

theorem name_bytes {lo hi : Int} {s : ByteArray} (hl : (lo = 97 ∧ hi = 122) ∨ (lo = 65 ∧ hi = 90)) (h : nameB lo hi s = true) :
    (∃ c t, s.data.toList = c :: t ∧ c ≠ 125 ∧ c ≠ 93 ∧ c ≠ 44 ∧ c ≠ 32) ∧ ∀ b ∈ s.data.toList, b ≠ 58 := by
  simp only [nameB, Bool.and_eq_true, decide_eq_true_eq] at h
  obtain ⟨h0, h1, h2⟩ := h
  have hlen : s.data.toList.length = s.size := by simp
  have at_ : ∀ i (hi : i < s.data.toList.length), (s.data.toList[i]).toNat = byteAt s i := fun i hi => byteAt_eq s i (by omega)
  have hb0 : 65 ≤ byteAt s 0 ∧ byteAt s 0 ≤ 122 ∧ byteAt s 0 ≠ 93 := by
    simp only [inB, Bool.and_eq_true, decide_eq_true_eq] at h1
    omega
  constructor
  · cases hs : s.data.toList with
    | nil => rw [hs] at hlen; simp at hlen; omega
    | cons c t =>
      have h := at_ 0 (by omega)
      have hc : c.toNat = byteAt s 0 := by
        rw [← h]
        simp [hs]
      refine ⟨c, t, rfl, ?_, ?_, ?_, ?_⟩ <;> (rintro rfl; simp at hc; omega)
  · intro b hb hb58
    obtain ⟨i, hi, rfl⟩ := List.getElem_of_mem hb
    have h := at_ i hi
    rw [hb58] at h
    have h58 : byteAt s i = 58 := by rw [← h]; rfl
    by_cases hi0 : i = 0
    · subst hi0; omega
    · have := allB_bad s s.size 1 i (by omega) (by omega) (by omega) (by rw [h58]; decide)
      rw [this] at h2
      cases h2

theorem label_bytes {k : Int} {s : ByteArray} (h : L.isLabel k s = true) : (∃ c t, s.data.toList = c :: t ∧ c ≠ 125 ∧ c ≠ 93 ∧ c ≠ 44 ∧ c ≠ 32) ∧ ∀ b ∈ s.data.toList, b ≠ 58 := by
  simp only [L.isLabel, Bool.or_eq_true, Bool.and_eq_true, decide_eq_true_eq] at h
  rcases h with h | h
  · exact name_bytes (Or.inl ⟨rfl, rfl⟩) h.2
  · exact name_bytes (Or.inr ⟨rfl, rfl⟩) h.2

/-- Two texts without a 58, each with one behind: they are the same. -/
theorem cut58 : ∀ {a b : List UInt8} {r s : List UInt8}, (∀ x ∈ a, x ≠ 58) → (∀ x ∈ b, x ≠ 58) → a ++ 58 :: r = b ++ 58 :: s → a = b ∧ r = s
  | [], [], _, _, _, _, h => ⟨rfl, by simpa using h⟩
  | [], y :: b, _, _, _, hb, h => by
    simp only [List.nil_append, List.cons_append, List.cons.injEq] at h
    exact absurd h.1.symm (hb y (by simp))
  | x :: a, [], _, _, ha, _, h => by
    simp only [List.nil_append, List.cons_append, List.cons.injEq] at h
    exact absurd h.1 (ha x (by simp))
  | x :: a, y :: b, _, _, ha, hb, h => by
    simp only [List.cons_append, List.cons.injEq] at h
    obtain ⟨h1, h2⟩ := cut58 (fun z hz => ha z (by simp [hz])) (fun z hz => hb z (by simp [hz])) h.2
    exact ⟨by rw [h.1, h1], h2⟩

def body (p : Bool) (x : L.Nd) (ks : L.Fo) : List UInt8 := L.opn p x ++ (L.prs ks x.kind 0 ++ L.cls p x.kind)
theorem prT_body (p : Bool) (x : L.Nd) (ks : L.Fo) : L.prT p x ks = L.lab x ++ body p x ks := rfl

/-- No 32 45 comes first. -/
def noArr (r : List UInt8) : Prop := ∀ t, r ≠ 32 :: 45 :: t

/-- A tree that is right, without variables. -/
def Pl (x : L.Nd) (ks : L.Fo) : Prop := (L.Fo.cons x ks .nil).ok = true ∧ ∀ z ∈ x :: ks.flat, z.kind ≠ 8 ∧ z.kind ≠ 9

/-- Alike, but for the label. -/
def Alike (x : L.Nd) (ks : L.Fo) (y : L.Nd) (ls : L.Fo) : Prop := x.kind = y.kind ∧ (x.n = y.n ∨ x.kind = 0) ∧ L.sameL ks.flat ls.flat = true ∧ ks.count = ls.count

theorem many_small {x : L.Nd} (h : x.kind = 0 ∨ x.kind = 1 ∨ x.kind = 2 ∨ x.kind = 3 ∨ x.kind = 4) : L.many x = 0 := by
  obtain ⟨k, s, n⟩ := x
  simp only at h
  rcases h with rfl | rfl | rfl | rfl | rfl <;> rfl
theorem many_arrow {x : L.Nd} (h : x.kind = 5) : L.many x = 2 := by
  obtain ⟨k, s, n⟩ := x
  simp only at h
  subst h
  rfl
theorem many_row {x : L.Nd} (h : x.kind = 6 ∨ x.kind = 7) : L.many x = x.n := by
  obtain ⟨k, s, n⟩ := x
  simp only at h
  rcases h with rfl | rfl <;> rfl
theorem n_zero {x : L.Nd} (hn : L.numbered x = true) (h : x.kind = 1 ∨ x.kind = 2 ∨ x.kind = 3 ∨ x.kind = 4 ∨ x.kind = 5) : x.n = 0 := by
  obtain ⟨k, s, n⟩ := x
  simp only at h
  rcases h with rfl | rfl | rfl | rfl | rfl <;> simpa [L.numbered] using hn

end Go.Proofs.YtimlblbmfckeiaaDoor
