/-
  Heaps, as plain mathematics: what going up and going down keep, and that the first one is least. Conditions: an order that is total and passes on.
-/
import Derived.Test.YtahaflapkdjmhaaRows
namespace Go.Proofs.Ytahaflapkdjmhaa
namespace Hp

def swap {α : Type} (f : Nat → α) (i j : Nat) : Nat → α := fun k => if k = i then f j else if k = j then f i else f k

variable {α : Type} (le : α → α → Prop)

def Heap (f : Nat → α) (n : Nat) : Prop := ∀ k, 0 < k → k < n → le (f ((k - 1) / 2)) (f k)

def UpI (f : Nat → α) (n j : Nat) : Prop :=
  (∀ k, 0 < k → k < n → k ≠ j → le (f ((k - 1) / 2)) (f k)) ∧
  (∀ k, 0 < k → k < n → (k - 1) / 2 = j → 0 < j → le (f ((j - 1) / 2)) (f k))

def DnI (f : Nat → α) (n i : Nat) : Prop :=
  (∀ k, 0 < k → k < n → (k - 1) / 2 ≠ i → le (f ((k - 1) / 2)) (f k)) ∧
  (∀ k, 0 < k → k < n → (k - 1) / 2 = i → 0 < i → le (f ((i - 1) / 2)) (f k))

theorem root (tr : ∀ a b c, le a b → le b c → le a c) (rf : ∀ a, le a a) (f : Nat → α) (n : Nat) (h : Heap le f n) :
    ∀ k, k < n → le (f 0) (f k) := by
  intro k
  induction k using Nat.strongRecOn with
  | _ k ih =>
    intro hk
    by_cases h0 : k = 0
    · subst h0; exact rf _
    · exact tr _ _ _ (ih ((k - 1) / 2) (by omega) (by omega)) (h k (by omega) hk)

theorem up_done (f : Nat → α) (n j : Nat) (h : UpI le f n j) (hj : j = 0 ∨ le (f ((j - 1) / 2)) (f j)) : Heap le f n := by
  intro k h0 hk
  by_cases e : k = j
  · subst e
    rcases hj with h1 | h1
    · omega
    · exact h1
  · exact h.1 k h0 hk e

theorem up_step (tr : ∀ a b c, le a b → le b c → le a c) (tt : ∀ a b, ¬ le a b → le b a) (f : Nat → α) (n j : Nat) (h : UpI le f n j)
    (h0 : 0 < j) (hn : j < n) (hl : ¬ le (f ((j - 1) / 2)) (f j)) : UpI le (swap f ((j - 1) / 2) j) n ((j - 1) / 2) := by
  have hl' := tt _ _ hl
  have hjp : j ≠ (j - 1) / 2 := by omega
  constructor
  · intro k k0 kn ke
    by_cases e1 : k = j
    · rw [e1]
      simp only [swap, if_true, hjp, if_false]
      exact hl'
    · by_cases e2 : (k - 1) / 2 = j
      · have := h.2 k k0 kn e2 h0
        rw [e2]
        simp only [swap, if_true, hjp, if_false, e1, ke]
        exact this
      · by_cases e3 : (k - 1) / 2 = (j - 1) / 2
        · have := h.1 k k0 kn e1
          rw [e3] at this ⊢
          simp only [swap, if_true, e1, ke, if_false]
          exact tr _ _ _ hl' this
        · simp only [swap, e1, ke, e2, e3, if_false]
          exact h.1 k k0 kn e1
  · intro k k0 kn ke p0
    have hpp : ((j - 1) / 2 - 1) / 2 ≠ (j - 1) / 2 := by omega
    have hpj : ((j - 1) / 2 - 1) / 2 ≠ j := by omega
    have hp := h.1 ((j - 1) / 2) p0 (by omega) (fun e => hjp e.symm)
    have hkp : k ≠ (j - 1) / 2 := by omega
    by_cases e1 : k = j
    · rw [e1]
      simp only [swap, hpp, hpj, hjp, if_true, if_false]
      exact hp
    · have := h.1 k k0 kn e1
      rw [ke] at this
      simp only [swap, hpp, hpj, hkp, e1, if_false]
      exact tr _ _ _ hp this

theorem dn_done (f : Nat → α) (n i : Nat) (h : DnI le f n i)
    (hc : ∀ k, 0 < k → k < n → (k - 1) / 2 = i → le (f i) (f k)) : Heap le f n := by
  intro k h0 hk
  by_cases e : (k - 1) / 2 = i
  · rw [e]; exact hc k h0 hk e
  · exact h.1 k h0 hk e

/-- c is a least child of i, and less than i. -/
theorem dn_step (tt : ∀ a b, ¬ le a b → le b a) (f : Nat → α) (n i c : Nat) (h : DnI le f n i)
    (c0 : 0 < c) (hn : c < n) (hp : (c - 1) / 2 = i) (hm : ∀ k, 0 < k → k < n → (k - 1) / 2 = i → le (f c) (f k))
    (hl : ¬ le (f i) (f c)) : DnI le (swap f i c) n c := by
  have hl' := tt _ _ hl
  have hci : c ≠ i := by omega
  have hic : i ≠ c := by omega
  constructor
  · intro k k0 kn ke
    by_cases e1 : k = c
    · rw [e1, hp]
      simp only [swap, if_true, hci, if_false]
      exact hl'
    · by_cases e2 : (k - 1) / 2 = i
      · have hki : k ≠ i := by omega
        have := hm k k0 kn e2
        rw [e2]
        simp only [swap, if_true, e1, hki, if_false]
        exact this
      · by_cases e3 : k = i
        · have := h.2 c c0 hn hp (by omega)
          have hii : (i - 1) / 2 ≠ i := by omega
          have hic' : (i - 1) / 2 ≠ c := by omega
          rw [e3]
          simp only [swap, if_true, hii, hic', if_false]
          exact this
        · simp only [swap, e1, e2, e3, ke, if_false]
          exact h.1 k k0 kn e2
  · intro k k0 kn ke _
    have hki : k ≠ i := by omega
    have hkc : k ≠ c := by omega
    have := h.1 k k0 kn (by omega)
    rw [ke] at this
    rw [hp]
    simp only [swap, if_true, hki, hkc, if_false]
    exact this

/-- Putting one more at the end of a heap: what going up starts with. -/
theorem up_start (f : Nat → α) (n : Nat) (h : Heap le f n) : UpI le f (n + 1) n := by
  constructor
  · intro k k0 kn ke
    exact h k k0 (by omega)
  · intro k k0 kn ke n0
    omega

/-- The last one in the first one's place, one less: what going down starts with. -/
theorem dn_start (f : Nat → α) (n : Nat) (h : Heap le f (n + 1)) : DnI le (swap f 0 n) n 0 := by
  constructor
  · intro k k0 kn ke
    have h1 : k ≠ 0 := by omega
    have h2 : k ≠ n := by omega
    have h3 : (k - 1) / 2 ≠ n := by omega
    simp only [swap, h1, h2, h3, ke, if_false]
    exact h k k0 (by omega)
  · intro k k0 kn ke i0
    omega

end Hp
end Go.Proofs.Ytahaflapkdjmhaa
