/-
  The least one of those on cycles, found group by group; no program. Conditions: an order that is total on the nodes.
-/
import Derived.Test.YtahaflapkdjmhaaGrG
namespace Go.Proofs.Ytahaflapkdjmhaa.Gr

/-- b is the least of those that are so, or there is none. -/
structure Best (lt : Nat → Nat → Prop) (P : Nat → Prop) (b : Option Nat) : Prop where
  so : ∀ m, b = some m → P m ∧ ∀ w, P w → w ≠ m → lt m w
  no : b = none → ∀ w, ¬ P w

def better (lt : Nat → Nat → Bool) : Option Nat → Nat → Option Nat
  | none, k => some k
  | some m, k => if lt k m then some k else some m

def leastL (lt : Nat → Nat → Bool) : Option Nat → List Nat → Option Nat
  | b, [] => b
  | b, k :: ks => leastL lt (better lt b k) ks

theorem Best.congr {lt : Nat → Nat → Prop} {P Q : Nat → Prop} {b : Option Nat} (h : Best lt P b) (e : ∀ w, P w ↔ Q w) : Best lt Q b := by
  have : P = Q := funext fun w => propext (e w)
  exact this ▸ h

theorem Best.more {lt : Nat → Nat → Bool} {n : Nat} (tr : ∀ a b c, lt a b = true → lt b c = true → lt a c = true) (tot : ∀ a b, a < n → b < n → a ≠ b → lt a b = true ∨ lt b a = true)
    {P : Nat → Prop} (hP : ∀ w, P w → w < n) {b : Option Nat} {k : Nat} (hk : k < n) (h : Best (fun a b => lt a b = true) P b) : Best (fun a b => lt a b = true) (fun w => P w ∨ w = k) (better lt b k) := by
  cases b with
  | none =>
    refine ⟨fun m e => ?_, fun e => by cases e⟩
    injection e with e
    subst e
    refine ⟨Or.inr rfl, fun w hw hne => ?_⟩
    rcases hw with h1 | h1
    · exact absurd h1 (h.no rfl w)
    · exact absurd h1 hne
  | some m =>
    obtain ⟨h1, h2⟩ := h.so m rfl
    by_cases hl : lt k m = true
    · rw [better, if_pos hl]
      refine ⟨fun x e => ?_, fun e => by cases e⟩
      injection e with e
      subst e
      refine ⟨Or.inr rfl, fun w hw hne => ?_⟩
      rcases hw with h3 | h3
      · by_cases e : w = m
        · rw [e]; exact hl
        · exact tr _ _ _ hl (h2 w h3 e)
      · exact absurd h3 hne
    · rw [better, if_neg hl]
      refine ⟨fun x e => ?_, fun e => by cases e⟩
      injection e with e
      subst e
      refine ⟨Or.inl h1, fun w hw hne => ?_⟩
      rcases hw with h3 | h3
      · exact h2 w h3 hne
      · subst h3
        rcases tot w m hk (hP m h1) hne with h4 | h4
        · exact absurd h4 hl
        · exact h4

theorem Best.fold {lt : Nat → Nat → Bool} {n : Nat} (tr : ∀ a b c, lt a b = true → lt b c = true → lt a c = true) (tot : ∀ a b, a < n → b < n → a ≠ b → lt a b = true ∨ lt b a = true) :
    ∀ (ks : List Nat) (P : Nat → Prop) (b : Option Nat), (∀ w, P w → w < n) → (∀ k ∈ ks, k < n) → Best (fun a b => lt a b = true) P b → Best (fun a b => lt a b = true) (fun w => P w ∨ w ∈ ks) (leastL lt b ks)
  | [], P, b, _, _, h => h.congr fun w => by simp
  | k :: ks, P, b, hP, hk, h => by
    have h1 := h.more tr tot hP (hk k (by simp))
    have h2 := Best.fold tr tot ks (fun w => P w ∨ w = k) (better lt b k) (fun w hw => hw.elim (hP w) (fun e => e ▸ hk k (by simp))) (fun x hx => hk x (by simp [hx])) h1
    exact h2.congr fun w => by simp [or_assoc]

/-- One group more. -/
theorem Best.group {lt : Nat → Nat → Bool} {n : Nat} (tr : ∀ a b c, lt a b = true → lt b c = true → lt a c = true) (tot : ∀ a b, a < n → b < n → a ≠ b → lt a b = true ∨ lt b a = true)
    {nx : Nat → List Nat} {disc : Nat → Nat} {D : List Nat} (hn : ∀ i, i < n → ∀ k ∈ nx i, k < n) (L : Left nx n disc D) {X : Nat → Prop} (hXn : ∀ w, X w → w < n) (hX : ∀ a b, Rch nx a b → X b → X a) {D1 D2 : List Nat} {i : Nat} (hD : D = D1 ++ i :: D2) (h2 : ∀ x ∈ D2, X x)
    {R : List Nat} (hR : ∀ j, j ∈ R ↔ Rch nx j i ∧ ¬ X j) (hRn : ∀ j ∈ R, j < n) (hRd : R.Nodup) {b : Option Nat} (h : Best (fun a b => lt a b = true) (fun w => X w ∧ Cyc nx w) b) :
    Best (fun a b => lt a b = true) (fun w => (X w ∨ w ∈ R) ∧ Cyc nx w) (if R.length = 1 ∧ i ∉ nx i then b else leastL lt b R) := by
  by_cases hi : X i
  · have hR0 : R = [] := by
      cases R with
      | nil => rfl
      | cons a r => exact absurd (hX a i ((hR a).1 (by simp)).1 hi) ((hR a).1 (by simp)).2
    subst hR0
    simpa [leastL] using h
  · obtain ⟨g1, g2⟩ := group_cyc hn L hX hD hi h2 hR hRn
    have hiR : i ∈ R := (hR i).2 ⟨.refl i, hi⟩
    by_cases hc : R.length = 1 ∧ i ∉ nx i
    · rw [if_pos hc]
      obtain ⟨a, ha⟩ := List.length_eq_one_iff.1 hc.1
      have hno := g2 (by
        rintro (⟨w, hw, hne⟩ | hs)
        · rw [ha, List.mem_singleton] at hw hiR
          exact hne (hw.trans hiR.symm)
        · exact hc.2 hs)
      refine h.congr fun w => ⟨fun e => ⟨Or.inl e.1, e.2⟩, fun e => ⟨e.1.elim id fun hw => absurd e.2 (hno w hw), e.2⟩⟩
    · rw [if_neg hc]
      have hyes := g1 (by
        by_cases hs : i ∈ nx i
        · exact Or.inr hs
        · left
          have hlen : R.length ≠ 1 := fun e => hc ⟨e, hs⟩
          match R, hlen, hiR, hRd with
          | [], _, hm, _ => cases hm
          | [_], hl, _, _ => exact absurd rfl hl
          | x :: y :: r, _, _, hd =>
            by_cases e : x = i
            · refine ⟨y, by simp, fun e2 => ?_⟩
              rw [e, e2] at hd
              simp at hd
            · exact ⟨x, by simp, e⟩)
      refine (h.fold tr tot R _ b (fun w hw => hXn w hw.1) hRn).congr fun w => ?_
      constructor
      · rintro (e | e)
        · exact ⟨Or.inl e.1, e.2⟩
        · exact ⟨Or.inr e, hyes w e⟩
      · rintro ⟨e | e, c⟩
        · exact Or.inl ⟨e, c⟩
        · exact Or.inr e

end Go.Proofs.Ytahaflapkdjmhaa.Gr
