/-
  The texts TrN, TrO, TrP, one behind the other. Conditions: those that each of them names.
-/
import Derived.Test.YtgghmhgbdknkaaaMR0
import Derived.Test.YtgghmhgbdknkaaaMR6
section
/-
  Plain lists: what is read from a place on hangs on nothing ahead of it, nor on what stands behind an End. No conditions but those that each lemma names.
-/
namespace Go.Proofs.Ytgghmhgbdknkaaa.T
open Go

/-- Up to place N, where l has an End, m has the tokens of l, so many places on. -/
structure Al (l m : List Tk) (N off : Nat) : Prop where
  same : ∀ i, i ≤ N → m[i + off]? = l[i]?
  fin : ∃ t, l[N]? = some t ∧ t.kind = 0

def sh (off : Nat) (s : S) : S := ⟨s.pl + off, s.site, s.sites⟩
def shR {α : Type} (off : Nat) : R α → R α
  | .ok a s => .ok a (sh off s)
  | .bad p e => .bad (p + off) e

def AlP (N off : Nat) (A B : P) : Prop := ∀ s, s.pl ≤ N → B (sh off s) = shR off (A s) ∧ ∀ t s', A s = .ok t s' → s'.pl ≤ N

theorem isSign_al {l m : List Tk} {N off : Nat} (h : Al l m N off) {i : Nat} (hi : i ≤ N) (k : ByteArray) : isSign m (i + off) k = isSign l i k := by
  unfold isSign
  rw [h.same i hi]
theorem isLab_al {l m : List Tk} {N off : Nat} (h : Al l m N off) {i : Nat} (hi : i ≤ N) (k : Int) : isLab m k (i + off) = isLab l k i := by
  unfold isLab
  rw [h.same i hi]

theorem isSign_in {l m : List Tk} {N off : Nat} (h : Al l m N off) {i : Nat} (hi : i ≤ N) {k : ByteArray} (hs : isSign l i k = true) : i < N := by
  rcases Nat.lt_or_ge i N with h1 | h1
  · exact h1
  · obtain rfl : i = N := by omega
    obtain ⟨t, ht, hk⟩ := h.fin
    unfold isSign at hs
    rw [ht] at hs
    simp [hk] at hs
theorem isLab_in {l m : List Tk} {N off : Nat} (h : Al l m N off) {i : Nat} (hi : i ≤ N) {k : Int} {t : ByteArray} (hs : isLab l k i = some t) : i < N := by
  rcases Nat.lt_or_ge i N with h1 | h1
  · exact h1
  · obtain rfl : i = N := by omega
    obtain ⟨t, ht, hk⟩ := h.fin
    unfold isLab at hs
    rw [ht] at hs
    simp only at hs
    rw [if_neg] at hs
    · cases hs
    · rw [hk]
      by_cases h6 : k = 6 <;> simp [h6]

theorem take_al {l m : List Tk} {N off : Nat} (h : Al l m N off) {s : S} (hi : s.pl ≤ N) (k : ByteArray) : take m (sh off s) k = shR off (take l s k) ∧ ∀ u s', take l s k = .ok u s' → s'.pl ≤ N := by
  unfold take
  have e : isSign m (sh off s).pl k = isSign l s.pl k := isSign_al h hi k
  rw [e]
  cases hs : isSign l s.pl k with
  | false => exact ⟨rfl, fun u s' h => by cases h⟩
  | true =>
    have := isSign_in h hi hs
    refine ⟨?_, fun u s' h => ?_⟩
    · simp only [if_true, shR, sh]
      congr 2
      omega
    · injection h with _ h2
      subst h2
      exact this

theorem bind_al {α β : Type} {N off : Nat} {r r' : R α} {f g : α → S → R β} (h1 : r' = shR off r) (hin : ∀ a s, r = .ok a s → s.pl ≤ N) (h2 : ∀ a s, r = .ok a s → s.pl ≤ N → g a (sh off s) = shR off (f a s) ∧ ∀ b s', f a s = .ok b s' → s'.pl ≤ N) :
    r'.bind g = shR off (r.bind f) ∧ ∀ b s', r.bind f = .ok b s' → s'.pl ≤ N := by
  subst h1
  cases r with
  | ok a s => exact h2 a s rfl (hin a s rfl)
  | bad p e => exact ⟨rfl, fun b s' h => by cases h⟩

theorem rowF_al {l m : List Tk} {N off : Nat} (h : Al l m N off) {A B : P} (hA : AlP N off A B) (kind : Int) : ∀ (n : Nat) (acc : List (ByteArray × Tr)), AlP N off (rowF l A kind n acc) (rowF m B kind n acc) := by
  intro n
  induction n with
  | zero =>
    intro acc s hi
    unfold rowF
    have e : isLab m kind (sh off s).pl = isLab l kind s.pl := isLab_al h hi kind
    rw [e]
    cases isLab l kind s.pl with
    | none => exact ⟨rfl, fun t s' h => by cases h⟩
    | some lb =>
      simp only
      split
      · exact ⟨rfl, fun t s' h => by cases h⟩
      · exact ⟨rfl, fun t s' h => by cases h⟩
  | succ n ih =>
    intro acc s hi
    unfold rowF
    have e : isLab m kind (sh off s).pl = isLab l kind s.pl := isLab_al h hi kind
    rw [e]
    cases hlb : isLab l kind s.pl with
    | none => exact ⟨rfl, fun t s' h => by cases h⟩
    | some lb =>
      have hin := isLab_in h hi hlb
      simp only
      split
      · exact ⟨rfl, fun t s' h => by cases h⟩
      · have e1 : ({ sh off s with pl := (sh off s).pl + 1 } : S) = sh off { s with pl := s.pl + 1 } := by simp only [sh]; congr 1; omega
        rw [e1]
        obtain ⟨t1, t2⟩ := take_al h (s := { s with pl := s.pl + 1 }) (by simp only; omega) kColon
        refine bind_al t1 t2 (fun u s1 hu h1 => ?_)
        obtain ⟨a1, a2⟩ := hA s1 h1
        refine bind_al a1 a2 (fun x s2 hx h2 => ?_)
        have e2 : isSign m (sh off s2).pl (kBetw kind) = isSign l s2.pl (kBetw kind) := isSign_al h h2 _
        rw [e2]
        cases hs : isSign l s2.pl (kBetw kind) with
        | true =>
          have hin2 := isSign_in h h2 hs
          have e3 : ({ sh off s2 with pl := (sh off s2).pl + 1 } : S) = sh off { s2 with pl := s2.pl + 1 } := by simp only [sh]; congr 1; omega
          simp only [if_true]
          rw [e3]
          exact ih _ _ (by simp only; omega)
        | false =>
          simp only [Bool.false_eq_true, if_false]
          obtain ⟨t1, t2⟩ := take_al h h2 (kRight kind)
          refine bind_al t1 t2 (fun u s3 hu h3 => ⟨rfl, fun t s' h => ?_⟩)
          injection h with _ h5
          subst h5
          exact h3

theorem sh_next (off : Nat) (s : S) (n : Nat) : ({ sh off s with pl := (sh off s).pl + n } : S) = sh off { s with pl := s.pl + n } := by
  simp only [sh]
  congr 1
  omega

theorem operF_al {l m : List Tk} {N off : Nat} (h : Al l m N off) {A B : Option P} (hA : (A = none ∧ B = none) ∨ ∃ a b, A = some a ∧ B = some b ∧ AlP N off a b) : AlP N off (operF l A) (operF m B) := by
  intro s hi
  unfold operF
  have e : m[(sh off s).pl]? = l[s.pl]? := h.same s.pl hi
  rw [e]
  cases ht : l[s.pl]? with
  | none => exact ⟨rfl, fun t s' h => by cases h⟩
  | some tk =>
    simp only
    have eQ : isSign m (sh off s).pl kQ = isSign l s.pl kQ := isSign_al h hi _
    have eO : isSign m (sh off s).pl kOpen = isSign l s.pl kOpen := isSign_al h hi _
    have e6 : isSign m (sh off s).pl (kLeft 6) = isSign l s.pl (kLeft 6) := isSign_al h hi _
    have e7 : isSign m (sh off s).pl (kLeft 7) = isSign l s.pl (kLeft 7) := isSign_al h hi _
    rw [eQ, eO, e6, e7]
    cases hQ : isSign l s.pl kQ with
    | true =>
      have hin := isSign_in h hi hQ
      simp only [if_true]
      refine ⟨?_, fun t s' h => ?_⟩
      · simp only [shR, sh]
        congr 2
        omega
      · injection h with _ h5
        subst h5
        exact hin
    | false =>
      simp only [Bool.false_eq_true, if_false]
      cases hO : isSign l s.pl kOpen with
      | true =>
        have hin := isSign_in h hi hO
        simp only [if_true]
        rcases hA with ⟨rfl, rfl⟩ | ⟨a, b, rfl, rfl, hab⟩
        · exact ⟨rfl, fun t s' h => by cases h⟩
        · simp only
          rw [sh_next]
          obtain ⟨a1, a2⟩ := hab { s with pl := s.pl + 1 } (by simp only; omega)
          refine bind_al a1 a2 (fun x s1 hx h1 => ?_)
          obtain ⟨t1, t2⟩ := take_al h h1 kClose
          refine bind_al t1 t2 (fun u s2 hu h2 => ⟨rfl, fun t s' h => ?_⟩)
          injection h with _ h5
          subst h5
          exact h2
      | false =>
        simp only [Bool.false_eq_true, if_false]
        cases h6 : isSign l s.pl (kLeft 6) with
        | true =>
          have hin := isSign_in h hi h6
          simp only [if_true]
          rcases hA with ⟨rfl, rfl⟩ | ⟨a, b, rfl, rfl, hab⟩
          · exact ⟨rfl, fun t s' h => by cases h⟩
          · simp only
            have eR : isSign m ((sh off s).pl + 1) (kRight 6) = isSign l (s.pl + 1) (kRight 6) := by
              have := isSign_al h (show s.pl + 1 ≤ N by omega) (kRight 6)
              rw [← this]
              congr 1
              simp only [sh]
              omega
            rw [eR]
            cases hR : isSign l (s.pl + 1) (kRight 6) with
            | true =>
              have hin2 := isSign_in h (show s.pl + 1 ≤ N by omega) hR
              simp only [if_true]
              rw [sh_next]
              refine ⟨rfl, fun t s' h => ?_⟩
              injection h with _ h5
              subst h5
              simp only
              omega
            | false =>
              simp only [Bool.false_eq_true, if_false]
              rw [sh_next]
              exact rowF_al h hab 6 50 [] _ (by simp only; omega)
        | false =>
          simp only [Bool.false_eq_true, if_false]
          cases h7 : isSign l s.pl (kLeft 7) with
          | true =>
            have hin := isSign_in h hi h7
            simp only [if_true]
            rcases hA with ⟨rfl, rfl⟩ | ⟨a, b, rfl, rfl, hab⟩
            · exact ⟨rfl, fun t s' h => by cases h⟩
            · simp only
              rw [sh_next]
              exact rowF_al h hab 7 50 [] _ (by simp only; omega)
          | false =>
            simp only [Bool.false_eq_true, if_false]
            by_cases hb : baseK tk < 0
            · rw [if_pos hb, if_pos hb]
              exact ⟨rfl, fun t s' h => by cases h⟩
            · rw [if_neg hb, if_neg hb, sh_next]
              refine ⟨rfl, fun t s' h5 => ?_⟩
              injection h5 with _ h5
              subst h5
              simp only
              rcases Nat.lt_or_ge s.pl N with h8 | h8
              · omega
              · exfalso
                have h9 : s.pl = N := by omega
                obtain ⟨t0, ht0, hk⟩ := h.fin
                rw [h9, ht0] at ht
                injection ht with ht
                subst ht
                exact hb (by simp [baseK, hk])

theorem wholeF_al {l m : List Tk} {N off : Nat} (h : Al l m N off) {A B : Option P} (hA : (A = none ∧ B = none) ∨ ∃ a b, A = some a ∧ B = some b ∧ AlP N off a b) : AlP N off (wholeF l A) (wholeF m B) := by
  intro s hi
  unfold wholeF
  obtain ⟨o1, o2⟩ := operF_al h hA s hi
  refine bind_al o1 o2 (fun a s1 ha h1 => ?_)
  have e : isSign m (sh off s1).pl kArrow = isSign l s1.pl kArrow := isSign_al h h1 _
  rw [e]
  cases hs : isSign l s1.pl kArrow with
  | true =>
    have hin := isSign_in h h1 hs
    simp only [if_true]
    rcases hA with ⟨rfl, rfl⟩ | ⟨a, b, rfl, rfl, hab⟩
    · exact ⟨rfl, fun t s' h => by cases h⟩
    · simp only
      rw [sh_next]
      obtain ⟨a1, a2⟩ := hab { s1 with pl := s1.pl + 1 } (by simp only; omega)
      refine bind_al a1 a2 (fun x s2 hx h2 => ⟨rfl, fun t s' h => ?_⟩)
      injection h with _ h5
      subst h5
      exact h2
  | false =>
    simp only [Bool.false_eq_true, if_false]
    refine ⟨rfl, fun t s' h => ?_⟩
    injection h with _ h5
    subst h5
    exact h1

/-- What is read hangs on nothing ahead, nor on what stands behind an End. -/
theorem typeF_al {l m : List Tk} {N off : Nat} (h : Al l m N off) : ∀ d : Nat, AlP N off (typeF l d) (typeF m d)
  | 0 => wholeF_al h (Or.inl ⟨rfl, rfl⟩)
  | d + 1 => wholeF_al h (Or.inr ⟨_, _, rfl, rfl, typeF_al h d⟩)

end Go.Proofs.Ytgghmhgbdknkaaa.T
end

section
/-
  Plain lists: with fewer levels left the same is read, or it is too deep. No conditions.
-/
namespace Go.Proofs.Ytgghmhgbdknkaaa.T
open Go

/-- The same, or too deep. -/
def RLe {α : Type} (r r' : R α) : Prop := r = r' ∨ ∃ p, r = .bad p 4
def PLe (A B : P) : Prop := ∀ s, RLe (A s) (B s)
def OLe (A B : Option P) : Prop := A = none ∨ ∃ a b, A = some a ∧ B = some b ∧ PLe a b

theorem RLe.refl {α : Type} (r : R α) : RLe r r := Or.inl rfl

theorem bind_le {α β : Type} {r r' : R α} {f g : α → S → R β} (h : RLe r r') (h2 : ∀ a s, r = .ok a s → RLe (f a s) (g a s)) : RLe (r.bind f) (r'.bind g) := by
  rcases h with rfl | ⟨p, rfl⟩
  · cases r with
    | ok a s => exact h2 a s rfl
    | bad p e => exact Or.inl rfl
  · exact Or.inr ⟨p, rfl⟩

theorem rowF_le (l : List Tk) {A B : P} (hA : PLe A B) (kind : Int) : ∀ (n : Nat) (acc : List (ByteArray × Tr)), PLe (rowF l A kind n acc) (rowF l B kind n acc) := by
  intro n
  induction n with
  | zero =>
    intro acc s
    unfold rowF
    cases isLab l kind s.pl with
    | none => exact RLe.refl _
    | some lb =>
      simp only
      split
      · exact RLe.refl _
      · exact RLe.refl _
  | succ n ih =>
    intro acc s
    unfold rowF
    cases isLab l kind s.pl with
    | none => exact RLe.refl _
    | some lb =>
      simp only
      split
      · exact RLe.refl _
      · refine bind_le (RLe.refl _) (fun u s1 _ => bind_le (hA s1) (fun x s2 _ => ?_))
        split
        · exact ih _ _
        · exact RLe.refl _

theorem operF_le (l : List Tk) {A B : Option P} (hA : OLe A B) : PLe (operF l A) (operF l B) := by
  intro s
  unfold operF
  cases l[s.pl]? with
  | none => exact RLe.refl _
  | some tk =>
    simp only
    split
    · exact RLe.refl _
    · split
      · rcases hA with rfl | ⟨a, b, rfl, rfl, hab⟩
        · exact Or.inr ⟨_, rfl⟩
        · exact bind_le (hab _) (fun x s1 _ => RLe.refl _)
      · split
        · rcases hA with rfl | ⟨a, b, rfl, rfl, hab⟩
          · exact Or.inr ⟨_, rfl⟩
          · simp only
            split
            · exact RLe.refl _
            · exact rowF_le l hab 6 50 [] _
        · split
          · rcases hA with rfl | ⟨a, b, rfl, rfl, hab⟩
            · exact Or.inr ⟨_, rfl⟩
            · exact rowF_le l hab 7 50 [] _
          · exact RLe.refl _

theorem wholeF_le (l : List Tk) {A B : Option P} (hA : OLe A B) : PLe (wholeF l A) (wholeF l B) := by
  intro s
  unfold wholeF
  refine bind_le (operF_le l hA s) (fun a s1 _ => ?_)
  split
  · rcases hA with rfl | ⟨a, b, rfl, rfl, hab⟩
    · exact Or.inr ⟨_, rfl⟩
    · exact bind_le (hab _) (fun x s2 _ => RLe.refl _)
  · exact RLe.refl _

/-- With a level less the same is read, or it is too deep. -/
theorem typeF_le (l : List Tk) : ∀ d : Nat, PLe (typeF l d) (typeF l (d + 1))
  | 0 => wholeF_le l (Or.inl rfl)
  | d + 1 => wholeF_le l (Or.inr ⟨_, _, rfl, rfl, typeF_le l d⟩)

/-- Up to place N, ahead of which both have the same tokens; there l has an End, and m nothing that goes on. -/
structure Ao (l m : List Tk) (N off : Nat) : Prop where
  same : ∀ i, i < N → m[i + off]? = l[i]?
  fin : ∃ t, l[N]? = some t ∧ t.kind = 0
  stop : isSign m (N + off) kArrow = false ∧ isSign m (N + off) (kBetw 6) = false ∧ isSign m (N + off) (kBetw 7) = false

def shO (off : Nat) (s : S) : S := ⟨s.pl + off, s.site, s.sites⟩
def AoP (N off : Nat) (A B : P) : Prop := ∀ s, s.pl ≤ N → ∀ t s', A s = .ok t s' → B (shO off s) = .ok t (shO off s') ∧ s'.pl ≤ N

theorem isSign_end {l m : List Tk} {N off : Nat} (h : Ao l m N off) (k : ByteArray) : isSign l N k = false := by
  obtain ⟨t, ht, hk⟩ := h.fin
  unfold isSign
  rw [ht]
  simp [hk]
theorem isSign_ao {l m : List Tk} {N off : Nat} (h : Ao l m N off) {i : Nat} (hi : i < N) (k : ByteArray) : isSign m (i + off) k = isSign l i k := by
  unfold isSign
  rw [h.same i hi]
theorem isSign_lo {l m : List Tk} {N off : Nat} (h : Ao l m N off) {i : Nat} (hi : i ≤ N) {k : ByteArray} (hs : isSign l i k = true) : i < N := by
  rcases Nat.lt_or_ge i N with h1 | h1
  · exact h1
  · obtain rfl : i = N := by omega
    rw [isSign_end h] at hs; cases hs
theorem arrow_ao {l m : List Tk} {N off : Nat} (h : Ao l m N off) {i : Nat} (hi : i ≤ N) : isSign m (i + off) kArrow = isSign l i kArrow := by
  rcases Nat.lt_or_ge i N with h1 | h1
  · exact isSign_ao h h1 _
  · obtain rfl : i = N := by omega
    rw [isSign_end h, h.stop.1]

theorem take_ao {l m : List Tk} {N off : Nat} (h : Ao l m N off) {s : S} (hi : s.pl ≤ N) {k : ByteArray} {u : Unit} {s' : S} (ht : take l s k = .ok u s') : take m (shO off s) k = .ok u (shO off s') ∧ s'.pl ≤ N := by
  unfold take at ht ⊢
  split at ht
  · rename_i hs
    have hin := isSign_lo h hi hs
    have e : isSign m (shO off s).pl k = true := (isSign_ao h hin k).trans hs
    injection ht with h1 h2
    subst h1 h2
    rw [if_pos e]
    refine ⟨?_, hin⟩
    simp only [shO]
    congr 2
    omega
  · cases ht

theorem obind {α β : Type} {r : R α} {f : α → S → R β} {b : β} {s' : S} (h : r.bind f = .ok b s') : ∃ a s1, r = .ok a s1 ∧ f a s1 = .ok b s' := by
  cases r with
  | ok a s1 => exact ⟨a, s1, rfl, h⟩
  | bad p e => cases h

theorem rowF_ao {l m : List Tk} {N off : Nat} (h : Ao l m N off) {A B : P} (hA : AoP N off A B) {kind : Int} (hk : kind = 6 ∨ kind = 7) : ∀ (n : Nat) (acc : List (ByteArray × Tr)), AoP N off (rowF l A kind n acc) (rowF m B kind n acc) := by
  intro n
  induction n with
  | zero =>
    intro acc s hi t s' ht
    unfold rowF at ht
    split at ht
    · cases ht
    · split at ht <;> cases ht
  | succ n ih =>
    intro acc s hi t s' ht
    unfold rowF at ht
    split at ht
    · cases ht
    · rename_i lb hlb
      split at ht
      · cases ht
      · rename_i hnew
        obtain ⟨u, s1, h1, ht⟩ := obind ht
        obtain ⟨x, s2, h2, ht⟩ := obind ht
        have hin : s.pl < N := by
          rcases Nat.lt_or_ge s.pl N with h8 | h8
          · exact h8
          · exfalso
            have h9 : s.pl = N := by omega
            obtain ⟨t0, ht0, hk0⟩ := h.fin
            unfold isLab at hlb
            rw [h9, ht0] at hlb
            simp only at hlb
            rw [if_neg] at hlb
            · cases hlb
            · rw [hk0]
              by_cases h6 : kind = 6 <;> simp [h6]
        have e : isLab m kind (shO off s).pl = some lb := by
          have : isLab m kind (s.pl + off) = isLab l kind s.pl := by unfold isLab; rw [h.same _ hin]
          exact this.trans hlb
        have e1 : ({ shO off s with pl := (shO off s).pl + 1 } : S) = shO off { s with pl := s.pl + 1 } := by simp only [shO]; congr 1; omega
        obtain ⟨g1, g1p⟩ := take_ao h (s := { s with pl := s.pl + 1 }) (by simp only; omega) h1
        obtain ⟨g2, g2p⟩ := hA s1 g1p x s2 h2
        unfold rowF
        rw [e]
        simp only
        rw [if_neg hnew, e1, g1]
        show (B (shO off s1)).bind _ = _ ∧ _
        rw [g2]
        show (if isSign m (shO off s2).pl (kBetw kind) = true then _ else _) = _ ∧ _
        have eb : isSign m (shO off s2).pl (kBetw kind) = isSign l s2.pl (kBetw kind) := by
          rcases Nat.lt_or_ge s2.pl N with h8 | h8
          · exact isSign_ao h h8 _
          · have h9 : s2.pl = N := by omega
            rw [h9, isSign_end h]
            show isSign m (s2.pl + off) (kBetw kind) = false
            rw [h9]
            rcases hk with rfl | rfl
            · exact h.stop.2.1
            · exact h.stop.2.2
        rw [eb]
        split at ht
        · rename_i hs
          have hin2 := isSign_lo h g2p hs
          have e3 : ({ shO off s2 with pl := (shO off s2).pl + 1 } : S) = shO off { s2 with pl := s2.pl + 1 } := by simp only [shO]; congr 1; omega
          rw [if_pos hs, e3]
          exact ih _ _ (by simp only; omega) t s' ht
        · rename_i hs
          obtain ⟨u3, s3, h3, ht⟩ := obind ht
          obtain ⟨g3, g3p⟩ := take_ao h g2p h3
          rw [if_neg hs, g3]
          injection ht with h5 h6
          subst h5 h6
          exact ⟨rfl, g3p⟩

theorem isLab_lo {l m : List Tk} {N off : Nat} (h : Ao l m N off) {i : Nat} (hi : i ≤ N) {kind : Int} {lb : ByteArray} (hl : isLab l kind i = some lb) : i < N := by
  rcases Nat.lt_or_ge i N with h8 | h8
  · exact h8
  · exfalso
    have h9 : i = N := by omega
    obtain ⟨t0, ht0, hk0⟩ := h.fin
    unfold isLab at hl
    rw [h9, ht0] at hl
    simp only at hl
    rw [if_neg] at hl
    · cases hl
    · rw [hk0]
      by_cases h6 : kind = 6 <;> simp [h6]

theorem rowF_lo {l m : List Tk} {N off : Nat} (h : Ao l m N off) {A : P} {kind : Int} {n : Nat} {acc : List (ByteArray × Tr)} {s : S} (hi : s.pl ≤ N) {t : Tr} {s' : S} (ht : rowF l A kind n acc s = .ok t s') : s.pl < N := by
  unfold rowF at ht
  split at ht
  · cases ht
  · rename_i lb hlb
    exact isLab_lo h hi hlb

def OAo (N off : Nat) (A B : Option P) : Prop := (A = none ∧ B = none) ∨ ∃ a b, A = some a ∧ B = some b ∧ AoP N off a b

theorem shO_next (off : Nat) (s : S) (n : Nat) : ({ shO off s with pl := (shO off s).pl + n } : S) = shO off { s with pl := s.pl + n } := by
  simp only [shO]
  congr 1
  omega

theorem operF_ao {l m : List Tk} {N off : Nat} (h : Ao l m N off) {A B : Option P} (hA : OAo N off A B) : AoP N off (operF l A) (operF m B) := by
  intro s hi t s' ht
  have hin : s.pl < N := by
    rcases Nat.lt_or_ge s.pl N with h8 | h8
    · exact h8
    · exfalso
      have h9 : s.pl = N := by omega
      obtain ⟨t0, ht0, hk0⟩ := h.fin
      unfold operF at ht
      rw [h9, ht0] at ht
      simp only [isSign_end h, Bool.false_eq_true, if_false] at ht
      rw [if_pos (by simp [baseK, hk0])] at ht
      cases ht
  unfold operF at ht ⊢
  have e : m[(shO off s).pl]? = l[s.pl]? := h.same s.pl hin
  rw [e]
  cases hk : l[s.pl]? with
  | none => rw [hk] at ht; cases ht
  | some tk =>
    rw [hk] at ht
    simp only at ht ⊢
    have eQ : isSign m (shO off s).pl kQ = isSign l s.pl kQ := isSign_ao h hin _
    have eO : isSign m (shO off s).pl kOpen = isSign l s.pl kOpen := isSign_ao h hin _
    have e6 : isSign m (shO off s).pl (kLeft 6) = isSign l s.pl (kLeft 6) := isSign_ao h hin _
    have e7 : isSign m (shO off s).pl (kLeft 7) = isSign l s.pl (kLeft 7) := isSign_ao h hin _
    rw [eQ, eO, e6, e7]
    cases hQ : isSign l s.pl kQ with
    | true =>
      rw [hQ] at ht
      simp only [if_true] at ht ⊢
      injection ht with h1 h2
      subst h1 h2
      refine ⟨?_, hin⟩
      simp only [shO]
      congr 2
      omega
    | false =>
      rw [hQ] at ht
      simp only [Bool.false_eq_true, if_false] at ht ⊢
      cases hO : isSign l s.pl kOpen with
      | true =>
        rw [hO] at ht
        simp only [if_true] at ht ⊢
        rcases hA with ⟨rfl, rfl⟩ | ⟨a, b, rfl, rfl, hab⟩
        · cases ht
        · simp only at ht ⊢
          obtain ⟨x, s1, h1, ht⟩ := obind ht
          obtain ⟨u, s2, h2, ht⟩ := obind ht
          obtain ⟨g1, g1p⟩ := hab { s with pl := s.pl + 1 } (by simp only; omega) x s1 h1
          obtain ⟨g2, g2p⟩ := take_ao h g1p h2
          rw [shO_next, g1]
          show (take m (shO off s1) kClose).bind _ = _ ∧ _
          rw [g2]
          injection ht with h5 h6
          subst h5 h6
          exact ⟨rfl, g2p⟩
      | false =>
        rw [hO] at ht
        simp only [Bool.false_eq_true, if_false] at ht ⊢
        cases h6 : isSign l s.pl (kLeft 6) with
        | true =>
          rw [h6] at ht
          simp only [if_true] at ht ⊢
          rcases hA with ⟨rfl, rfl⟩ | ⟨a, b, rfl, rfl, hab⟩
          · cases ht
          · simp only at ht ⊢
            have hin2 : s.pl + 1 < N := by
              cases hR : isSign l (s.pl + 1) (kRight 6) with
              | true => exact isSign_lo h (by omega) hR
              | false =>
                rw [hR] at ht
                simp only [Bool.false_eq_true, if_false] at ht
                exact rowF_lo h (s := { s with pl := s.pl + 1 }) (by simp only; omega) ht
            have eR : isSign m ((shO off s).pl + 1) (kRight 6) = isSign l (s.pl + 1) (kRight 6) := by
              have := isSign_ao h hin2 (kRight 6)
              rw [← this]
              congr 1
              simp only [shO]
              omega
            rw [eR]
            cases hR : isSign l (s.pl + 1) (kRight 6) with
            | true =>
              rw [hR] at ht
              simp only [if_true] at ht ⊢
              injection ht with h1 h2
              subst h1 h2
              rw [shO_next]
              exact ⟨rfl, by simp only; omega⟩
            | false =>
              rw [hR] at ht
              simp only [Bool.false_eq_true, if_false] at ht ⊢
              rw [shO_next]
              exact rowF_ao h hab (Or.inl rfl) 50 [] _ (by simp only; omega) t s' ht
        | false =>
          rw [h6] at ht
          simp only [Bool.false_eq_true, if_false] at ht ⊢
          cases h7 : isSign l s.pl (kLeft 7) with
          | true =>
            rw [h7] at ht
            simp only [if_true] at ht ⊢
            rcases hA with ⟨rfl, rfl⟩ | ⟨a, b, rfl, rfl, hab⟩
            · cases ht
            · simp only at ht ⊢
              rw [shO_next]
              exact rowF_ao h hab (Or.inr rfl) 50 [] _ (by simp only; omega) t s' ht
          | false =>
            rw [h7] at ht
            simp only [Bool.false_eq_true, if_false] at ht ⊢
            by_cases hb : baseK tk < 0
            · rw [if_pos hb] at ht; cases ht
            · rw [if_neg hb] at ht ⊢
              injection ht with h1 h2
              subst h1 h2
              rw [shO_next]
              exact ⟨rfl, hin⟩

theorem wholeF_ao {l m : List Tk} {N off : Nat} (h : Ao l m N off) {A B : Option P} (hA : OAo N off A B) : AoP N off (wholeF l A) (wholeF m B) := by
  intro s hi t s' ht
  unfold wholeF at ht ⊢
  obtain ⟨a, s1, h1, ht⟩ := obind ht
  obtain ⟨g1, g1p⟩ := operF_ao h hA s hi a s1 h1
  rw [g1]
  show (if isSign m (s1.pl + off) kArrow = true then _ else _) = _ ∧ _
  rw [arrow_ao h g1p]
  cases hs : isSign l s1.pl kArrow with
  | true =>
    rw [hs] at ht
    have hin := isSign_lo h g1p hs
    simp only [if_true] at ht ⊢
    rcases hA with ⟨rfl, rfl⟩ | ⟨p, q, rfl, rfl, hab⟩
    · cases ht
    · simp only at ht ⊢
      obtain ⟨x, s2, h2, ht⟩ := obind ht
      obtain ⟨g2, g2p⟩ := hab { s1 with pl := s1.pl + 1 } (by simp only; omega) x s2 h2
      rw [shO_next, g2]
      injection ht with h5 h6
      subst h5 h6
      exact ⟨rfl, g2p⟩
  | false =>
    rw [hs] at ht
    simp only [Bool.false_eq_true, if_false] at ht ⊢
    injection ht with h5 h6
    subst h5 h6
    exact ⟨rfl, g1p⟩

/-- What is read up to an End is read just so where the End's place is taken by what does not go on. -/
theorem typeF_ao {l m : List Tk} {N off : Nat} (h : Ao l m N off) : ∀ d : Nat, AoP N off (typeF l d) (typeF m d)
  | 0 => wholeF_ao h (Or.inl ⟨rfl, rfl⟩)
  | d + 1 => wholeF_ao h (Or.inr ⟨_, _, rfl, rfl, typeF_ao h d⟩)

end Go.Proofs.Ytgghmhgbdknkaaa.T
end

section
/-
  Plain lists: how the ?s of what typeF reads are numbered: each has its own number, from the next site's on, with none left out. No conditions but those that each lemma names.
-/
namespace Go.Proofs.Ytgghmhgbdknkaaa.T
open Go

def isQ (z : L.Nd) : Bool := decide (z.kind = 0)
/-- The numbers of a tree's ?s. -/
def nums (t : Tr) : List Int := (t.flat.filter isQ).map (·.n)

theorem nums_named (p : ByteArray × Tr) : nums (named p) = nums p.2 := by
  unfold nums Tr.flat named
  simp only [List.filter_cons, isQ]
  by_cases h : p.2.1.kind = 0 <;> simp [h]

theorem nums_arr (a b : Tr) : nums (arrT a b) = nums a ++ nums b := by
  unfold nums
  simp only [arrT, Tr.flat, L.Fo.flat, List.append_nil]
  rw [List.filter_cons, if_neg (by simp [isQ]), ← List.cons_append, List.filter_append, List.map_append]

theorem nums_flatMap : ∀ r : List Tr, ((r.flatMap Tr.flat).filter isQ).map (·.n) = r.flatMap nums
  | [] => rfl
  | t :: r => by
    simp only [List.flatMap_cons, List.filter_append, List.map_append, nums_flatMap r]
    rfl

theorem nums_row {kind : Int} (hk : kind = 6 ∨ kind = 7) (l : List (ByteArray × Tr)) : (nums (rowT kind l)).Perm (l.flatMap fun p => nums p.2) := by
  have hp := order_perm (l.map (·.1))
  rw [List.length_map] at hp
  have e : nums (rowT kind l) = (order (l.map (·.1))).flatMap fun i => nums (l.getD i (e0, (⟨0, e0, 0⟩, .nil))).2 := by
    unfold nums rowT Tr.flat
    simp only
    rw [List.filter_cons, if_neg (by simp only [isQ, decide_eq_true_eq]; omega), foOf_flat]
    rw [nums_flatMap, List.flatMap_map]
    congr 1
    funext i
    exact nums_named _
  rw [e]
  refine (hp.flatMap_right _).trans ?_
  have h2 := congrArg (fun x : List (ByteArray × Tr) => x.flatMap fun p => nums p.2) (map_range l (e0, ((⟨0, e0, 0⟩ : L.Nd), L.Fo.nil)))
  simp only [List.flatMap_map] at h2
  rw [h2]

/-- These numbers are those from a's next site on, up to b's. -/
def Nums (a b : S) (ns : List Int) : Prop := ∃ k : Nat, b.site = a.site + (k : Int) ∧ ns.Perm ((List.range k).map fun i : Nat => a.site + (i : Int))

theorem Nums.nil {a b : S} (h : b.site = a.site) : Nums a b [] := ⟨0, by simp [h], by simp⟩
theorem Nums.app {a b c : S} {x y : List Int} (h : Nums a b x) (k : Nums b c y) : Nums a c (x ++ y) := by
  obtain ⟨i, h1, h2⟩ := h
  obtain ⟨j, k1, k2⟩ := k
  refine ⟨i + j, by rw [k1, h1]; omega, ?_⟩
  rw [List.range_add, List.map_append, List.map_map]
  refine h2.append (k2.trans (List.Perm.of_eq ?_))
  apply List.map_congr_left
  intro n _
  simp only [Function.comp_apply]
  rw [h1]
  omega
theorem Nums.perm {a b : S} {x y : List Int} (h : Nums a b x) (p : y.Perm x) : Nums a b y := by
  obtain ⟨k, h1, h2⟩ := h
  exact ⟨k, h1, p.trans h2⟩
theorem Nums.from {a a' b b' : S} {x : List Int} (h : Nums a b x) (ha : a'.site = a.site) (hb : b'.site = b.site) : Nums a' b' x := by
  obtain ⟨k, h1, h2⟩ := h
  exact ⟨k, by rw [ha, hb, h1], by rw [ha]; exact h2⟩

def NumP (A : P) : Prop := ∀ s t s', A s = .ok t s' → Nums s s' (nums t)

theorem rowF_num {l : List Tk} {A : P} (hA : NumP A) {kind : Int} : ∀ (n : Nat) (acc : List (ByteArray × Tr)) (s : S) (t : Tr) (s' : S), rowF l A kind n acc s = .ok t s' →
    ∃ its, t = rowT kind (acc ++ its) ∧ Nums s s' (its.flatMap fun p => nums p.2) := by
  intro n
  induction n with
  | zero =>
    intro acc s t s' h
    unfold rowF at h
    split at h
    · cases h
    · split at h <;> cases h
  | succ n ih =>
    intro acc s t s' h
    unfold rowF at h
    split at h
    · cases h
    · rename_i lb hlb
      split at h
      · cases h
      · obtain ⟨u, s1, h1, h⟩ := bind_ok h
        obtain ⟨rfl, h1l⟩ := take_ok h1
        obtain ⟨x, s2, h2, h⟩ := bind_ok h
        have g := hA _ x s2 h2
        split at h
        · obtain ⟨its, e1, e2⟩ := ih _ _ _ _ h
          refine ⟨(lb, x) :: its, by rw [e1, List.append_assoc]; rfl, ?_⟩
          rw [List.flatMap_cons]
          exact Nums.app (g.from (a' := s) (b' := s2) rfl rfl) (e2.from rfl rfl)
        · obtain ⟨u, s3, h3, h⟩ := bind_ok h
          obtain ⟨rfl, h3l⟩ := take_ok h3
          injection h with h4 h5
          subst h5
          refine ⟨[(lb, x)], h4.symm, ?_⟩
          simp only [List.flatMap_cons, List.flatMap_nil, List.append_nil]
          exact g.from rfl rfl

theorem operF_num {l : List Tk} {A : Option P} (hA : ∀ B, A = some B → NumP B) : NumP (operF l A) := by
  intro s t s' h
  unfold operF at h
  split at h
  · cases h
  · rename_i tk htk
    split at h
    · injection h with h1 h2
      subst h1 h2
      exact ⟨1, rfl, by simp [nums, leafT, Tr.flat, L.Fo.flat, isQ]⟩
    · split at h
      · split at h
        · cases h
        · rename_i B
          obtain ⟨x, s1, h1, h⟩ := bind_ok h
          obtain ⟨u, s2, h2, h⟩ := bind_ok h
          obtain ⟨rfl, h2l⟩ := take_ok h2
          injection h with h3 h4
          subst h3 h4
          exact (hA B rfl _ x s1 h1).from rfl rfl
      · split at h
        · split at h
          · cases h
          · rename_i B
            split at h
            · injection h with h1 h2
              subst h1 h2
              exact (Nums.nil rfl).perm (by simpa using nums_row (kind := 6) (Or.inl rfl) [])
            · obtain ⟨its, e1, e2⟩ := rowF_num (hA B rfl) 50 [] _ t s' h
              rw [List.nil_append] at e1
              subst e1
              exact (e2.perm (nums_row (Or.inl rfl) _)).from rfl rfl
        · split at h
          · split at h
            · cases h
            · rename_i B
              obtain ⟨its, e1, e2⟩ := rowF_num (hA B rfl) 50 [] _ t s' h
              rw [List.nil_append] at e1
              subst e1
              exact (e2.perm (nums_row (Or.inr rfl) _)).from rfl rfl
          · split at h
            · cases h
            · rename_i hb
              injection h with h1 h2
              subst h1 h2
              have hb1 : T.baseK tk ≠ 0 := by
                unfold baseK
                repeat' split
                all_goals omega
              refine (Nums.nil rfl).perm ?_
              simp [nums, leafT, Tr.flat, L.Fo.flat, isQ, hb1]

theorem wholeF_num {l : List Tk} {A : Option P} (hA : ∀ B, A = some B → NumP B) : NumP (wholeF l A) := by
  intro s t s' h
  unfold wholeF at h
  obtain ⟨a, s1, h1, h⟩ := bind_ok h
  have g := operF_num hA s a s1 h1
  split at h
  · cases A with
    | none => cases h
    | some B =>
      simp only at h
      obtain ⟨b, s2, h2, h⟩ := bind_ok h
      injection h with h3 h4
      subst h3 h4
      have k := hA B rfl _ b s2 h2
      rw [nums_arr]
      exact g.app (k.from rfl rfl)
  · injection h with h3 h4
    subst h3 h4
    exact g

/-- The ?s of what typeF reads have the numbers from the next site's on, each once. -/
theorem typeF_num (l : List Tk) : ∀ d : Nat, NumP (typeF l d)
  | 0 => wholeF_num (fun B h => by cases h)
  | d + 1 => wholeF_num (fun B h => by
    injection h with h
    subst h
    exact typeF_num l d)

end Go.Proofs.Ytgghmhgbdknkaaa.T
end
