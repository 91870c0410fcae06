/-
  The texts AsS, AsC, AsV, one behind the other. Conditions: those that each of them names.
-/
import Derived.Lib.SlicesS
import Derived.Test.YtmcdggjcpfkchaaMA2
import Derived.Test.YtmcdggjcpfkchaaM2
section
/-
  The walk of isSound, a theorem a kind. Written by tools/assound.py.
-/
namespace Go.Proofs.Ytmcdggjcpfkchaa
open Go.RowKit

set_option linter.unusedVariables false

namespace E
/-- Is what a part holds beside its children sound? -/
def sound (p : Pt) : Bool :=
  if p.kind = 0 then litOK p
  else if p.kind = 1 then (nameOK p.name && only p (⟨0, ⟨#[]⟩, p.name, ⟨#[]⟩, 0, 0, [], []⟩ : Pt))
  else if p.kind = 2 then (nameB 97 122 p.bind && (plain p.t && only p (⟨0, ⟨#[]⟩, ⟨#[]⟩, p.bind, 0, 0, p.t, []⟩ : Pt)))
  else if p.kind = 3 then only p (⟨0, ⟨#[]⟩, ⟨#[]⟩, ⟨#[]⟩, 0, 0, [], []⟩ : Pt)
  else if p.kind = 4 then (nameB 97 122 p.bind && (plain p.t && only p (⟨0, ⟨#[]⟩, ⟨#[]⟩, p.bind, 0, 0, p.t, []⟩ : Pt)))
  else if p.kind = 5 then (nameB 97 122 p.name && (nameB 97 122 p.bind && (plain p.t && (plain p.u && only p (⟨0, ⟨#[]⟩, p.name, p.bind, 0, 0, p.t, p.u⟩ : Pt)))))
  else if p.kind = 6 then only p (⟨0, ⟨#[]⟩, ⟨#[]⟩, ⟨#[]⟩, 0, 0, [], []⟩ : Pt)
  else if p.kind = 7 then (decide (1 ≤ p.many) && (decide (p.many ≤ 50) && only p (⟨0, ⟨#[]⟩, ⟨#[]⟩, ⟨#[]⟩, p.many, 0, [], []⟩ : Pt)))
  else if p.kind = 8 then (nameB 97 122 p.bind && only p (⟨0, ⟨#[]⟩, ⟨#[]⟩, p.bind, 0, 0, [], []⟩ : Pt))
  else if p.kind = 9 then (oper p.name && only p (⟨0, ⟨#[]⟩, p.name, ⟨#[]⟩, 0, 0, [], []⟩ : Pt))
  else if p.kind = 10 then (decide (0 ≤ p.many) && (decide (p.many ≤ 50) && only p (⟨0, ⟨#[]⟩, ⟨#[]⟩, ⟨#[]⟩, p.many, 0, [], []⟩ : Pt)))
  else if p.kind = 11 then (nameB 97 122 p.name && only p (⟨0, ⟨#[]⟩, p.name, ⟨#[]⟩, 0, 0, [], []⟩ : Pt))
  else if p.kind = 12 then (nameB 65 90 p.name && (plain p.t && only p (⟨0, ⟨#[]⟩, p.name, ⟨#[]⟩, 0, 0, p.t, []⟩ : Pt)))
  else if p.kind = 13 then (plain p.t && only p (⟨0, ⟨#[]⟩, ⟨#[]⟩, ⟨#[]⟩, 0, 0, p.t, []⟩ : Pt))
  else if p.kind = 14 then (plain p.t && (plain p.u && (decide (0 ≤ p.num) && only p (⟨0, ⟨#[]⟩, ⟨#[]⟩, ⟨#[]⟩, 0, p.num, p.t, p.u⟩ : Pt))))
  else false
end E

end Go.Proofs.Ytmcdggjcpfkchaa
end

section
/-
  slices.Contains at a slice that reads as texts; the walk of mayStand. Conditions: labels of at most 2000000 bytes.
-/
namespace Go.Proofs.Ytmcdggjcpfkchaa
open Go.RowKit

namespace E
/-- May kid be child k of p, after children with these labels? -/
def may (p : Pt) (k : Int) (before : List ByteArray) (kid : Pt) : Bool :=
  if p.kind = 10 then !decide (kid.kind = 8) && (nameB 97 122 kid.label && !Lib.containsS before kid.label)
  else if p.kind = 7 ∧ 0 < k then decide (kid.kind = 8) && (nameB 65 90 kid.label && !Lib.containsS before kid.label)
  else bare kid
end E

end Go.Proofs.Ytmcdggjcpfkchaa
end

section
/-
  What ast.Right asks, in plain lists: a part's children one behind the other; an expression is a tree of sound parts.
-/
namespace Go.Proofs.Ytmcdggjcpfkchaa.E
open Go

/-- The children from number k on, the one ahead of them labelled so, may stand under x. -/
def Fo.stand (x : Pt) : Nat → List ByteArray → Fo → Bool
  | _, _, .nil => true
  | k, b, .cons y _ r => may x k b y && Fo.stand x (k + 1) (b ++ [y.label]) r

/-- Each part is such as it may be, has as many children as it says, and these may stand under it. -/
def Fo.ok : Fo → Bool
  | .nil => true
  | .cons x ks r => sound x && decide (many x = ks.count) && Fo.stand x 0 [] ks && ks.ok && r.ok

theorem many_of_sound {x : Pt} (h : sound x = true) : 0 ≤ many x ∧ many x ≤ 60 := by
  obtain ⟨k, lb, nm, bd, m, n, t, u⟩ := x
  by_cases hk : k < 0 ∨ 15 ≤ k
  · unfold many
    rw [if_pos hk]
    omega
  unfold many
  rw [if_neg hk]
  simp only at hk ⊢
  rcases (by omega : k = 0 ∨ k = 1 ∨ k = 2 ∨ k = 3 ∨ k = 4 ∨ k = 5 ∨ k = 6 ∨ k = 7 ∨ k = 8 ∨ k = 9 ∨ k = 10 ∨ k = 11 ∨ k = 12 ∨ k = 13 ∨ k = 14) with rfl | rfl | rfl | rfl | rfl | rfl | rfl | rfl | rfl | rfl | rfl | rfl | rfl | rfl | rfl
  case inl =>
    have hm : m = 0 := by
      have h2 : litOK ⟨0, lb, nm, bd, m, n, t, u⟩ = true := h
      unfold litOK at h2
      split at h2
      · obtain ⟨-, h3⟩ := (Bool.and_eq_true _ _).mp h2
        simp only [only, useP] at h3
        repeat' split at h3
        all_goals simp at h3
        all_goals first | exact of_decide_eq_true h3.2.2.2.2.1 | exact of_decide_eq_true h3.2.1 | exact of_decide_eq_true h3.2.2.1
      · cases h2
    subst hm
    simp [base, kidsA]
  all_goals simp [sound, only] at h
  all_goals simp [base, kidsA]
  all_goals omega

/-- What stands behind one tree, with so many levels left. -/
def kidsF (V : List Pt → Option (List Pt)) (x : Pt) : Nat → Nat → List ByteArray → List Pt → Option (List Pt)
  | 0, _, _, l => some l
  | _ + 1, _, _, [] => none
  | c + 1, k, b, y :: r => if may x k b y then (V (y :: r)).bind (kidsF V x c (k + 1) (b ++ [y.label])) else none

def visitF : Nat → List Pt → Option (List Pt)
  | 0, _ => none
  | _ + 1, [] => none
  | m + 1, x :: r => if sound x then kidsF (visitF m) x (many x).toNat 0 [] r else none

/-- Is it an expression? -/
def rightL (l : List Pt) : Bool :=
  match l with
  | [] => false
  | x :: _ => decide (l.length ≤ 10000) && bare x && decide (visitF 100 l = some [])

theorem kidsF_iff {V : List Pt → Option (List Pt)} {m : Nat} (hV : ∀ l r, V l = some r ↔ ∃ x ks, l = x :: (ks.flat ++ r) ∧ (Fo.cons x ks .nil).ok = true ∧ ks.deep + 1 ≤ m) (x : Pt) :
    ∀ (c k : Nat) (b : List ByteArray) (l r : List Pt), kidsF V x c k b l = some r ↔ ∃ f : Fo, l = f.flat ++ r ∧ f.count = c ∧ f.ok = true ∧ Fo.stand x k b f = true ∧ f.deep ≤ m := by
  intro c
  induction c with
  | zero =>
    intro k b l r
    rw [kidsF]
    constructor
    · intro h
      cases h
      exact ⟨.nil, rfl, rfl, rfl, rfl, Nat.zero_le _⟩
    · rintro ⟨f, rfl, hc, _⟩
      cases f with
      | nil => rfl
      | cons x ks r => simp [Fo.count] at hc
  | succ c ih =>
    intro k b l r
    cases l with
    | nil =>
      rw [kidsF]
      constructor
      · intro h; cases h
      · rintro ⟨f, hf, hc, _⟩
        cases f with
        | nil => simp [Fo.count] at hc
        | cons x ks r => simp [Fo.flat] at hf
    | cons y l =>
      rw [kidsF]
      constructor
      · intro h
        split at h
        · rename_i hm
          obtain ⟨r1, h1, h2⟩ := Option.bind_eq_some_iff.1 h
          obtain ⟨z, ks, hz, hok, hd⟩ := (hV _ _).1 h1
          obtain ⟨f, hf, hc, hfo, hfs, hfd⟩ := (ih _ _ _ _).1 h2
          injection hz with hz1 hz2
          subst hz1
          refine ⟨.cons y ks f, ?_, ?_, ?_, ?_, ?_⟩
          · simp [Fo.flat, hz2, hf]
          · simp [Fo.count, hc]
          · simp [Fo.ok] at hok ⊢
            exact ⟨hok, hfo⟩
          · simp [Fo.stand, hm, hfs]
          · simp [Fo.deep]; omega
        · cases h
      · rintro ⟨f, hf, hc, hfo, hfs, hfd⟩
        cases f with
        | nil => simp [Fo.count] at hc
        | cons z ks g =>
          simp only [Fo.flat, List.cons_append, List.cons.injEq] at hf
          obtain ⟨rfl, hf⟩ := hf
          simp [Fo.count] at hc
          simp [Fo.stand] at hfs
          simp [Fo.deep] at hfd
          simp [Fo.ok] at hfo
          rw [if_pos hfs.1, Option.bind_eq_some_iff]
          refine ⟨g.flat ++ r, (hV _ _).2 ⟨y, ks, by rw [hf]; simp, by simp [Fo.ok]; exact hfo.1, by omega⟩, (ih _ _ _ _).2 ⟨g, rfl, hc, hfo.2, hfs.2, by omega⟩⟩

theorem visitF_iff (m : Nat) : ∀ l r, visitF m l = some r ↔ ∃ x ks, l = x :: (ks.flat ++ r) ∧ (Fo.cons x ks .nil).ok = true ∧ ks.deep + 1 ≤ m := by
  induction m with
  | zero =>
    intro l r
    rw [visitF]
    constructor
    · intro h; cases h
    · rintro ⟨_, _, _, _, h⟩; omega
  | succ m ih =>
    intro l r
    cases l with
    | nil =>
      rw [visitF]
      constructor
      · intro h; cases h
      · rintro ⟨_, _, h, _⟩; cases h
    | cons x l =>
      rw [visitF]
      constructor
      · intro h
        split at h
        · rename_i hn
          obtain ⟨f, hf, hc, hfo, hfs, hfd⟩ := (kidsF_iff ih x _ _ _ _ _).1 h
          have := many_of_sound hn
          refine ⟨x, f, by rw [hf], ?_, by omega⟩
          simp [Fo.ok, hn, hfo, hfs, hc]
          omega
        · cases h
      · rintro ⟨y, ks, hl, hok, hd⟩
        injection hl with h1 h2
        subst h1
        simp [Fo.ok] at hok
        obtain ⟨⟨⟨hn, hm⟩, hs⟩, hk⟩ := hok
        rw [if_pos hn]
        exact (kidsF_iff ih x _ _ _ _ _).2 ⟨ks, h2, by omega, hk, hs, by omega⟩

/-- An expression is a tree, each of whose parts is such as it may be. -/
theorem rightL_iff (l : List Pt) : rightL l = true ↔ ∃ x ks, l = x :: Fo.flat ks ∧ l.length ≤ 10000 ∧ bare x = true ∧ (Fo.cons x ks .nil).ok = true ∧ ks.deep + 1 ≤ 100 := by
  cases l with
  | nil => simp [rightL]
  | cons y l =>
    simp only [rightL, Bool.and_eq_true, decide_eq_true_eq]
    constructor
    · rintro ⟨⟨h1, h2⟩, h3⟩
      obtain ⟨x, ks, hl, hok, hd⟩ := (visitF_iff _ _ _).1 h3
      rw [List.append_nil] at hl
      injection hl with ha hb
      subst ha
      exact ⟨y, ks, by rw [hb], h1, h2, hok, hd⟩
    · rintro ⟨x, ks, hl, h1, h2, hok, hd⟩
      injection hl with ha hb
      subst ha
      exact ⟨⟨h1, h2⟩, (visitF_iff _ _ _).2 ⟨y, ks, by rw [hb]; simp, hok, hd⟩⟩

end Go.Proofs.Ytmcdggjcpfkchaa.E
end
