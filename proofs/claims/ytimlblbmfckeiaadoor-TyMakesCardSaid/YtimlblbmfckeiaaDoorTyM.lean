/-
  Plain lists of nodes, no program: forests in pre-order, what a type is, where a tree ends. No conditions but those that each lemma names.
-/
import Derived.Test.YtimlblbmfckeiaaDoorTyW
namespace Go.Proofs.YtimlblbmfckeiaaDoor.L
open Go

/-- A node: its kind, its label, its number. -/
structure Nd where
  kind : Int
  name : ByteArray
  n : Int
  deriving DecidableEq, Inhabited

def many (x : Nd) : Int := if x.kind = 5 then 2 else if x.kind = 6 ∨ x.kind = 7 then x.n else 0

def bare (x : Nd) : Bool := decide (x.name.size = 0) && decide (x.kind ≠ 9)

def numbered (x : Nd) : Bool :=
  if x.kind = 0 ∨ x.kind = 8 ∨ x.kind = 9 then decide (0 ≤ x.n)
  else if x.kind = 1 ∨ x.kind = 2 ∨ x.kind = 3 ∨ x.kind = 4 ∨ x.kind = 5 then decide (x.n = 0)
  else if x.kind = 6 then decide (0 ≤ x.n) && decide (x.n ≤ 50)
  else if x.kind = 7 then decide (1 ≤ x.n) && decide (x.n ≤ 50)
  else false

def isLabel (kind : Int) (s : ByteArray) : Bool := (decide (kind = 6) && nameB 97 122 s) || (decide (kind = 7) && nameB 65 90 s)

/-- One text ahead of another, byte by byte. -/
def ltB (a b : ByteArray) : Bool := Op.bytesLess a.toList b.toList

def mayStand (x : Nd) (k : Int) (before : ByteArray) (kid : Nd) : Bool :=
  if x.kind = 5 then bare kid
  else if kid.kind = 9 then decide (kid.name.size = 0) && decide (k = x.n - 1)
  else isLabel x.kind kid.name && ltB before kid.name

/-- A row of trees: the first one's outermost node, its children, the others. -/
inductive Fo where
  | nil : Fo
  | cons : Nd → Fo → Fo → Fo

def Fo.flat : Fo → List Nd
  | .nil => []
  | .cons x ks r => x :: (ks.flat ++ r.flat)
def Fo.count : Fo → Nat
  | .nil => 0
  | .cons _ _ r => r.count + 1
def Fo.deep : Fo → Nat
  | .nil => 0
  | .cons _ ks r => max (ks.deep + 1) r.deep

/-- The children from number k on, the one ahead of them labelled so, may stand under x. -/
def Fo.stand (x : Nd) : Nat → ByteArray → Fo → Bool
  | _, _, .nil => true
  | k, b, .cons y _ r => mayStand x k b y && Fo.stand x (k + 1) y.name r

/-- Each node is such as it may be, has as many children as it says, and these may stand under it. -/
def Fo.ok : Fo → Bool
  | .nil => true
  | .cons x ks r => numbered x && decide (many x = ks.count) && Fo.stand x 0 ⟨#[]⟩ ks && ks.ok && r.ok

theorem many_of_numbered {x : Nd} (h : numbered x = true) : 0 ≤ many x ∧ many x ≤ 50 := by
  unfold numbered at h
  unfold many
  repeat' split at h
  all_goals simp at h
  all_goals repeat' split
  all_goals omega

/-- What stands behind one tree, with so many levels left. -/
def kidsF (V : List Nd → Option (List Nd)) (x : Nd) : Nat → Nat → ByteArray → List Nd → Option (List Nd)
  | 0, _, _, l => some l
  | _ + 1, _, _, [] => none
  | c + 1, k, b, y :: r => if mayStand x k b y then (V (y :: r)).bind (kidsF V x c (k + 1) y.name) else none

def visitF : Nat → List Nd → Option (List Nd)
  | 0, _ => none
  | _ + 1, [] => none
  | m + 1, x :: r => if numbered x then kidsF (visitF m) x (many x).toNat 0 ⟨#[]⟩ r else none

/-- Is it a type? -/
def rightL (l : List Nd) : Bool :=
  match l with
  | [] => false
  | x :: _ => decide (l.length ≤ 10000) && bare x && decide (visitF 100 l = some [])

theorem kidsF_iff {V : List Nd → Option (List Nd)} {m : Nat} (hV : ∀ l r, V l = some r ↔ ∃ x ks, l = x :: (ks.flat ++ r) ∧ (Fo.cons x ks .nil).ok = true ∧ ks.deep + 1 ≤ m) (x : Nd) :
    ∀ (c k : Nat) (b : ByteArray) (l r : List Nd), kidsF V x c k b l = some r ↔ ∃ f : Fo, l = f.flat ++ r ∧ f.count = c ∧ f.ok = true ∧ Fo.stand x k b f = true ∧ f.deep ≤ m := by
  intro c
  induction c with
  | zero =>
    intro k b l r
    rw [kidsF]
    constructor
    · intro h
      cases h
      exact ⟨.nil, rfl, rfl, rfl, rfl, Nat.zero_le _⟩
    · rintro ⟨f, rfl, hc, _⟩
      cases f with
      | nil => rfl
      | cons x ks r => simp [Fo.count] at hc
  | succ c ih =>
    intro k b l r
    cases l with
    | nil =>
      rw [kidsF]
      constructor
      · intro h; cases h
      · rintro ⟨f, hf, hc, _⟩
        cases f with
        | nil => simp [Fo.count] at hc
        | cons x ks r => simp [Fo.flat] at hf
    | cons y l =>
      rw [kidsF]
      constructor
      · intro h
        split at h
        · rename_i hm
          obtain ⟨r1, h1, h2⟩ := Option.bind_eq_some_iff.1 h
          obtain ⟨z, ks, hz, hok, hd⟩ := (hV _ _).1 h1
          obtain ⟨f, hf, hc, hfo, hfs, hfd⟩ := (ih _ _ _ _).1 h2
          injection hz with hz1 hz2
          subst hz1
          refine ⟨.cons y ks f, ?_, ?_, ?_, ?_, ?_⟩
          · simp [Fo.flat, hz2, hf]
          · simp [Fo.count, hc]
          · simp [Fo.ok] at hok ⊢
            exact ⟨hok, hfo⟩
          · simp [Fo.stand, hm, hfs]
          · simp [Fo.deep]; omega
        · cases h
      · rintro ⟨f, hf, hc, hfo, hfs, hfd⟩
        cases f with
        | nil => simp [Fo.count] at hc
        | cons z ks g =>
          simp only [Fo.flat, List.cons_append, List.cons.injEq] at hf
          obtain ⟨rfl, hf⟩ := hf
          simp [Fo.count] at hc
          simp [Fo.stand] at hfs
          simp [Fo.deep] at hfd
          simp [Fo.ok] at hfo
          rw [if_pos hfs.1, Option.bind_eq_some_iff]
          refine ⟨g.flat ++ r, (hV _ _).2 ⟨y, ks, by rw [hf]; simp, by simp [Fo.ok]; exact hfo.1, by omega⟩, (ih _ _ _ _).2 ⟨g, rfl, hc, hfo.2, hfs.2, by omega⟩⟩

theorem visitF_iff (m : Nat) : ∀ l r, visitF m l = some r ↔ ∃ x ks, l = x :: (ks.flat ++ r) ∧ (Fo.cons x ks .nil).ok = true ∧ ks.deep + 1 ≤ m := by
  induction m with
  | zero =>
    intro l r
    rw [visitF]
    constructor
    · intro h; cases h
    · rintro ⟨_, _, _, _, h⟩; omega
  | succ m ih =>
    intro l r
    cases l with
    | nil =>
      rw [visitF]
      constructor
      · intro h; cases h
      · rintro ⟨_, _, h, _⟩; cases h
    | cons x l =>
      rw [visitF]
      constructor
      · intro h
        split at h
        · rename_i hn
          obtain ⟨f, hf, hc, hfo, hfs, hfd⟩ := (kidsF_iff ih x _ _ _ _ _).1 h
          have := many_of_numbered hn
          refine ⟨x, f, by rw [hf], ?_, by omega⟩
          simp [Fo.ok, hn, hfo, hfs, hc]
          omega
        · cases h
      · rintro ⟨y, ks, hl, hok, hd⟩
        injection hl with h1 h2
        subst h1
        simp [Fo.ok] at hok
        obtain ⟨⟨⟨hn, hm⟩, hs⟩, hk⟩ := hok
        rw [if_pos hn]
        exact (kidsF_iff ih x _ _ _ _ _).2 ⟨ks, h2, by omega, hk, hs, by omega⟩

/-- A type is a tree, each of whose nodes is such as it may be. -/
theorem rightL_iff (l : List Nd) : rightL l = true ↔ ∃ x ks, l = x :: Fo.flat ks ∧ l.length ≤ 10000 ∧ bare x = true ∧ (Fo.cons x ks .nil).ok = true ∧ ks.deep + 1 ≤ 100 := by
  cases l with
  | nil => simp [rightL]
  | cons y l =>
    simp only [rightL, Bool.and_eq_true, decide_eq_true_eq]
    constructor
    · rintro ⟨⟨h1, h2⟩, h3⟩
      obtain ⟨x, ks, hl, hok, hd⟩ := (visitF_iff _ _ _).1 h3
      rw [List.append_nil] at hl
      injection hl with ha hb
      subst ha
      exact ⟨y, ks, by rw [hb], h1, h2, hok, hd⟩
    · rintro ⟨x, ks, hl, h1, h2, hok, hd⟩
      injection hl with ha hb
      subst ha
      exact ⟨⟨h1, h2⟩, (visitF_iff _ _ _).2 ⟨y, ks, by rw [hb]; simp, hok, hd⟩⟩

/-- How many nodes so many trees are, as far as there are nodes. -/
def eat : Nat → List Nd → Nat
  | _, [] => 0
  | 0, _ => 0
  | c + 1, x :: r => 1 + eat (c + (many x).toNat) r

theorem eat_zero (l : List Nd) : eat 0 l = 0 := by cases l <;> rfl

theorem eat_le (c : Nat) (l : List Nd) : eat c l ≤ l.length := by
  induction l generalizing c with
  | nil => simp [eat]
  | cons x l ih =>
    cases c with
    | zero => simp [eat]
    | succ c =>
      rw [eat]
      have := ih (c + (many x).toNat)
      simp
      omega

theorem eat_pos {c : Nat} {l : List Nd} (hc : 0 < c) (hl : l ≠ []) : 0 < eat c l := by
  obtain ⟨c, rfl⟩ : ∃ d, c = d + 1 := ⟨c - 1, by omega⟩
  cases l with
  | nil => exact absurd rfl hl
  | cons x l => rw [eat]; omega

/-- The trees of a row are eaten one behind the other. -/
theorem eat_flat (f : Fo) (h : f.ok = true) (c : Nat) (r : List Nd) : eat (f.count + c) (f.flat ++ r) = f.flat.length + eat c r := by
  induction f generalizing c r with
  | nil => simp [Fo.count, Fo.flat]
  | cons x ks g ih1 ih2 =>
    simp [Fo.ok] at h
    obtain ⟨⟨⟨⟨hn, hm⟩, hs⟩, hk⟩, hg⟩ := h
    have e : (Fo.cons x ks g).count + c = (g.count + c) + 1 := by simp [Fo.count]; omega
    have e2 : g.count + c + (many x).toNat = ks.count + (g.count + c) := by omega
    rw [e]
    simp only [Fo.flat, List.cons_append, List.append_assoc]
    rw [eat, e2, ih1 hk, ih2 hg]
    simp
    omega

theorem eat_tree {x : Nd} {ks : Fo} (h : (Fo.cons x ks .nil).ok = true) (r : List Nd) : eat 1 (x :: (ks.flat ++ r)) = ks.flat.length + 1 := by
  have := eat_flat (Fo.cons x ks .nil) h 0 r
  simp only [Fo.count, Fo.flat, List.append_nil, List.cons_append, eat_zero, Nat.zero_add, Nat.add_zero] at this
  rw [this]
  simp

/-- The places of so many trees from place p on. -/
def kidsL (l : List Nd) : Nat → Nat → List Nat
  | 0, _ => []
  | c + 1, p => if p < l.length then p :: kidsL l c (p + eat 1 (l.drop p)) else []

theorem kidsL_length_le (l : List Nd) (c p : Nat) : (kidsL l c p).length ≤ c := by
  induction c generalizing p with
  | zero => simp [kidsL]
  | succ c ih =>
    rw [kidsL]
    split
    · have := ih (p + eat 1 (l.drop p)); simp; omega
    · simp

end Go.Proofs.YtimlblbmfckeiaaDoor.L
