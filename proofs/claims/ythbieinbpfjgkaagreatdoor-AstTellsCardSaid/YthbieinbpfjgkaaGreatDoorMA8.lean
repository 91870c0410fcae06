/-
  The texts AsQ0, one behind the other. Conditions: those that each of them names.
-/
import Derived.Test.YthbieinbpfjgkaaGreatDoorMA3
import Derived.Test.YthbieinbpfjgkaaGreatDoorM4
import Derived.Test.YthbieinbpfjgkaaGreatDoorMX1
section
/-
  How an expression is printed, plain: what stands ahead of a part's children, between them, behind; a type's print. No conditions but those that each lemma names.
-/
namespace Go.Proofs.YthbieinbpfjgkaaGreatDoor.L
open Go

theorem fo_inj : ∀ (f g : Fo) (r s : List Nd), f.ok = true → g.ok = true → f.count = g.count → f.flat ++ r = g.flat ++ s → f = g ∧ r = s := by
  intro f
  induction f with
  | nil =>
    intro g r s _ _ hc h
    cases g with
    | nil => exact ⟨rfl, by simpa [Fo.flat] using h⟩
    | cons y ks q => simp [Fo.count] at hc
  | cons x ks q ihk ihq =>
    intro g r s hf hg hc h
    cases g with
    | nil => simp [Fo.count] at hc
    | cons y kt p =>
      simp only [Fo.flat, List.cons_append, List.append_assoc, List.cons.injEq] at h
      obtain ⟨rfl, h⟩ := h
      simp only [Fo.ok, Bool.and_eq_true, decide_eq_true_eq] at hf hg
      obtain ⟨⟨⟨⟨_, h1⟩, _⟩, h2⟩, h3⟩ := hf
      obtain ⟨⟨⟨⟨_, g1⟩, _⟩, g2⟩, g3⟩ := hg
      simp only [Fo.count] at hc
      obtain ⟨rfl, h4⟩ := ihk kt _ _ h2 g2 (by omega) h
      obtain ⟨rfl, h5⟩ := ihq p _ _ h3 g3 (by omega) h4
      exact ⟨rfl, h5⟩

open Classical in
/-- A type's print; none if it is no right tree. -/
noncomputable def tyP (t : List Nd) : List UInt8 := if h : ∃ q : Nd × Fo, t = q.1 :: q.2.flat ∧ (Fo.cons q.1 q.2 .nil).ok = true then prT false h.choose.1 h.choose.2 else []

theorem tyP_eq {x : Nd} {ks : Fo} (h : (Fo.cons x ks .nil).ok = true) : tyP (x :: ks.flat) = prT false x ks := by
  unfold tyP
  have hx : ∃ q : Nd × Fo, x :: ks.flat = q.1 :: q.2.flat ∧ (Fo.cons q.1 q.2 .nil).ok = true := ⟨(x, ks), rfl, h⟩
  rw [dif_pos hx]
  obtain ⟨h1, h2⟩ := hx.choose_spec
  have := (fo_inj (.cons x ks .nil) (.cons hx.choose.1 hx.choose.2 .nil) [] [] h h2 rfl (by simpa [Fo.flat] using h1)).1
  injection this with e1 e2
  rw [← e1, ← e2]

end Go.Proofs.YthbieinbpfjgkaaGreatDoor.L
namespace Go.Proofs.YthbieinbpfjgkaaGreatDoor.E
open Go

/-- A literal. -/
def litP (p : Pt) : List UInt8 :=
  match p.t with
  | [] => []
  | y :: _ => if y.kind = 2 then (if p.num = 0 then [102, 97, 108, 115, 101] else [116, 114, 117, 101]) else if y.kind = 3 then X.G.quoteL p.name.data.toList else if y.kind = 4 then [40, 41] else Lib.itoa p.num
noncomputable def typedP (p : Pt) : List UInt8 := p.bind.data.toList ++ ([58, 32] ++ L.tyP p.t)
/-- Ahead of the children. -/
noncomputable def firstP (p : Pt) : List UInt8 :=
  if p.kind = 0 then litP p
  else if p.kind = 1 then p.name.data.toList
  else if p.kind = 2 then [40, 102, 117, 110, 32, 40] ++ (typedP p ++ [41, 32, 45, 62, 32])
  else if p.kind = 3 ∨ p.kind = 9 ∨ p.kind = 13 then [40]
  else if p.kind = 4 then [40, 108, 101, 116, 32] ++ (typedP p ++ [32, 61, 32])
  else if p.kind = 5 then [40, 114, 101, 99, 32] ++ (p.name.data.toList ++ ([32, 40] ++ (typedP p ++ ([41, 58, 32] ++ (L.tyP p.u ++ [32, 61, 32])))))
  else if p.kind = 6 then [40, 105, 102, 32]
  else if p.kind = 7 then [40, 99, 97, 115, 101, 32]
  else if p.kind = 8 then p.label.data.toList ++ ([32] ++ (p.bind.data.toList ++ [32, 45, 62, 32]))
  else if p.kind = 10 then [123]
  else if p.kind = 12 then [91] ++ (p.name.data.toList ++ [32, 61, 32])
  else if p.kind = 14 then [60]
  else []
/-- Ahead of the child k, if it is not the first one. -/
def betwP (p : Pt) (k : Nat) : List UInt8 :=
  if p.kind = 3 then [32]
  else if p.kind = 4 ∨ p.kind = 5 then [32, 105, 110, 32]
  else if p.kind = 6 then (if k = 1 then [32, 116, 104, 101, 110, 32] else [32, 101, 108, 115, 101, 32])
  else if p.kind = 7 then (if k = 1 then [32, 111, 102, 32] else [32, 124, 32])
  else if p.kind = 9 then [32] ++ (p.name.data.toList ++ [32])
  else if p.kind = 10 then [44, 32]
  else []
/-- Behind the children. -/
noncomputable def lastP (p : Pt) : List UInt8 :=
  if p.kind = 2 ∨ p.kind = 3 ∨ p.kind = 4 ∨ p.kind = 5 ∨ p.kind = 6 ∨ p.kind = 9 then [41]
  else if p.kind = 7 then [32, 101, 110, 100, 41]
  else if p.kind = 10 then [125]
  else if p.kind = 11 then [46] ++ p.name.data.toList
  else if p.kind = 12 then [58, 32] ++ (L.tyP p.t ++ [93])
  else if p.kind = 13 then [58, 32] ++ (L.tyP p.t ++ [41])
  else if p.kind = 14 then [58, 32] ++ (L.tyP p.t ++ ([32, 61, 62, 32] ++ (L.tyP p.u ++ [62])))
  else []

/-- The children of x from number k on. -/
noncomputable def Fo.pr : Fo → Pt → Nat → List UInt8
  | .nil, _, _ => []
  | .cons y ks r, x, k => ((if 0 < k then betwP x k else []) ++ (if x.kind = 10 then y.label.data.toList ++ [32, 61, 32] else [])) ++ ((firstP y ++ (ks.pr y 0 ++ lastP y)) ++ r.pr x (k + 1))
/-- A tree. -/
noncomputable def prT (x : Pt) (ks : Fo) : List UInt8 := firstP x ++ (ks.pr x 0 ++ lastP x)

theorem Fo.pr_cons (y : Pt) (ks r : Fo) (x : Pt) (k : Nat) : (Fo.cons y ks r).pr x k = ((if 0 < k then betwP x k else []) ++ (if x.kind = 10 then y.label.data.toList ++ [32, 61, 32] else [])) ++ (prT y ks ++ r.pr x (k + 1)) := rfl

theorem kind_bound {p : Pt} (h : sound p = true) : 0 ≤ p.kind ∧ p.kind < 15 := by
  by_cases hk : p.kind < 0 ∨ 15 ≤ p.kind
  · unfold sound at h
    rw [if_neg (by omega), if_neg (by omega), if_neg (by omega), if_neg (by omega), if_neg (by omega), if_neg (by omega), if_neg (by omega), if_neg (by omega), if_neg (by omega), if_neg (by omega), if_neg (by omega), if_neg (by omega), if_neg (by omega), if_neg (by omega), if_neg (by omega)] at h
    cases h
  · omega

theorem many_bound {p : Pt} (h : sound p = true) : -1000000 ≤ p.many ∧ p.many ≤ 1000000 := by
  have h1 := many_of_sound h
  have h2 := kind_bound h
  obtain ⟨k, lb, nm, bd, m, n, t, u⟩ := p
  unfold many at h1
  simp only at h1 h2 ⊢
  rw [if_neg (by omega)] at h1
  rcases (by omega : k = 0 ∨ k = 1 ∨ k = 2 ∨ k = 3 ∨ k = 4 ∨ k = 5 ∨ k = 6 ∨ k = 7 ∨ k = 8 ∨ k = 9 ∨ k = 10 ∨ k = 11 ∨ k = 12 ∨ k = 13 ∨ k = 14) with rfl | rfl | rfl | rfl | rfl | rfl | rfl | rfl | rfl | rfl | rfl | rfl | rfl | rfl | rfl
  all_goals simp [base, kidsA] at h1
  all_goals omega

/-- What the walks of Print ask of a part. -/
structure Pr1 (p : Pt) : Prop where
  so : sound p = true
  lb : p.label.size ≤ 200
  nm : p.name.size ≤ 200
  bd : p.bind.size ≤ 200
  st : Short p.t
  su : Short p.u
  lt : p.t.length ≤ 60
  lu : p.u.length ≤ 60

end Go.Proofs.YthbieinbpfjgkaaGreatDoor.E
end
