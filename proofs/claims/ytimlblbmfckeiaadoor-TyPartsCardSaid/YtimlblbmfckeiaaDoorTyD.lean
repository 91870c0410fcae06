/-
  Plain lists: where the children of a tree stand, what one of them is alone, and how the reference prints a tree: its body, without its label. No conditions but those that each lemma names.
-/
import Derived.Test.YtimlblbmfckeiaaDoorTyAr
import Derived.Test.YtimlblbmfckeiaaDoorTyPn
namespace Go.Proofs.YtimlblbmfckeiaaDoor.L
open Go

/-- Where the trees of a row stand, from place p on. -/
def posF : Fo → Nat → List Nat
  | .nil, _ => []
  | .cons _ k r, p => p :: posF r (p + (k.flat.length + 1))

theorem posF_length : ∀ (f : Fo) (p : Nat), (posF f p).length = f.count
  | .nil, _ => rfl
  | .cons _ _ r, p => by simp [posF, Fo.count, posF_length r]

theorem kids_pos (l : List Nd) : ∀ (f : Fo) (p : Nat) (r : List Nd), f.ok = true → l.drop p = f.flat ++ r → kidsL l f.count p = posF f p
  | .nil, _, _, _, _ => rfl
  | .cons y k g, p, r, ho, hd => by
    have ho' := ho
    simp only [Fo.ok, Bool.and_eq_true] at ho
    have hy : (Fo.cons y k .nil).ok = true := by
      simp only [Fo.ok, Bool.and_eq_true, Bool.and_true]
      exact ho.1
    have hd2 : l.drop p = y :: (k.flat ++ (g.flat ++ r)) := by rw [hd]; simp [Fo.flat]
    have hp := (getD_drop hd2).2.1
    have he : eat 1 (l.drop p) = k.flat.length + 1 := by rw [hd2]; exact eat_tree hy _
    have hn : l.drop (p + (k.flat.length + 1)) = g.flat ++ r := by
      have := drop_more (l := l) (a := y :: k.flat) (b := g.flat ++ r) (p := p) (by rw [hd2]; simp)
      simpa using this
    show (if p < l.length then p :: kidsL l g.count (p + eat 1 (l.drop p)) else []) = _
    rw [if_pos hp, he, kids_pos l g _ r ho.2 hn]
    rfl

/-- What stands at the place of child number k of a row: the node, its children, the row behind it. -/
theorem posF_at (l : List Nd) : ∀ (f : Fo) (p : Nat) (r : List Nd) (k : Nat) (hk : k < (posF f p).length), f.ok = true → l.drop p = f.flat ++ r →
    ∃ y ks g, (Fo.cons y ks g).ok = true ∧ l.drop ((posF f p)[k]) = y :: (ks.flat ++ (g.flat ++ r))
  | .nil, _, _, k, hk, _, _ => by simp [posF] at hk
  | .cons y ks g, p, r, 0, _, ho, hd => ⟨y, ks, g, ho, by simpa [posF, Fo.flat] using hd⟩
  | .cons y ks g, p, r, k + 1, hk, ho, hd => by
    have hn : l.drop (p + (ks.flat.length + 1)) = g.flat ++ r := by
      have := drop_more (l := l) (a := y :: ks.flat) (b := g.flat ++ r) (p := p) (by rw [hd]; simp [Fo.flat])
      simpa using this
    have hk' : k < (posF g (p + (ks.flat.length + 1))).length := by simpa [posF] using hk
    simp only [Fo.ok, Bool.and_eq_true] at ho
    obtain ⟨y', ks', g', h1, h2⟩ := posF_at l g _ r k hk' ho.2 hn
    exact ⟨y', ks', g', h1, by simpa [posF] using h2⟩

end Go.Proofs.YtimlblbmfckeiaaDoor.L
namespace Go.Proofs.YtimlblbmfckeiaaDoor
open Go.RowKit

/-- The body of a row: its opening, its children, its end. -/
theorem body_plain (x : L.Nd) (ks : L.Fo) : body false x ks = L.first x ++ (L.prs ks x.kind 0 ++ L.last x.kind) := by
  simp [body, L.opn, L.cls]

theorem body_par (x : L.Nd) (ks : L.Fo) : body true x ks = [40] ++ (body false x ks ++ [41]) := by
  simp [body, L.opn, L.cls]

end Go.Proofs.YtimlblbmfckeiaaDoor
