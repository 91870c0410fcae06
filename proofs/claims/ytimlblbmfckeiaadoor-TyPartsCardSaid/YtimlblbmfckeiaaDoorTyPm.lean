/-
  Types that are alike are printed alike. No machine here.
-/
import Derived.Test.YtimlblbmfckeiaaDoorTyAr
import Derived.Test.YtimlblbmfckeiaaDoorTyS
namespace Go.Proofs.YtimlblbmfckeiaaDoor
open Go.RowKit

theorem same_parts {x y : L.Nd} (h : L.sameN x y = true) : x.kind = y.kind ∧ x.name = y.name ∧ (x.n = y.n ∨ x.kind = 0) := (L.sameN_iff x y).1 h

theorem same_first {x y : L.Nd} (h : L.sameN x y = true) : L.first x = L.first y := by
  obtain ⟨h1, -, h3⟩ := same_parts h
  obtain ⟨k, s, n⟩ := x
  obtain ⟨k2, s2, n2⟩ := y
  simp only at h1 h3
  subst h1
  unfold L.first
  rcases h3 with h3 | h3
  · subst h3; rfl
  · subst h3; rfl

theorem same_lab {x y : L.Nd} (h : L.sameN x y = true) : L.lab x = L.lab y := by
  unfold L.lab
  rw [(same_parts h).2.1]

theorem same_many {x y : L.Nd} (h : L.sameN x y = true) : L.many x = L.many y := by
  obtain ⟨h1, -, h3⟩ := same_parts h
  obtain ⟨k, s, n⟩ := x
  obtain ⟨k2, s2, n2⟩ := y
  simp only at h1 h3
  subst h1
  unfold L.many
  rcases h3 with h3 | h3
  · subst h3; rfl
  · subst h3; rfl

/-- Rows of as many trees, alike node by node: their prints are the same, and what stands behind them is alike. -/
theorem prs_same : ∀ (f g : L.Fo) (pk : Int) (k : Nat) (r1 r2 : List L.Nd), f.ok = true → g.ok = true → f.count = g.count → L.sameL (f.flat ++ r1) (g.flat ++ r2) = true → L.prs f pk k = L.prs g pk k ∧ L.sameL r1 r2 = true
  | .nil, .nil, _, _, _, _, _, _, _, h => ⟨rfl, by simpa [L.Fo.flat] using h⟩
  | .nil, .cons _ _ _, _, _, _, _, _, _, hc, _ => by simp [L.Fo.count] at hc
  | .cons _ _ _, .nil, _, _, _, _, _, _, hc, _ => by simp [L.Fo.count] at hc
  | .cons x ks r, .cons y ls s, pk, k, r1, r2, ho, hp, hc, h => by
    simp only [L.Fo.ok, Bool.and_eq_true, decide_eq_true_eq] at ho hp
    simp only [L.Fo.count, Nat.add_right_cancel_iff] at hc
    simp only [L.Fo.flat, List.cons_append, L.sameL, Bool.and_eq_true, List.append_assoc] at h
    obtain ⟨hxy, h⟩ := h
    have hm := same_many hxy
    have e1 : ks.count = ls.count := by have := ho.1.1.1.2; have := hp.1.1.1.2; omega
    obtain ⟨h1, h2⟩ := prs_same ks ls x.kind 0 (r.flat ++ r1) (s.flat ++ r2) ho.1.2 hp.1.2 e1 h
    obtain ⟨h3, h4⟩ := prs_same r s pk (k + 1) r1 r2 ho.2 hp.2 hc h2
    refine ⟨?_, h4⟩
    have hk := (same_parts hxy).1
    have hpar : L.par pk k x = L.par pk k y := by unfold L.par; rw [hk]
    rw [L.prs, L.prs, h1, h3, same_lab hxy, hpar]
    unfold L.opn
    rw [same_first hxy, hk]

theorem print_same {x y : L.Nd} {ka kb : L.Fo} (h1 : (L.Fo.cons x ka .nil).ok = true) (h2 : (L.Fo.cons y kb .nil).ok = true) (h : L.sameL (x :: ka.flat) (y :: kb.flat) = true) : L.prT false x ka = L.prT false y kb := by
  have := (prs_same (.cons x ka .nil) (.cons y kb .nil) 0 0 [] [] h1 h2 rfl (by simpa [L.Fo.flat] using h)).1
  rw [L.prs_cons, L.prs_cons] at this
  have p1 : ∀ z, L.par 0 0 z = false := fun z => by simp [L.par]
  simpa [p1, L.prs] using this

end Go.Proofs.YtimlblbmfckeiaaDoor
