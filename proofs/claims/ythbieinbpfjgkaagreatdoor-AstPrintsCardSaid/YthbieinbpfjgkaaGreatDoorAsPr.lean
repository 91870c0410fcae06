/-
  Expressions without casts that are the same, but for sites, are printed alike; so they are printed alike just if they are. No machine here. No conditions but those that each lemma names.
-/
import Derived.Test.YthbieinbpfjgkaaGreatDoorAsPq
namespace Go.Proofs.YthbieinbpfjgkaaGreatDoor.E
open Go

theorem same_parts {x y : Pt} (h : sameP x y = true) : x.kind = y.kind ∧ x.label = y.label ∧ x.name = y.name ∧ x.bind = y.bind ∧ x.many = y.many ∧ x.num = y.num ∧ L.sameL x.t y.t = true ∧ L.sameL x.u y.u = true := by
  unfold sameP at h
  simpa only [Bool.and_eq_true, decide_eq_true_eq] using h

theorem first_same {x y : Pt} (hx : sound x = true) (hy : sound y = true) (x14 : x.kind ≠ 14) (h : sameP x y = true) : firstP x = firstP y ∧ lastP x = lastP y ∧ ∀ k, betwP x k = betwP y k := by
  obtain ⟨hk, hl, hn, hb, hm, hz, ht, hu⟩ := same_parts h
  have hkb := kind_bound hx
  have hbet : ∀ k, betwP x k = betwP y k := fun k => by unfold betwP; rw [hk, hn]
  refine ⟨?_, ?_, hbet⟩
  · by_cases k0 : x.kind = 0
    · obtain ⟨n, e1, -⟩ := snd0 hx k0
      obtain ⟨m, e2, -⟩ := snd0 hy (hk ▸ k0)
      have hkn : n.kind = m.kind := by
        rw [e1, e2] at ht
        simp only [L.sameL, Bool.and_true] at ht
        exact ((L.sameN_iff n m).1 ht).1
      have f1 : firstP x = litP x := by unfold firstP; rw [if_pos k0]
      have f2 : firstP y = litP y := by unfold firstP; rw [if_pos (hk ▸ k0)]
      rw [f1, f2]
      unfold litP
      rw [e1, e2]
      simp only
      rw [hkn, hz, hn]
    · have htp : x.kind = 2 ∨ x.kind = 4 ∨ x.kind = 5 → L.tyP x.t = L.tyP y.t := by
        intro k
        rcases k with k | k | k
        · exact tyP_same (snd2 hx (Or.inl k)).2.1 (snd2 hy (Or.inl (hk ▸ k))).2.1 ht
        · exact tyP_same (snd2 hx (Or.inr k)).2.1 (snd2 hy (Or.inr (hk ▸ k))).2.1 ht
        · exact tyP_same (snd5 hx k).2.2.1 (snd5 hy (hk ▸ k)).2.2.1 ht
      have hup : x.kind = 5 → L.tyP x.u = L.tyP y.u := fun k => tyP_same (snd5 hx k).2.2.2.1 (snd5 hy (hk ▸ k)).2.2.2.1 hu
      unfold firstP typedP
      rw [← hk, ← hn, ← hl, ← hb, if_neg k0, if_neg k0]
      by_cases k2 : x.kind = 2
      · rw [htp (Or.inl k2)]; simp only [k2, Int.reduceEq, if_true, if_false, or_false]
      by_cases k4 : x.kind = 4
      · rw [htp (Or.inr (Or.inl k4))]; simp only [k4, Int.reduceEq, if_true, if_false, or_false]
      by_cases k5 : x.kind = 5
      · rw [htp (Or.inr (Or.inr k5)), hup k5]
      · simp only [k2, k4, k5, if_false]
  · unfold lastP
    rw [← hk, ← hn]
    by_cases k12 : x.kind = 12
    · rw [tyP_same (snd12 hx k12).2.1 (snd12 hy (hk ▸ k12)).2.1 ht]; simp only [k12, Int.reduceEq, if_true, if_false, or_false]
    by_cases k13 : x.kind = 13
    · rw [tyP_same (snd13 hx k13).1 (snd13 hy (hk ▸ k13)).1 ht]; simp only [k13, Int.reduceEq, if_true, if_false, or_false]
    · simp only [k12, k13, x14, if_false]

theorem prs_sameE : ∀ (f g : Fo) (x y : Pt) (k : Nat) (r s : List Pt), GdF f → GdF g → f.count = g.count → x.kind = y.kind → x.name = y.name → sameE (f.flat ++ r) (g.flat ++ s) = true → f.pr x k = g.pr y k ∧ sameE r s = true
  | .nil, .nil, _, _, _, _, _, _, _, _, _, _, h => ⟨rfl, by simpa [Fo.flat] using h⟩
  | .nil, .cons _ _ _, _, _, _, _, _, _, _, hc, _, _, _ => by simp [Fo.count] at hc
  | .cons _ _ _, .nil, _, _, _, _, _, _, _, hc, _, _, _ => by simp [Fo.count] at hc
  | .cons c kc q, .cons d kd q2, x, y, k, r, s, gf, gg, hc, hk, hn, h => by
    simp only [Fo.count, Nat.add_right_cancel_iff] at hc
    simp only [Fo.flat, List.cons_append, sameE, Bool.and_eq_true, List.append_assoc] at h
    obtain ⟨hcd, h⟩ := h
    obtain ⟨s1, m1, -, g1, x14, -⟩ := gf.split.1.tree
    obtain ⟨s2, m2, -, g2, -, -⟩ := gg.split.1.tree
    obtain ⟨p1, p2, p3, p4, p5, -⟩ := same_parts hcd
    have hm : many c = many d := by unfold many; rw [p1, p5]
    obtain ⟨h1, h2⟩ := prs_sameE kc kd c d 0 _ _ g1 g2 (by omega) p1 p3 h
    obtain ⟨h3, h4⟩ := prs_sameE q q2 x y (k + 1) r s gf.split.2 gg.split.2 hc hk hn h2
    obtain ⟨e1, e2, -⟩ := first_same s1 s2 x14 hcd
    refine ⟨?_, h4⟩
    have eb : betwP x k = betwP y k := by unfold betwP; rw [hk, hn]
    rw [Fo.pr_cons, Fo.pr_cons, h3, prT_def, prT_def, e1, e2, h1, eb, hk, p2]

theorem eprint_same {x y : Pt} {ks ls : Fo} (gx : GdF (.cons x ks .nil)) (gy : GdF (.cons y ls .nil)) (h : sameE (x :: ks.flat) (y :: ls.flat) = true) : prT x ks = prT y ls := by
  simp only [sameE, Bool.and_eq_true] at h
  obtain ⟨s1, m1, -, g1, x14, -⟩ := gx.tree
  obtain ⟨s2, m2, -, g2, -, -⟩ := gy.tree
  obtain ⟨p1, p2, p3, p4, p5, -⟩ := same_parts h.1
  have hm : many x = many y := by unfold many; rw [p1, p5]
  obtain ⟨h1, -⟩ := prs_sameE ks ls x y 0 [] [] g1 g2 (by omega) p1 p3 (by simpa using h.2)
  obtain ⟨e1, e2, -⟩ := first_same s1 s2 x14 h.1
  rw [prT_def, prT_def, e1, e2, h1]

/-- Is no part a cast, and no name a key? -/
def plainP (p : Pt) : Bool := !(decide (p.kind = 14) || (decide (p.kind = 1) && keyL p.name.data.toList))

theorem gd_of {x : Pt} {ks : Fo} (ho : (Fo.cons x ks .nil).ok = true) (h : (x :: ks.flat).all plainP = true) : GdF (.cons x ks .nil) := by
  refine ⟨ho, fun z hz => ?_⟩
  have hz' : z ∈ x :: ks.flat := by simpa [Fo.flat] using hz
  have := List.all_eq_true.1 h z hz'
  simp only [plainP, Bool.not_eq_true', Bool.or_eq_false_iff, Bool.and_eq_false_iff, decide_eq_false_iff_not] at this
  exact ⟨this.1, fun k => by rcases this.2 with h | h; exact absurd k h; exact h⟩

theorem eprint_iff {x y : Pt} {ks ls : Fo} (gx : GdF (.cons x ks .nil)) (gy : GdF (.cons y ls .nil)) (bx : bare x = true) (b2 : bare y = true) : prT x ks = prT y ls ↔ sameE (x :: ks.flat) (y :: ls.flat) = true :=
  ⟨eprint_uniq gx gy bx b2, eprint_same gx gy⟩

end Go.Proofs.YthbieinbpfjgkaaGreatDoor.E
