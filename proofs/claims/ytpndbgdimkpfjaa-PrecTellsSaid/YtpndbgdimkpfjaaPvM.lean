/-
  Plain rows of trees, no program: which agree, which says at least as much, what both say together, and that this is an order with greatest lower bounds. No conditions but those that each lemma names.
-/
import Derived.Test.YtpndbgdimkpfjaaM1
namespace Go.Proofs.Ytpndbgdimkpfjaa.L
open Go

/-- One row of trees behind another. -/
def Fo.app : Fo → Fo → Fo
  | .nil, g => g
  | .cons x ks r, g => .cons x ks (r.app g)

theorem app_flat : ∀ f g : Fo, (f.app g).flat = f.flat ++ g.flat
  | .nil, _ => rfl
  | .cons x ks r, g => by simp [Fo.app, Fo.flat, app_flat r g]
theorem app_ok : ∀ f g : Fo, (f.app g).ok = (f.ok && g.ok)
  | .nil, _ => by simp [Fo.app, Fo.ok]
  | .cons x ks r, g => by simp [Fo.app, Fo.ok, app_ok r g, Bool.and_assoc]

/-- No variables, no tails. -/
def Fo.plain : Fo → Bool
  | .nil => true
  | .cons x ks r => !varN x && ks.plain && r.plain
theorem app_plain : ∀ f g : Fo, (f.app g).plain = (f.plain && g.plain)
  | .nil, _ => by simp [Fo.app, Fo.plain]
  | .cons x ks r, g => by simp [Fo.app, Fo.plain, app_plain r g, Bool.and_assoc]
theorem plain_flat : ∀ f : Fo, f.plain = plainL f.flat
  | .nil => rfl
  | .cons x ks r => by
    rw [Fo.plain, plain_flat ks, plain_flat r]
    simp [plainL, Fo.flat, List.any_append, Bool.not_or, Bool.and_assoc]

def agF : Fo → Fo → Bool
  | .nil, .nil => true
  | .cons x ks r, .cons y ls s => decide (x.name = y.name) && (decide (x.kind = 0) || decide (y.kind = 0) || (decide (x.kind = y.kind) && agF ks ls)) && agF r s
  | _, _ => false

def beF : Fo → Fo → Bool
  | .nil, .nil => true
  | .cons x ks r, .cons y ls s => decide (x.name = y.name) && (decide (y.kind = 0) || (decide (x.kind = y.kind) && beF ks ls)) && beF r s
  | _, _ => false

def meF : Fo → Fo → Fo
  | .cons x ks r, .cons y ls s => if y.kind = 0 then .cons x ks (meF r s) else if x.kind = 0 then .cons y ls (meF r s) else .cons x (meF ks ls) (meF r s)
  | _, _ => .nil

def sameF : Fo → Fo → Bool
  | .nil, .nil => true
  | .cons x ks r, .cons y ls s => sameN x y && sameF ks ls && sameF r s
  | _, _ => false

theorem ag_count : ∀ {f g : Fo}, agF f g = true → f.count = g.count
  | .nil, .nil, _ => rfl
  | .nil, .cons _ _ _, h => by simp [agF] at h
  | .cons _ _ _, .nil, h => by simp [agF] at h
  | .cons x ks r, .cons y ls s, h => by
    simp [agF] at h
    simp [Fo.count, ag_count h.2]

theorem be_refl : ∀ f : Fo, beF f f = true
  | .nil => rfl
  | .cons x ks r => by simp [beF, be_refl ks, be_refl r]

theorem be_trans : ∀ {f g h : Fo}, beF f g = true → beF g h = true → beF f h = true
  | .nil, .nil, .nil, _, _ => rfl
  | .nil, .nil, .cons _ _ _, _, h => by simp [beF] at h
  | .nil, .cons _ _ _, _, h, _ => by simp [beF] at h
  | .cons _ _ _, .nil, _, h, _ => by simp [beF] at h
  | .cons _ _ _, .cons _ _ _, .nil, _, h => by simp [beF] at h
  | .cons x ks r, .cons y ls s, .cons z ms t, h1, h2 => by
    simp [beF] at h1 h2 ⊢
    obtain ⟨⟨n1, k1⟩, r1⟩ := h1
    obtain ⟨⟨n2, k2⟩, r2⟩ := h2
    refine ⟨⟨n1.trans n2, ?_⟩, be_trans r1 r2⟩
    rcases k2 with k2 | ⟨k2, k3⟩
    · exact .inl k2
    · rcases k1 with k1 | ⟨k1, k4⟩
      · exact .inl (by omega)
      · exact .inr ⟨by omega, be_trans k4 k3⟩

/-- What both say together says at least as much as the first one. -/
theorem me_left : ∀ {f g : Fo}, agF f g = true → beF (meF f g) f = true
  | .nil, .nil, _ => rfl
  | .nil, .cons _ _ _, h => by simp [agF] at h
  | .cons _ _ _, .nil, h => by simp [agF] at h
  | .cons x ks r, .cons y ls s, h => by
    simp [agF] at h
    obtain ⟨⟨n1, k1⟩, r1⟩ := h
    unfold meF
    split
    · simp [beF, be_refl, me_left r1]
    · split
      · rename_i h2
        simp [beF, n1, h2, me_left r1]
      · rename_i h1 h2
        have k2 : x.kind = y.kind ∧ agF ks ls = true := by rcases k1 with (k1 | k1) | k1 <;> simp_all
        simp [beF, me_left r1, me_left k2.2]

theorem me_right : ∀ {f g : Fo}, agF f g = true → beF (meF f g) g = true
  | .nil, .nil, _ => rfl
  | .nil, .cons _ _ _, h => by simp [agF] at h
  | .cons _ _ _, .nil, h => by simp [agF] at h
  | .cons x ks r, .cons y ls s, h => by
    simp [agF] at h
    obtain ⟨⟨n1, k1⟩, r1⟩ := h
    unfold meF
    split
    · rename_i h1
      simp [beF, n1, h1, me_right r1]
    · split
      · simp [beF, be_refl, me_right r1]
      · rename_i h1 h2
        have k2 : x.kind = y.kind ∧ agF ks ls = true := by rcases k1 with (k1 | k1) | k1 <;> simp_all
        simp [beF, n1, k2.1, me_right r1, me_right k2.2]

/-- Whatever says at least as much as both: they agree, and it says at least as much as both together. -/
theorem me_least : ∀ {h f g : Fo}, beF h f = true → beF h g = true → agF f g = true ∧ beF h (meF f g) = true
  | .nil, .nil, .nil, _, _ => ⟨rfl, rfl⟩
  | .nil, .nil, .cons _ _ _, _, h => by simp [beF] at h
  | .nil, .cons _ _ _, _, h, _ => by simp [beF] at h
  | .cons _ _ _, .nil, _, h, _ => by simp [beF] at h
  | .cons _ _ _, .cons _ _ _, .nil, _, h => by simp [beF] at h
  | .cons z ms t, .cons x ks r, .cons y ls s, h1, h2 => by
    simp [beF] at h1 h2
    obtain ⟨⟨n1, k1⟩, r1⟩ := h1
    obtain ⟨⟨n2, k2⟩, r2⟩ := h2
    obtain ⟨r3, r4⟩ := me_least r1 r2
    unfold meF
    by_cases hy : y.kind = 0
    · rw [if_pos hy]
      simp [agF, beF, hy, r3, r4, ← n1, ← n2]
      simpa using k1
    · rw [if_neg hy]
      by_cases hx : x.kind = 0
      · rw [if_pos hx]
        simp [agF, beF, hx, r3, r4, ← n1, ← n2]
        simpa using k2
      · rw [if_neg hx]
        simp only [hx, hy, false_or] at k1 k2
        obtain ⟨k3, k4⟩ := me_least k1.2 k2.2
        simp [agF, beF, r3, r4, ← n1, ← n2, k3, k4, ← k1.1, ← k2.1]

theorem ag_iff {f g : Fo} : agF f g = true ↔ ∃ h, beF h f = true ∧ beF h g = true :=
  ⟨fun h => ⟨_, me_left h, me_right h⟩, fun ⟨_, h1, h2⟩ => (me_least h1 h2).1⟩
theorem ag_symm (f g : Fo) : agF f g = agF g f := by
  rw [Bool.eq_iff_iff, ag_iff, ag_iff]
  exact ⟨fun ⟨h, a, b⟩ => ⟨h, b, a⟩, fun ⟨h, a, b⟩ => ⟨h, b, a⟩⟩
theorem be_ag {f g : Fo} (h : beF f g = true) : agF f g = true := ag_iff.2 ⟨f, be_refl f, h⟩
theorem be_mono {f g h : Fo} (h1 : beF f g = true) (h2 : agF f h = true) : agF g h = true := by
  obtain ⟨k, a, b⟩ := ag_iff.1 h2
  exact ag_iff.2 ⟨k, be_trans a h1, b⟩

/-- Three: which two are taken first is all one. -/
theorem ag_three {f g h : Fo} (h1 : agF f g = true) (h2 : agF g h = true) : agF (meF f g) h = agF f (meF g h) := by
  rw [Bool.eq_iff_iff, ag_iff, ag_iff]
  constructor
  · rintro ⟨k, a, b⟩
    exact ⟨k, be_trans a (me_left h1), (me_least (be_trans a (me_right h1)) b).2⟩
  · rintro ⟨k, a, b⟩
    exact ⟨k, (me_least a (be_trans b (me_left h2))).2, be_trans b (me_right h2)⟩

theorem me_app : ∀ {f g : Fo} (a b : Fo), f.count = g.count → meF (f.app a) (g.app b) = (meF f g).app (meF a b)
  | .nil, .nil, a, b, _ => by simp [Fo.app, meF]
  | .nil, .cons _ _ _, _, _, h => by simp [Fo.count] at h
  | .cons _ _ _, .nil, _, _, h => by simp [Fo.count] at h
  | .cons x ks r, .cons y ls s, a, b, h => by
    simp only [Fo.count, Nat.add_right_cancel_iff] at h
    simp only [Fo.app, meF, me_app a b h]
    split
    · rfl
    · split <;> rfl

theorem numbered_plain {x : Nd} (h : numbered x = true) (hp : varN x = false) : x.kind = 0 ∨ (many x = 0 ∧ x.n = 0) ∨ (x.kind = 5 ∧ x.n = 0) ∨ ((x.kind = 6 ∨ x.kind = 7) ∧ many x = x.n) := by
  unfold numbered at h
  unfold varN at hp
  unfold many
  simp at hp
  repeat' split at h
  all_goals simp at h
  all_goals repeat' split
  all_goals first | omega | simp_all

/-- A node that fits: as many children as it says. -/
theorem ok_cons {x : Nd} {ks r : Fo} : (Fo.cons x ks r).ok = true ↔ numbered x = true ∧ many x = (ks.count : Int) ∧ Fo.stand x 0 ⟨#[]⟩ ks = true ∧ ks.ok = true ∧ r.ok = true := by
  simp [Fo.ok, and_assoc]
theorem plain_cons {x : Nd} {ks r : Fo} : (Fo.cons x ks r).plain = true ↔ varN x = false ∧ ks.plain = true ∧ r.plain = true := by
  simp [Fo.plain, and_assoc]

theorem n_of {x y : Nd} {ks ls : Fo} (h1 : numbered x = true) (p1 : varN x = false) (m1 : many x = (ks.count : Int)) (h2 : numbered y = true) (p2 : varN y = false) (m2 : many y = (ls.count : Int))
    (hk : x.kind = y.kind) (h0 : x.kind ≠ 0) (hc : ks.count = ls.count) : x.n = y.n := by
  have a := numbered_plain h1 p1
  have b := numbered_plain h2 p2
  have hm : many x = many y := by rw [m1, m2, hc]
  have c : x.kind = 5 → many x = 2 := fun h => by unfold many; rw [if_pos h]
  have d : x.kind = 6 ∨ x.kind = 7 → many x = x.n := fun h => by unfold many; rw [if_neg (by omega), if_pos h]
  have d2 : y.kind = 6 ∨ y.kind = 7 → many y = y.n := fun h => by unfold many; rw [if_neg (by omega), if_pos h]
  omega

theorem kids_nil {x : Nd} {ks : Fo} (m1 : many x = (ks.count : Int)) (h0 : x.kind = 0) : ks = .nil := by
  cases ks with
  | nil => rfl
  | cons y a b =>
    unfold many at m1
    rw [if_neg (by omega), if_neg (by omega)] at m1
    simp [Fo.count] at m1
    omega

theorem same_count : ∀ {f g : Fo}, sameF f g = true → f.count = g.count
  | .nil, .nil, _ => rfl
  | .nil, .cons _ _ _, h => by simp [sameF] at h
  | .cons _ _ _, .nil, h => by simp [sameF] at h
  | .cons x ks r, .cons y ls s, h => by
    simp [sameF] at h
    simp [Fo.count, same_count h.2]

theorem be_count : ∀ {f g : Fo}, beF f g = true → f.count = g.count := fun h => ag_count (be_ag h)

/-- Each says at least as much as the other one just if they are alike. -/
theorem be_anti : ∀ {f g : Fo}, f.ok = true → g.ok = true → f.plain = true → g.plain = true → (beF f g && beF g f) = sameF f g
  | .nil, .nil, _, _, _, _ => rfl
  | .nil, .cons _ _ _, _, _, _, _ => rfl
  | .cons _ _ _, .nil, _, _, _, _ => rfl
  | .cons x ks r, .cons y ls s, h1, h2, p1, p2 => by
    obtain ⟨a1, a2, -, a4, a5⟩ := ok_cons.1 h1
    obtain ⟨b1, b2, -, b4, b5⟩ := ok_cons.1 h2
    obtain ⟨c1, c2, c3⟩ := plain_cons.1 p1
    obtain ⟨d1, d2, d3⟩ := plain_cons.1 p2
    have hr := be_anti a5 b5 c3 d3
    have hk := be_anti a4 b4 c2 d2
    rw [Bool.eq_iff_iff] at hr hk ⊢
    simp only [Bool.and_eq_true] at hr hk
    simp only [beF, sameF, Bool.and_eq_true, sameN_iff, decide_eq_true_eq, Bool.or_eq_true]
    rw [← hr, ← hk]
    constructor
    · rintro ⟨⟨⟨n1, k1⟩, r1⟩, ⟨⟨n2, k2⟩, r2⟩⟩
      have hkk : x.kind = y.kind := by rcases k1 with k1 | k1 <;> rcases k2 with k2 | k2 <;> omega
      by_cases h0 : x.kind = 0
      · obtain rfl := kids_nil a2 h0
        obtain rfl := kids_nil b2 (by omega)
        exact ⟨⟨⟨hkk, n1, .inr h0⟩, rfl, rfl⟩, r1, r2⟩
      · have k3 : beF ks ls = true := k1.elim (fun e => absurd (hkk.trans e) h0) (·.2)
        have k4 : beF ls ks = true := k2.elim (fun e => absurd e h0) (·.2)
        exact ⟨⟨⟨hkk, n1, .inl (n_of a1 c1 a2 b1 d1 b2 hkk h0 (be_count k3))⟩, k3, k4⟩, r1, r2⟩
    · rintro ⟨⟨⟨hkk, n1, -⟩, k3, k4⟩, r1, r2⟩
      exact ⟨⟨⟨n1, .inr ⟨hkk, k3⟩⟩, r1⟩, ⟨⟨n1.symm, .inr ⟨hkk.symm, k4⟩⟩, r2⟩⟩

/-- Alike, node by node: tree by tree. -/
theorem same_flat : ∀ {f g : Fo} (a b : List Nd), f.ok = true → g.ok = true → f.count = g.count → sameL (f.flat ++ a) (g.flat ++ b) = (sameF f g && sameL a b)
  | .nil, .nil, a, b, _, _, _ => by simp [Fo.flat, sameF]
  | .nil, .cons _ _ _, _, _, _, _, h => by simp [Fo.count] at h
  | .cons _ _ _, .nil, _, _, _, _, h => by simp [Fo.count] at h
  | .cons x ks r, .cons y ls s, a, b, h1, h2, hc => by
    obtain ⟨a1, a2, -, a4, a5⟩ := ok_cons.1 h1
    obtain ⟨b1, b2, -, b4, b5⟩ := ok_cons.1 h2
    simp only [Fo.count, Nat.add_right_cancel_iff] at hc
    simp only [Fo.flat, List.cons_append, sameL, sameF, List.append_assoc]
    cases hs : sameN x y with
    | false => simp
    | true =>
      have hkl : ks.count = ls.count := by
        obtain ⟨e1, e2, e3⟩ := (sameN_iff x y).1 hs
        have : many x = many y := by
          unfold many
          rcases e3 with e3 | e3
          · rw [e1, e3]
          · rw [← e1, e3]; rfl
        omega
      rw [same_flat (r.flat ++ a) (s.flat ++ b) a4 b4 hkl, same_flat a b a5 b5 hc]
      simp [Bool.and_assoc]

theorem be_same {f g : Fo} (h1 : f.ok = true) (h2 : g.ok = true) (p1 : f.plain = true) (p2 : g.plain = true) (hc : f.count = g.count) : (beF f g && beF g f) = sameL f.flat g.flat := by
  have := same_flat [] [] h1 h2 hc
  simp only [List.append_nil] at this
  rw [this, be_anti h1 h2 p1 p2]
  simp [sameL]

end Go.Proofs.Ytpndbgdimkpfjaa.L
