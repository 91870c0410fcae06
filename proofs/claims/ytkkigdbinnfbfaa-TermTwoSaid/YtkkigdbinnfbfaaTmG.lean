/-
  What is ground, on trees: it stays a type, is plain, static if the type was, and of a plain type it is that. No program.
-/
import Derived.Test.YtkkigdbinnfbfaaM1
import Derived.Test.YtkkigdbinnfbfaaM4
namespace Go.Proofs.Ytkkigdbinnfbfaa.L
open Go

/-- A row of trees without variables. -/
def Fo.ground : Fo → Fo
  | .nil => .nil
  | .cons x ks r =>
    if x.kind = 9 then r.ground
    else if x.kind = 8 then .cons ⟨4, x.name, 0⟩ .nil r.ground
    else if x.kind = 7 ∧ ks.ground.count = 0 then .cons ⟨4, x.name, 0⟩ .nil r.ground
    else if x.kind = 6 ∨ x.kind = 7 then .cons ⟨x.kind, x.name, ks.ground.count⟩ ks.ground r.ground
    else .cons x ks.ground r.ground
theorem ground_9 {x : Nd} (h : x.kind = 9) (ks r : Fo) : (Fo.cons x ks r).ground = r.ground := by rw [Fo.ground, if_pos h]
/-- What is left of a node that is no Tail. -/
theorem ground_head {x : Nd} (h : x.kind ≠ 9) (ks r : Fo) : ∃ y k', (Fo.cons x ks r).ground = .cons y k' r.ground ∧ y.name = x.name ∧ y.kind ≠ 9 ∧ (Fo.cons x ks .nil).ground = .cons y k' .nil := by
  rw [Fo.ground, Fo.ground, if_neg h, if_neg h]
  repeat' split
  all_goals first
    | exact ⟨_, _, rfl, rfl, h, rfl⟩
    | exact ⟨_, _, rfl, rfl, by simp, rfl⟩
theorem ground_nil : Fo.nil.ground = .nil := rfl
theorem ground_count : ∀ f : Fo, f.ground.count ≤ f.count
  | .nil => Nat.le_refl _
  | .cons x ks r => by
    have := ground_count r
    by_cases h : x.kind = 9
    · rw [ground_9 h]; simp only [Fo.count]; omega
    · obtain ⟨y, k', e, -⟩ := ground_head h ks r
      rw [e]; simp only [Fo.count]; omega
theorem ground_deep : ∀ f : Fo, f.ground.deep ≤ f.deep
  | .nil => Nat.le_refl _
  | .cons x ks r => by
    have h1 := ground_deep r
    have h2 := ground_deep ks
    rw [Fo.ground]
    repeat' split
    all_goals simp only [Fo.deep]
    all_goals omega
theorem ground_len : ∀ f : Fo, f.ground.flat.length ≤ f.flat.length
  | .nil => Nat.le_refl _
  | .cons x ks r => by
    have h1 := ground_len r
    have h2 := ground_len ks
    rw [Fo.ground]
    repeat' split
    all_goals simp only [Fo.flat, List.length_cons, List.length_append, List.length_nil]
    all_goals omega
theorem ground_plain : ∀ f : Fo, f.ground.flat.any varN = false
  | .nil => rfl
  | .cons x ks r => by
    have h1 := ground_plain r
    have h2 := ground_plain ks
    rw [Fo.ground]
    repeat' split
    all_goals simp only [Fo.flat, List.any_cons, List.any_append, h1, h2, List.any_nil, Bool.or_false, varN]
    all_goals first
      | done
      | (simp only [Bool.or_eq_false_iff, decide_eq_false_iff_not]; omega)
      | simp
/-- Under an arrow each child stays. -/
theorem ground_arrow {x : Nd} (hx : x.kind = 5) : ∀ (f : Fo) (k : Nat) (b : ByteArray), Fo.stand x k b f = true → f.ground.count = f.count
  | .nil, _, _, _ => rfl
  | .cons y ks r, k, b, h => by
    simp only [Fo.stand, Bool.and_eq_true, mayStand, if_pos hx, bare, decide_eq_true_eq] at h
    obtain ⟨y', k', e, -⟩ := ground_head h.1.2 ks r
    rw [e]
    simp only [Fo.count, ground_arrow hx r _ _ h.2]
theorem ground_stand {x y : Nd} (hk : y.kind = x.kind) : ∀ (f : Fo) (k j : Nat) (b : ByteArray), (x.kind = 5 ∨ k + (f.count : Int) ≤ x.n) → Fo.stand x k b f = true → Fo.stand y j b f.ground = true
  | .nil, _, _, _, _, _ => rfl
  | .cons z ks r, k, j, b, hc, h => by
    simp only [Fo.stand, Bool.and_eq_true] at h
    simp only [Fo.count] at hc
    push_cast at hc
    by_cases h9 : z.kind = 9
    · rw [ground_9 h9]
      have hm := h.1
      unfold mayStand at hm
      by_cases h5 : x.kind = 5
      · rw [if_pos h5] at hm
        simp [bare, h9] at hm
      · rw [if_neg h5, if_pos h9] at hm
        simp only [Bool.and_eq_true, decide_eq_true_eq] at hm
        have : r.count = 0 := by omega
        cases r with
        | nil => rfl
        | cons _ _ _ => simp [Fo.count] at this
    · obtain ⟨z', k', e, hn, h9', -⟩ := ground_head h9 ks r
      rw [e]
      simp only [Fo.stand, Bool.and_eq_true]
      refine ⟨?_, ?_⟩
      · have hm := h.1
        unfold mayStand at hm ⊢
        rw [hk]
        by_cases h5 : x.kind = 5
        · rw [if_pos h5] at hm ⊢
          simp only [bare, Bool.and_eq_true, decide_eq_true_eq] at hm ⊢
          exact ⟨by rw [hn]; exact hm.1, h9'⟩
        · rw [if_neg h5, if_neg h9] at hm
          rw [if_neg h5, if_neg h9', hn]
          exact hm
      · rw [hn]
        refine ground_stand hk r (k + 1) (j + 1) z.name ?_ h.2
        rcases hc with hc | hc
        · exact Or.inl hc
        · exact Or.inr (by push_cast; omega)
theorem ok_nil_of {f : Fo} (h : f.count = 0) : f = .nil := by
  cases f with
  | nil => rfl
  | cons _ _ _ => simp [Fo.count] at h
theorem ground_ok : ∀ f : Fo, f.ok = true → f.ground.ok = true
  | .nil, _ => rfl
  | .cons x ks r, h => by
    simp only [Fo.ok, Bool.and_eq_true, decide_eq_true_eq] at h
    obtain ⟨⟨⟨⟨hn, hm⟩, hs⟩, hk⟩, hr⟩ := h
    have i1 := ground_ok ks hk
    have i2 := ground_ok r hr
    have hc := ground_count ks
    have hb := many_of_numbered hn
    rw [Fo.ground]
    split
    · exact i2
    split
    · simp [Fo.ok, i2, numbered, many, Fo.count, Fo.stand]
    split
    · simp [Fo.ok, i2, numbered, many, Fo.count, Fo.stand]
    split
    · rename_i h9 h8 h7 h67
      have hmx : many x = x.n := by unfold many; rw [if_neg (by omega), if_pos h67]
      simp only [Fo.ok, Bool.and_eq_true, decide_eq_true_eq]
      refine ⟨⟨⟨⟨?_, ?_⟩, ?_⟩, i1⟩, i2⟩
      · unfold numbered
        simp only
        rw [if_neg (by omega), if_neg (by omega)]
        by_cases h6 : x.kind = 6
        · rw [if_pos h6]; simp only [Bool.and_eq_true, decide_eq_true_eq]; omega
        · rw [if_neg h6, if_pos (by omega)]
          simp only [Bool.and_eq_true, decide_eq_true_eq]
          have : ks.ground.count ≠ 0 := fun g => h7 ⟨by omega, g⟩
          omega
      · unfold many
        simp only
        rw [if_neg (by omega), if_pos h67]
      · exact ground_stand (x := x) (y := ⟨x.kind, x.name, ks.ground.count⟩) rfl ks 0 0 _ (Or.inr (by omega)) hs
    · rename_i h9 h8 h7 h67
      simp only [Fo.ok, Bool.and_eq_true, decide_eq_true_eq]
      by_cases h5 : x.kind = 5
      · exact ⟨⟨⟨⟨hn, by rw [ground_arrow h5 ks 0 _ hs]; exact hm⟩, ground_stand rfl ks 0 0 _ (Or.inl h5) hs⟩, i1⟩, i2⟩
      · have h0 : many x = 0 := by unfold many; rw [if_neg h5, if_neg h67]
        have : ks = .nil := ok_nil_of (by omega)
        subst this
        exact ⟨⟨⟨⟨hn, hm⟩, hs⟩, i1⟩, i2⟩
/-- Nothing is left: there were Tails only, thus no ?. -/
theorem ground_none : ∀ f : Fo, f.ok = true → f.ground.count = 0 → f.flat.any dynN = false
  | .nil, _, _ => rfl
  | .cons x ks r, h, h0 => by
    by_cases h9 : x.kind = 9
    · rw [ground_9 h9] at h0
      simp only [Fo.ok, Bool.and_eq_true, decide_eq_true_eq] at h
      obtain ⟨⟨⟨⟨hn, hm⟩, hs⟩, hk⟩, hr⟩ := h
      have hm0 : many x = 0 := by unfold many; rw [if_neg (by omega), if_neg (by omega)]
      have : ks = .nil := ok_nil_of (by omega)
      subst this
      simp [Fo.flat, ground_none r hr h0, dynN, h9]
    · obtain ⟨y, k', e, -⟩ := ground_head h9 ks r
      rw [e] at h0
      simp [Fo.count] at h0
theorem ground_static : ∀ f : Fo, f.ok = true → f.ground.flat.any dynN = f.flat.any dynN
  | .nil, _ => rfl
  | .cons x ks r, h => by
    have h' := h
    simp only [Fo.ok, Bool.and_eq_true, decide_eq_true_eq] at h
    obtain ⟨⟨⟨⟨hn, hm⟩, hs⟩, hk⟩, hr⟩ := h
    have i1 := ground_static ks hk
    have i2 := ground_static r hr
    rw [Fo.ground]
    split
    · rename_i h9
      have hm0 : many x = 0 := by unfold many; rw [if_neg (by omega), if_neg (by omega)]
      have : ks = .nil := ok_nil_of (by omega)
      subst this
      simp [Fo.flat, i2, dynN, h9]
    split
    · rename_i h9 h8
      have hm0 : many x = 0 := by unfold many; rw [if_neg (by omega), if_neg (by omega)]
      have : ks = .nil := ok_nil_of (by omega)
      subst this
      simp [Fo.flat, i2, dynN, h8]
    split
    · rename_i h9 h8 h7
      simp [Fo.flat, i2, dynN, h7.1, ground_none ks hk h7.2]
    split
    · simp only [Fo.flat, List.any_cons, List.any_append, i1, i2, dynN]
    · simp only [Fo.flat, List.any_cons, List.any_append, i1, i2]
theorem ground_same : ∀ f : Fo, f.ok = true → f.flat.any varN = false → f.ground = f
  | .nil, _, _ => rfl
  | .cons x ks r, h, hp => by
    simp only [Fo.ok, Bool.and_eq_true, decide_eq_true_eq] at h
    obtain ⟨⟨⟨⟨hn, hm⟩, hs⟩, hk⟩, hr⟩ := h
    simp only [Fo.flat, List.any_cons, List.any_append, Bool.or_eq_false_iff] at hp
    obtain ⟨hx, hp1, hp2⟩ := hp
    have i1 := ground_same ks hk hp1
    have i2 := ground_same r hr hp2
    simp only [varN, Bool.or_eq_false_iff, decide_eq_false_iff_not] at hx
    rw [Fo.ground, if_neg hx.2, if_neg hx.1, i1, i2]
    by_cases h67 : x.kind = 6 ∨ x.kind = 7
    · have hmx : many x = x.n := by unfold many; rw [if_neg (by omega), if_pos h67]
      rw [if_neg, if_pos h67]
      · have : x = ⟨x.kind, x.name, ks.count⟩ := by
          cases x; simp only at hmx ⊢; rw [← hm, hmx]
        rw [← this]
      · rintro ⟨h7, h0⟩
        unfold numbered at hn
        rw [if_neg (by omega), if_neg (by omega), if_neg (by omega), if_pos h7] at hn
        simp only [Bool.and_eq_true, decide_eq_true_eq] at hn
        omega
    · rw [if_neg (by omega), if_neg h67]
theorem ground_twice (f : Fo) (h : f.ok = true) : f.ground.ground = f.ground := ground_same _ (ground_ok f h) (ground_plain f)
/-- Of a type: a type. -/
theorem ground_right {x : Nd} {ks : Fo} (hl : (x :: ks.flat).length ≤ 10000) (hb : bare x = true) (ho : (Fo.cons x ks .nil).ok = true) (hd : ks.deep + 1 ≤ 100) : rightL (Fo.cons x ks .nil).ground.flat = true := by
  have h9 : x.kind ≠ 9 := by
    simp only [bare, Bool.and_eq_true, decide_eq_true_eq] at hb
    exact hb.2
  obtain ⟨y, k', e, hn, h9', -⟩ := ground_head h9 ks .nil
  have o := ground_ok _ ho
  have d := ground_deep (.cons x ks .nil)
  have n := ground_len (.cons x ks .nil)
  rw [e, ground_nil] at o d n ⊢
  simp only [Fo.deep, Fo.flat, List.append_nil, Nat.max_zero] at d n ⊢
  refine (rightL_iff _).2 ⟨y, k', rfl, Nat.le_trans n hl, ?_, o, Nat.le_trans d hd⟩
  simp only [bare, Bool.and_eq_true, decide_eq_true_eq] at hb ⊢
  exact ⟨by rw [hn]; exact hb.1, h9'⟩
end Go.Proofs.Ytkkigdbinnfbfaa.L
