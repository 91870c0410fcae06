/-
  Substitution on trees: children merged by their labels; the variables of what is put; without the number the type stays. No program.
-/
import Derived.Test.YtkkigdbinnfbfaaM1
import Derived.Test.YtkkigdbinnfbfaaM4
namespace Go.Proofs.Ytkkigdbinnfbfaa.L
open Go

/-- A tree set among a row, ahead of the first whose label is greater, or of the Tail. -/
def Fo.ins (y : Nd) (k : Fo) : Fo → Fo
  | .nil => .cons y k .nil
  | .cons z zk r => if z.kind = 9 ∨ ltB y.name z.name = true then .cons y k (.cons z zk r) else .cons z zk (Fo.ins y k r)
theorem ins_any (p : Nd → Bool) (y : Nd) (k : Fo) : ∀ f : Fo, (Fo.ins y k f).flat.any p = (p y || (k.flat.any p || f.flat.any p))
  | .nil => by simp [Fo.ins, Fo.flat]
  | .cons z zk r => by
    rw [Fo.ins]
    split
    · simp [Fo.flat]
    · simp only [Fo.flat, List.any_cons, List.any_append, ins_any p y k r]
      cases p y <;> cases p z <;> cases k.flat.any p <;> cases zk.flat.any p <;> rfl
theorem ins_count (y : Nd) (k : Fo) : ∀ f : Fo, (Fo.ins y k f).count = f.count + 1
  | .nil => rfl
  | .cons z zk r => by
    rw [Fo.ins]
    split
    · rfl
    · simp only [Fo.count, ins_count y k r]
theorem ins_len (y : Nd) (k : Fo) : ∀ f : Fo, (Fo.ins y k f).flat.length = k.flat.length + f.flat.length + 1
  | .nil => by simp [Fo.ins, Fo.flat]
  | .cons z zk r => by
    rw [Fo.ins]
    split
    · simp only [Fo.flat, List.length_cons, List.length_append]
    · simp only [Fo.flat, List.length_cons, List.length_append, ins_len y k r]; omega
theorem ins_deep (y : Nd) (k : Fo) : ∀ f : Fo, (Fo.ins y k f).deep = max (k.deep + 1) f.deep
  | .nil => by simp [Fo.ins, Fo.deep]
  | .cons z zk r => by
    rw [Fo.ins]
    split
    · rfl
    · simp only [Fo.deep, ins_deep y k r]; omega
/-- Two trees of unlike labels, neither a Tail, may be set in any order. -/
def tri (a b : ByteArray) : Prop := (ltB a b = true ∧ ltB b a = false) ∨ (ltB b a = true ∧ ltB a b = false)

/-- u, with the children uk, for the number n, in a row: of labels, if m. -/
def Fo.put (n : Int) (u : Nd) (uk : Fo) : Bool → Fo → Fo
  | _, .nil => .nil
  | m, .cons x ks r =>
    if x.kind = 9 ∧ x.n = n then uk
    else if x.kind = 8 ∧ x.n = n then
      bif m then Fo.ins ⟨u.kind, x.name, u.n⟩ uk (Fo.put n u uk m r) else .cons ⟨u.kind, x.name, u.n⟩ uk (Fo.put n u uk m r)
    else if x.kind = 6 ∨ x.kind = 7 then
      bif m then Fo.ins ⟨x.kind, x.name, (Fo.put n u uk true ks).count⟩ (Fo.put n u uk true ks) (Fo.put n u uk m r)
      else .cons ⟨x.kind, x.name, (Fo.put n u uk true ks).count⟩ (Fo.put n u uk true ks) (Fo.put n u uk m r)
    else
      bif m then Fo.ins x (Fo.put n u uk false ks) (Fo.put n u uk m r) else .cons x (Fo.put n u uk false ks) (Fo.put n u uk m r)

/-- Does the variable v stand in it? -/
def vr (v : Int) (x : Nd) : Bool := varN x && decide (x.n = v)
def tl (n : Int) (x : Nd) : Bool := decide (x.kind = 9) && decide (x.n = n)
theorem kids_none {x : Nd} {ks : Fo} (hm : many x = ks.count) (h : x.kind = 8 ∨ x.kind = 9) : ks = .nil := by
  have h0 : many x = 0 := by unfold many; rw [if_neg (by omega), if_neg (by omega)]
  cases ks with
  | nil => rfl
  | cons _ _ _ => simp only [Fo.count] at hm; omega
/-- The variables of what is put: those but n, and, if n stands there, what was put's. The row's Tail is its last. -/
def Fo.ends : Fo → Bool
  | .nil => true
  | .cons x _ r => (!decide (x.kind = 9) || decide (r.count = 0)) && r.ends
theorem stand_ends {x : Nd} (h5 : x.kind ≠ 5) : ∀ (f : Fo) (k : Nat) (b : ByteArray), k + (f.count : Int) ≤ x.n → Fo.stand x k b f = true → f.ends = true
  | .nil, _, _, _, _ => rfl
  | .cons y ks r, k, b, hc, h => by
    simp only [Fo.stand, Bool.and_eq_true] at h
    simp only [Fo.count] at hc
    push_cast at hc
    simp only [Fo.ends, Bool.and_eq_true, Bool.or_eq_true, Bool.not_eq_true', decide_eq_false_iff_not, decide_eq_true_eq]
    refine ⟨?_, stand_ends h5 r (k + 1) y.name (by push_cast; omega) h.2⟩
    by_cases h9 : y.kind = 9
    · right
      have hm := h.1
      unfold mayStand at hm
      rw [if_neg h5, if_pos h9] at hm
      simp only [Bool.and_eq_true, decide_eq_true_eq] at hm
      omega
    · exact Or.inl h9
theorem stand_ends5 {x : Nd} (h5 : x.kind = 5) : ∀ (f : Fo) (k : Nat) (b : ByteArray), Fo.stand x k b f = true → f.ends = true
  | .nil, _, _, _ => rfl
  | .cons y ks r, k, b, h => by
    simp only [Fo.stand, Bool.and_eq_true, mayStand, if_pos h5, bare, decide_eq_true_eq] at h
    simp only [Fo.ends, Bool.and_eq_true, Bool.or_eq_true, Bool.not_eq_true', decide_eq_false_iff_not, decide_eq_true_eq]
    exact ⟨Or.inl h.1.2, stand_ends5 h5 r _ _ h.2⟩
theorem kids_ends {x : Nd} {ks : Fo} (hm : many x = ks.count) (hs : Fo.stand x 0 ⟨#[]⟩ ks = true) : ks.ends = true := by
  by_cases h5 : x.kind = 5
  · exact stand_ends5 h5 ks _ _ hs
  · by_cases h67 : x.kind = 6 ∨ x.kind = 7
    · have : many x = x.n := by unfold many; rw [if_neg h5, if_pos h67]
      exact stand_ends h5 ks 0 _ (by omega) hs
    · have h0 : many x = 0 := by unfold many; rw [if_neg h5, if_neg h67]
      cases ks with
      | nil => rfl
      | cons _ _ _ => simp only [Fo.count] at hm; omega
theorem put_key1 : ∀ D X R N U K : Bool, (D && X) = false → (U || (K || ((D && R) || (N && (U || K))))) = ((D && (X || (false || R))) || ((true || (false || N)) && (U || K))) := by decide
set_option maxRecDepth 100000 in
theorem put_key2 : ∀ D X R N U K A B : Bool, (D && X) = X → (X || (((D && A) || (B && (U || K))) || ((D && R) || (N && (U || K))))) = ((D && (X || (A || R))) || ((false || (B || N)) && (U || K))) := by decide
theorem put_vars (n : Int) (u : Nd) (uk : Fo) (v : Int) : ∀ (f : Fo) (m : Bool), f.ok = true → f.ends = true → (f.flat.any (tl n) = true → varN u = false) →
    (Fo.put n u uk m f).flat.any (vr v) = ((decide (v ≠ n) && f.flat.any (vr v)) || (f.flat.any (vr n) && (vr v u || uk.flat.any (vr v))))
  | .nil, m, _, _, _ => by cases m <;> simp [Fo.put, Fo.flat]
  | .cons x ks r, m, h, he, ht => by
    simp only [Fo.ok, Bool.and_eq_true, decide_eq_true_eq] at h
    obtain ⟨⟨⟨⟨hn, hm⟩, hs⟩, hk⟩, hr⟩ := h
    simp only [Fo.ends, Bool.and_eq_true, Bool.or_eq_true, Bool.not_eq_true', decide_eq_false_iff_not, decide_eq_true_eq] at he
    have hke := kids_ends hm hs
    simp only [Fo.flat, List.any_cons, List.any_append, Bool.or_eq_true] at ht
    have i2 := put_vars n u uk v r m hr he.2 (fun g => ht (Or.inr (Or.inr g)))
    have ik := fun b => put_vars n u uk v ks b hk hke (fun g => ht (Or.inr (Or.inl g)))
    have hub : ∀ z : ByteArray, vr v ⟨u.kind, z, u.n⟩ = vr v u := fun _ => rfl
    have hxc : ∀ c : Int, x.kind = 6 ∨ x.kind = 7 → vr v ⟨x.kind, x.name, c⟩ = false := fun c hc => by
      simp only [vr, varN]; rw [decide_eq_false (by omega), decide_eq_false (by omega)]; rfl
    have hxv : ∀ w : Int, ¬(x.kind = 8 ∨ x.kind = 9) → vr w x = false := fun w hw => by
      simp only [vr, varN]; rw [decide_eq_false (by omega), decide_eq_false (by omega)]; rfl
    simp only [Fo.flat, List.any_cons, List.any_append]
    by_cases h9 : x.kind = 9 ∧ x.n = n
    · rw [Fo.put, if_pos h9]
      have : r = .nil := by
        have := he.1.resolve_left (fun g => g h9.1)
        cases r with
        | nil => rfl
        | cons _ _ _ => simp [Fo.count] at this
      subst this
      obtain rfl := kids_none hm (Or.inr h9.1)
      have hu := ht (Or.inl (by simp [tl, h9.1, h9.2]))
      have e1 : vr n x = true := by simp [vr, varN, h9.1, h9.2]
      have e2 : vr v u = false := by simp [vr, hu]
      have e3 : (decide (v ≠ n) && vr v x) = false := by
        simp only [vr, varN, h9.1, h9.2]
        by_cases e : n = v
        · subst e; simp
        · simp [e]
      simp only [Fo.flat, List.any_nil, Bool.or_false, e1, e2, e3, Bool.true_and, Bool.false_or]
    rw [Fo.put, if_neg h9]
    by_cases h8 : x.kind = 8 ∧ x.n = n
    · rw [if_pos h8]
      obtain rfl := kids_none hm (Or.inl h8.1)
      have e1 : vr n x = true := by simp [vr, varN, h8.1, h8.2]
      have e3 : (decide (v ≠ n) && vr v x) = false := by
        simp only [vr, varN, h8.1, h8.2]
        by_cases e : n = v
        · subst e; simp
        · simp [e]
      have goal : ∀ X : Bool, X = (vr v u || (uk.flat.any (vr v) || (Fo.put n u uk m r).flat.any (vr v))) → X = (decide (v ≠ n) && (vr v x || (Fo.nil.flat.any (vr v) || r.flat.any (vr v))) || (vr n x || (Fo.nil.flat.any (vr n) || r.flat.any (vr n))) && (vr v u || uk.flat.any (vr v))) := by
        rintro X rfl
        rw [i2, e1]
        exact put_key1 _ _ _ _ _ _ e3
      cases m with
      | false => exact goal _ (by simp only [cond_false, Fo.flat, List.any_cons, List.any_append, hub])
      | true => exact goal _ (by rw [cond_true, ins_any, hub])
    rw [if_neg h8]
    have ev : vr n x = false := by
      simp only [vr, varN]
      by_cases e : x.n = n
      · rw [decide_eq_false (fun g => h8 ⟨g, e⟩), decide_eq_false (fun g => h9 ⟨g, e⟩)]; rfl
      · rw [decide_eq_false e, Bool.and_false]
    have evv : (decide (v ≠ n) && vr v x) = vr v x := by
      by_cases e : v = n
      · subst e; rw [ev, Bool.and_false]
      · rw [decide_eq_true e, Bool.true_and]
    have goal : ∀ (X K : Bool), K = (decide (v ≠ n) && ks.flat.any (vr v) || ks.flat.any (vr n) && (vr v u || uk.flat.any (vr v))) → X = (vr v x || (K || (Fo.put n u uk m r).flat.any (vr v))) → X = (decide (v ≠ n) && (vr v x || (ks.flat.any (vr v) || r.flat.any (vr v))) || (vr n x || (ks.flat.any (vr n) || r.flat.any (vr n))) && (vr v u || uk.flat.any (vr v))) := by
      rintro X K rfl rfl
      rw [i2, ev]
      exact put_key2 _ _ _ _ _ _ _ _ evv
    by_cases h67 : x.kind = 6 ∨ x.kind = 7
    · rw [if_pos h67]
      have ex : vr v x = false := hxv v (by omega)
      cases m with
      | false => exact goal _ _ (ik true) (by simp only [cond_false, Fo.flat, List.any_cons, List.any_append, hxc _ h67])
      | true => exact goal _ _ (ik true) (by rw [cond_true, ins_any, hxc _ h67, ex])
    · rw [if_neg h67]
      cases m with
      | false => exact goal _ _ (ik false) (by simp only [cond_false, Fo.flat, List.any_cons, List.any_append])
      | true => exact goal _ _ (ik false) (by rw [cond_true, ins_any])

/-! ### Without the number the type stays -/
theorem ins_cons {x y : Nd} (h5 : x.kind ≠ 5) (ks r : Fo) (k : Nat) (b : ByteArray) (hc : k + ((Fo.cons y ks r).count : Int) ≤ x.n) (h : Fo.stand x k b (.cons y ks r) = true) (k' : Fo) {y' : Nd} (hn : y'.name = y.name) : Fo.ins y' k' r = .cons y' k' r := by
  cases r with
  | nil => rfl
  | cons z zk r =>
    simp only [Fo.stand, Bool.and_eq_true] at h
    simp only [Fo.count] at hc
    rw [Fo.ins, if_pos]
    have hm := h.2.1
    unfold mayStand at hm
    rw [if_neg h5] at hm
    by_cases h9 : z.kind = 9
    · exact Or.inl h9
    · rw [if_neg h9] at hm
      simp only [Bool.and_eq_true] at hm
      rw [hn]
      exact Or.inr hm.2
theorem put_none (n : Int) (u : Nd) (uk : Fo) : ∀ (f : Fo), f.ok = true → f.flat.any (vr n) = false →
    Fo.put n u uk false f = f ∧ ∀ (x : Nd) (k : Nat) (b : ByteArray), x.kind ≠ 5 → k + (f.count : Int) ≤ x.n → Fo.stand x k b f = true → Fo.put n u uk true f = f
  | .nil, _, _ => ⟨rfl, fun _ _ _ _ _ _ => rfl⟩
  | .cons x ks r, h, hv => by
    simp only [Fo.ok, Bool.and_eq_true, decide_eq_true_eq] at h
    obtain ⟨⟨⟨⟨hn, hm⟩, hs⟩, hk⟩, hr⟩ := h
    simp only [Fo.flat, List.any_cons, List.any_append, Bool.or_eq_false_iff] at hv
    obtain ⟨hx, h1, h2⟩ := hv
    have ik := put_none n u uk ks hk h1
    have ir := put_none n u uk r hr h2
    have h9 : ¬(x.kind = 9 ∧ x.n = n) := fun g => by simp [vr, varN, g.1, g.2] at hx
    have h8 : ¬(x.kind = 8 ∧ x.n = n) := fun g => by simp [vr, varN, g.1, g.2] at hx
    have hb := many_of_numbered hn
    rw [Fo.put, Fo.put, if_neg h9, if_neg h8, if_neg h9, if_neg h8]
    by_cases h67 : x.kind = 6 ∨ x.kind = 7
    · have hmx : many x = x.n := by unfold many; rw [if_neg (by omega), if_pos h67]
      have e : Fo.put n u uk true ks = ks := ik.2 x 0 _ (by omega) (by omega) hs
      have ex : (⟨x.kind, x.name, (ks.count : Int)⟩ : Nd) = x := by
        cases x; simp only at hmx ⊢; rw [← hm, hmx]
      rw [if_pos h67, if_pos h67, e, ex, ir.1]
      refine ⟨rfl, fun y k b h5 hc hst => ?_⟩
      have hst' := hst
      simp only [Fo.stand, Bool.and_eq_true] at hst'
      have hc' := hc
      simp only [Fo.count] at hc'
      push_cast at hc'
      rw [cond_true, ir.2 y (k + 1) x.name h5 (by push_cast; omega) hst'.2, ins_cons h5 ks r k b hc hst _ rfl]
    · have e : Fo.put n u uk false ks = ks := ik.1
      rw [if_neg h67, if_neg h67, e, ir.1]
      refine ⟨rfl, fun y k b h5 hc hst => ?_⟩
      have hst' := hst
      simp only [Fo.stand, Bool.and_eq_true] at hst'
      have hc' := hc
      simp only [Fo.count] at hc'
      push_cast at hc'
      rw [cond_true, ir.2 y (k + 1) x.name h5 (by push_cast; omega) hst'.2, ins_cons h5 ks r k b hc hst _ rfl]
/-- A Var put for its own number changes nothing, if no Tail has the number. -/
theorem put_self (n : Int) : ∀ (f : Fo), f.ok = true → f.flat.any (tl n) = false →
    Fo.put n ⟨8, ⟨#[]⟩, n⟩ .nil false f = f ∧ ∀ (x : Nd) (k : Nat) (b : ByteArray), x.kind ≠ 5 → k + (f.count : Int) ≤ x.n → Fo.stand x k b f = true → Fo.put n ⟨8, ⟨#[]⟩, n⟩ .nil true f = f
  | .nil, _, _ => ⟨rfl, fun _ _ _ _ _ _ => rfl⟩
  | .cons x ks r, h, hv => by
    simp only [Fo.ok, Bool.and_eq_true, decide_eq_true_eq] at h
    obtain ⟨⟨⟨⟨hn, hm⟩, hs⟩, hk⟩, hr⟩ := h
    simp only [Fo.flat, List.any_cons, List.any_append, Bool.or_eq_false_iff] at hv
    obtain ⟨hx, h1, h2⟩ := hv
    have ik := put_self n ks hk h1
    have ir := put_self n r hr h2
    have h9 : ¬(x.kind = 9 ∧ x.n = n) := fun g => by simp [tl, g.1, g.2] at hx
    have hb := many_of_numbered hn
    rw [Fo.put, Fo.put, if_neg h9, if_neg h9]
    by_cases h8 : x.kind = 8 ∧ x.n = n
    · obtain rfl := kids_none hm (Or.inl h8.1)
      have ex : (⟨8, x.name, n⟩ : Nd) = x := by
        cases x; simp only at h8 ⊢; rw [h8.1, h8.2]
      rw [if_pos h8, if_pos h8, ir.1]
      simp only [ex]
      refine ⟨rfl, fun y k b h5 hc hst => ?_⟩
      have hst' := hst
      simp only [Fo.stand, Bool.and_eq_true] at hst'
      have hc' := hc
      simp only [Fo.count] at hc'
      push_cast at hc'
      rw [cond_true, ir.2 y (k + 1) x.name h5 (by push_cast; omega) hst'.2, ins_cons h5 _ r k b hc hst _ rfl]
    rw [if_neg h8, if_neg h8]
    by_cases h67 : x.kind = 6 ∨ x.kind = 7
    · have hmx : many x = x.n := by unfold many; rw [if_neg (by omega), if_pos h67]
      have e : Fo.put n ⟨8, ⟨#[]⟩, n⟩ .nil true ks = ks := ik.2 x 0 _ (by omega) (by omega) hs
      have ex : (⟨x.kind, x.name, (ks.count : Int)⟩ : Nd) = x := by
        cases x; simp only at hmx ⊢; rw [← hm, hmx]
      rw [if_pos h67, if_pos h67, e, ex, ir.1]
      refine ⟨rfl, fun y k b h5 hc hst => ?_⟩
      have hst' := hst
      simp only [Fo.stand, Bool.and_eq_true] at hst'
      have hc' := hc
      simp only [Fo.count] at hc'
      push_cast at hc'
      rw [cond_true, ir.2 y (k + 1) x.name h5 (by push_cast; omega) hst'.2, ins_cons h5 ks r k b hc hst _ rfl]
    · have e : Fo.put n ⟨8, ⟨#[]⟩, n⟩ .nil false ks = ks := ik.1
      rw [if_neg h67, if_neg h67, e, ir.1]
      refine ⟨rfl, fun y k b h5 hc hst => ?_⟩
      have hst' := hst
      simp only [Fo.stand, Bool.and_eq_true] at hst'
      have hc' := hc
      simp only [Fo.count] at hc'
      push_cast at hc'
      rw [cond_true, ir.2 y (k + 1) x.name h5 (by push_cast; omega) hst'.2, ins_cons h5 ks r k b hc hst _ rfl]
end Go.Proofs.Ytkkigdbinnfbfaa.L
