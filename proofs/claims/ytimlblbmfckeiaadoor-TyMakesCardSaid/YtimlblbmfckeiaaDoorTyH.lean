/-
  The reference's answer to what a type is, as plain definitions over lists of nodes, and that it is the same answer. No program; no conditions but those that each lemma names.
-/
import Derived.Test.YtimlblbmfckeiaaDoorTyE
namespace Go.Proofs.YtimlblbmfckeiaaDoor.L
open Go

/-- What is full at the top is taken off, and the one below counts down (the top first). -/
def norm : List Nat → List Nat
  | 0 :: m :: r => norm ((m - 1) :: r)
  | [0] => []
  | s => s

def shal : List Nat → List Nd → Bool
  | _, [] => true
  | s, x :: r => if 100 ≤ s.length then false else shal (norm ((many x).toNat :: s)) r

theorem norm_pos (m : Nat) (s : List Nat) : norm ((m + 1) :: s) = (m + 1) :: s := by unfold norm; rfl
theorem norm_zero (m : Nat) (s : List Nat) : norm (0 :: (m + 1) :: s) = norm (m :: s) := by rw [norm]; rfl

theorem shal_flat (f : Fo) (hok : f.ok = true) : ∀ (c : Nat) (s : List Nat) (r : List Nd), f ≠ .nil → shal ((f.count + c) :: s) (f.flat ++ r) = (decide (f.deep + s.length + 1 ≤ 100) && shal (norm (c :: s)) r) := by
  induction f with
  | nil => intro c s r h; exact absurd rfl h
  | cons x ks g ih1 ih2 =>
    intro c s r _
    simp [Fo.ok] at hok
    obtain ⟨⟨⟨⟨hn, hm⟩, hs⟩, hk⟩, hg⟩ := hok
    have hmt : (many x).toNat = ks.count := by omega
    have e1 : (Fo.cons x ks g).count + c = (g.count + c) + 1 := by simp [Fo.count]; omega
    rw [e1]
    simp only [Fo.flat, List.cons_append, List.append_assoc]
    rw [shal, hmt]
    simp only [List.length_cons]
    by_cases h100 : 100 ≤ s.length + 1
    · rw [if_pos h100]
      symm
      simp [Fo.deep]
      omega
    · rw [if_neg h100]
      have tail : shal (norm ((g.count + c) :: s)) (g.flat ++ r) = (decide (g.deep = 0 ∨ g.deep + s.length + 1 ≤ 100) && shal (norm (c :: s)) r) := by
        cases g with
        | nil => simp [Fo.count, Fo.flat, Fo.deep]
        | cons y k2 g2 =>
          have e2 : (Fo.cons y k2 g2).count + c = (g2.count + c) + 1 := by simp [Fo.count]; omega
          rw [e2, norm_pos, ← e2, ih2 hg c s r (by simp)]
          congr 1
          rw [Bool.eq_iff_iff]
          simp [Fo.deep]
      cases ks with
      | nil =>
        simp only [Fo.count, Fo.flat, List.nil_append]
        rw [norm_zero, tail]
        congr 1
        rw [Bool.eq_iff_iff]
        simp [Fo.deep]
        omega
      | cons y k2 g2 =>
        have e3 : (Fo.cons y k2 g2).count = g2.count + 1 := rfl
        rw [e3, norm_pos, ← e3]
        have := ih1 hk 0 ((g.count + c + 1) :: s) (g.flat ++ r) (by simp)
        rw [Nat.add_zero] at this
        rw [this, norm_zero, tail, ← Bool.and_assoc]
        congr 1
        rw [Bool.eq_iff_iff]
        simp [Fo.deep]
        omega

theorem shal_tree {x : Nd} {ks : Fo} (h : (Fo.cons x ks .nil).ok = true) : shal [] (x :: ks.flat) = decide (ks.deep + 1 ≤ 100) := by
  simp [Fo.ok] at h
  obtain ⟨⟨⟨hn, hm⟩, hs⟩, hk⟩ := h
  rw [shal, if_neg (by simp), show (many x).toNat = ks.count by omega]
  cases ks with
  | nil =>
    simp only [Fo.count, Fo.flat, Fo.deep]
    rw [show norm [0] = [] by simp [norm], shal]
    rfl
  | cons y k2 g2 =>
    rw [show (Fo.cons y k2 g2).count = g2.count + 1 from rfl, norm_pos]
    have := shal_flat (Fo.cons y k2 g2) hk 0 [] [] (by simp)
    rw [Nat.add_zero, List.append_nil] at this
    rw [show g2.count + 1 = (Fo.cons y k2 g2).count from rfl, this, show norm [0] = [] by simp [norm], shal]
    simp

/-- May these places' nodes stand under x, from number k on? -/
def standAt (l : List Nd) (x : Nd) : Nat → ByteArray → List Nat → Bool
  | _, _, [] => true
  | k, b, q :: qs => mayStand x k b (l.getD q default) && standAt l x (k + 1) (l.getD q default).name qs

def labR (l : List Nd) (i : Nat) : Bool :=
  decide ((kidsL l (many (l.getD i default)).toNat (i + 1)).length = (many (l.getD i default)).toNat) && standAt l (l.getD i default) 0 ⟨#[]⟩ (kidsL l (many (l.getD i default)).toNat (i + 1))

/-- The reference's answer. -/
def rightR (l : List Nd) : Bool :=
  match l with
  | [] => false
  | x :: _ => decide (l.length ≤ 10000) && (bare x && (l.all numbered && (decide (eat 1 l = l.length) && (shal [] l && (List.range l.length).all (labR l)))))

theorem getD_drop {l : List Nd} {p : Nat} {y : Nd} {r : List Nd} (h : l.drop p = y :: r) : l.getD p default = y ∧ p < l.length ∧ l.drop (p + 1) = r := by
  have hp : p < l.length := by
    rcases Nat.lt_or_ge p l.length with h1 | h1
    · exact h1
    · rw [List.drop_eq_nil_of_le h1] at h; cases h
  have h2 := List.drop_eq_getElem_cons hp
  rw [h] at h2
  injection h2 with h3 h4
  refine ⟨?_, hp, h4.symm⟩
  simp [List.getD, hp, h3]

theorem drop_more {l a b : List Nd} {p : Nat} (h : l.drop p = a ++ b) : l.drop (p + a.length) = b := by
  rw [← List.drop_drop, h, List.drop_left]

theorem kids_flat (l : List Nd) (x : Nd) : ∀ (f : Fo) (p k : Nat) (b : ByteArray) (r : List Nd), f.ok = true → l.drop p = f.flat ++ r → (kidsL l f.count p).length = f.count ∧ standAt l x k b (kidsL l f.count p) = Fo.stand x k b f := by
  intro f
  induction f with
  | nil => intro p k b r _ _; exact ⟨rfl, rfl⟩
  | cons y ks g _ ih2 =>
    intro p k b r hok hd
    have hok' := hok
    simp [Fo.ok] at hok
    obtain ⟨⟨⟨⟨hn, hm⟩, hs⟩, hk⟩, hg⟩ := hok
    simp only [Fo.flat, List.cons_append, List.append_assoc] at hd
    obtain ⟨h1, h2, h3⟩ := getD_drop hd
    have ht : (Fo.cons y ks .nil).ok = true := by simp [Fo.ok, hn, hm, hs, hk]
    have he : eat 1 (l.drop p) = ks.flat.length + 1 := by rw [hd]; exact eat_tree ht _
    have hd2 : l.drop (p + eat 1 (l.drop p)) = g.flat ++ r := by
      rw [he, show p + (ks.flat.length + 1) = (p + 1) + ks.flat.length by omega]
      exact drop_more h3
    obtain ⟨i1, i2⟩ := ih2 (p + eat 1 (l.drop p)) (k + 1) y.name r hg hd2
    simp only [Fo.count, kidsL, if_pos h2, List.length_cons, i1, standAt, h1, Fo.stand, i2, and_self]

/-- Each place of a row of trees is a tree's first node. -/
theorem tree_at (l : List Nd) : ∀ (f : Fo) (p i : Nat) (r : List Nd), f.ok = true → l.drop p = f.flat ++ r → p ≤ i → i < p + f.flat.length → ∃ y ks r2, l.drop i = y :: (ks.flat ++ r2) ∧ (Fo.cons y ks .nil).ok = true := by
  intro f
  induction f with
  | nil => intro p i r _ _ h1 h2; simp [Fo.flat] at h2; omega
  | cons y ks g ih1 ih2 =>
    intro p i r hok hd h1 h2
    simp [Fo.ok] at hok
    obtain ⟨⟨⟨⟨hn, hm⟩, hs⟩, hk⟩, hg⟩ := hok
    simp only [Fo.flat, List.cons_append, List.append_assoc, List.length_cons, List.length_append] at hd h2
    obtain ⟨_, _, h3⟩ := getD_drop hd
    by_cases e : i = p
    · subst e
      exact ⟨y, ks, g.flat ++ r, hd, by simp [Fo.ok, hn, hm, hs, hk]⟩
    · by_cases hi : i < p + 1 + ks.flat.length
      · exact ih1 (p + 1) i (g.flat ++ r) hk h3 (by omega) hi
      · exact ih2 (p + 1 + ks.flat.length) i r hg (drop_more h3) (by omega) (by omega)

theorem numbered_flat : ∀ (f : Fo), f.ok = true → ∀ x ∈ f.flat, numbered x = true := by
  intro f
  induction f with
  | nil => intro _ x h; simp [Fo.flat] at h
  | cons y ks g ih1 ih2 =>
    intro hok x hx
    simp [Fo.ok] at hok
    obtain ⟨⟨⟨⟨hn, hm⟩, hs⟩, hk⟩, hg⟩ := hok
    simp only [Fo.flat, List.mem_cons, List.mem_append] at hx
    rcases hx with rfl | hx | hx
    · exact hn
    · exact ih1 hk x hx
    · exact ih2 hg x hx

theorem forest_of (l : List Nd) (x : Nd) : ∀ (c p k : Nat) (b : ByteArray), (kidsL l c p).length = c → (∀ q, p ≤ q → q < l.length → ∃ y ks r, l.drop q = y :: (ks.flat ++ r) ∧ (Fo.cons y ks .nil).ok = true) → standAt l x k b (kidsL l c p) = true →
    ∃ (f : Fo) (r : List Nd), f.count = c ∧ f.ok = true ∧ l.drop p = f.flat ++ r ∧ Fo.stand x k b f = true := by
  intro c
  induction c with
  | zero => intro p k b _ _ _; exact ⟨.nil, l.drop p, rfl, rfl, rfl, rfl⟩
  | succ c ih =>
    intro p k b hl ht hs
    rw [kidsL] at hl hs
    by_cases hp : p < l.length
    · rw [if_pos hp] at hl hs
      obtain ⟨y, ks, r, hd, hok⟩ := ht p (Nat.le_refl _) hp
      obtain ⟨h1, _, h3⟩ := getD_drop hd
      have he : eat 1 (l.drop p) = ks.flat.length + 1 := by rw [hd]; exact eat_tree hok _
      have hd2 : l.drop (p + eat 1 (l.drop p)) = r := by
        rw [he, show p + (ks.flat.length + 1) = (p + 1) + ks.flat.length by omega]
        exact drop_more h3
      simp only [standAt, h1, Bool.and_eq_true] at hs
      obtain ⟨g, r2, hg1, hg2, hg3, hg4⟩ := ih (p + eat 1 (l.drop p)) (k + 1) y.name (by simpa using hl) (fun q hq hlq => ht q (by omega) hlq) hs.2
      refine ⟨.cons y ks g, r2, by simp [Fo.count, hg1], ?_, ?_, ?_⟩
      · simp only [Fo.ok, Bool.and_true, Bool.and_eq_true] at hok ⊢
        exact ⟨hok, hg2⟩
      · rw [hd2] at hg3
        simp only [Fo.flat, List.cons_append, List.append_assoc]
        rw [hd, hg3]
      · simp only [Fo.stand, Bool.and_eq_true]
        exact ⟨hs.1, hg4⟩
    · rw [if_neg hp] at hl
      simp at hl

theorem all_trees (l : List Nd) (hn : ∀ x ∈ l, numbered x = true) (hl : ∀ i, i < l.length → labR l i = true) : ∀ (m i : Nat), l.length - i ≤ m → i < l.length → ∃ y ks r, l.drop i = y :: (ks.flat ++ r) ∧ (Fo.cons y ks .nil).ok = true := by
  intro m
  induction m with
  | zero => intro i h1 h2; omega
  | succ m ih =>
    intro i h1 h2
    have hd := List.drop_eq_getElem_cons h2
    have hg : l.getD i default = l[i] := by simp [List.getD, h2]
    have h := hl i h2
    unfold labR at h
    rw [hg] at h
    simp only [Bool.and_eq_true, decide_eq_true_eq] at h
    obtain ⟨f, r, hc, hok, hf, hst⟩ := forest_of l l[i] _ (i + 1) 0 ⟨#[]⟩ h.1 (fun q hq hlq => ih q (by omega) hlq) h.2
    have hnum := hn _ (List.getElem_mem h2)
    have := many_of_numbered hnum
    refine ⟨l[i], f, r, by rw [hd, hf], ?_⟩
    simp only [Fo.ok, hnum, hst, hok, Bool.and_true, Bool.true_and, decide_eq_true_eq]
    omega

theorem rightR_eq (l : List Nd) : rightR l = rightL l := by
  rw [Bool.eq_iff_iff, rightL_iff]
  cases l with
  | nil => simp [rightR]
  | cons x0 l0 =>
    obtain ⟨l, hl⟩ : ∃ l, x0 :: l0 = l := ⟨_, rfl⟩
    simp only [rightR, hl, Bool.and_eq_true, decide_eq_true_eq, List.all_eq_true]
    constructor
    · rintro ⟨h1, h2, h3, h4, h5, h6⟩
      have h0 : 0 < l.length := by rw [← hl]; simp
      obtain ⟨y, ks, r, hd, hok⟩ := all_trees l h3 (fun i hi => h6 i (by simpa using hi)) l.length 0 (by omega) h0
      rw [List.drop_zero] at hd
      have hy : x0 = y := by rw [← hl] at hd; injection hd
      subst hy
      have he := eat_tree hok r
      have hlen := congrArg List.length hd
      rw [← hd, h4] at he
      have hr : r = [] := by
        apply List.eq_nil_of_length_eq_zero
        simp at hlen
        omega
      subst hr
      rw [List.append_nil] at hd
      refine ⟨x0, ks, hd, h1, h2, hok, ?_⟩
      rw [hd, shal_tree hok] at h5
      simpa using h5
    · rintro ⟨y, ks, hd, h1, h2, hok, h5⟩
      have hy : x0 = y := by rw [← hl] at hd; injection hd
      subst hy
      have hd0 : l.drop 0 = (Fo.cons x0 ks .nil).flat ++ [] := by rw [List.drop_zero, hd]; simp [Fo.flat]
      refine ⟨h1, h2, ?_, ?_, ?_, ?_⟩
      · intro z hz
        rw [hd] at hz
        exact numbered_flat (Fo.cons x0 ks .nil) hok z (by simpa [Fo.flat] using hz)
      · have := eat_tree hok []
        rw [List.append_nil] at this
        rw [hd, this]
        simp
      · rw [hd, shal_tree hok]
        simpa using h5
      · intro i hi
        have hi2 : i < l.length := by simpa using hi
        obtain ⟨y, k2, r2, hdi, hok2⟩ := tree_at l _ 0 i [] hok hd0 (Nat.zero_le _) (by rw [hd] at hi2; simp [Fo.flat] at hi2 ⊢; omega)
        obtain ⟨g1, _, g3⟩ := getD_drop hdi
        have hok3 := hok2
        simp only [Fo.ok, Bool.and_true, Bool.and_eq_true, decide_eq_true_eq] at hok3
        obtain ⟨⟨⟨hn, hm⟩, hs⟩, hk⟩ := hok3
        unfold labR
        rw [g1, show (many y).toNat = k2.count by omega]
        obtain ⟨j1, j2⟩ := kids_flat l y k2 (i + 1) 0 ⟨#[]⟩ r2 hk g3
        rw [j1, j2, hs]
        simp

end Go.Proofs.YtimlblbmfckeiaaDoor.L
