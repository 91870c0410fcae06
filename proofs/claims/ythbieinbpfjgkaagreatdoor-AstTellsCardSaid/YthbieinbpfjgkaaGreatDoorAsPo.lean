/-
  Expressions without casts, no name of which is a key, that are printed alike are the same, but for sites: the print tells its class; chains of labels. No machine here. No conditions but those that each lemma names.
-/
import Derived.Test.YthbieinbpfjgkaaGreatDoorAsPn
import Derived.Test.YthbieinbpfjgkaaGreatDoorMA7
namespace Go.Proofs.YthbieinbpfjgkaaGreatDoor.E
open Go

/-- The same, but for labels. -/
structure Alk (x : Pt) (ks : Fo) (y : Pt) (ls : Fo) : Prop where
  kind : x.kind = y.kind
  name : x.name = y.name
  bind : x.bind = y.bind
  many : x.many = y.many
  num : x.num = y.num
  t : L.sameL x.t y.t = true
  u : L.sameL x.u y.u = true
  kids : sameE ks.flat ls.flat = true

theorem Alk.node {x y : Pt} {ks ls : Fo} (h : Alk x ks y ls) (hl : x.label = y.label) : sameE (x :: ks.flat) (y :: ls.flat) = true := by
  have hp : sameP x y = true := by
    unfold sameP
    simp only [Bool.and_eq_true, decide_eq_true_eq]
    exact ⟨h.kind, hl, h.name, h.bind, h.many, h.num, h.t, h.u⟩
  simp only [sameE, Bool.and_eq_true]
  exact ⟨hp, h.kids⟩

theorem sameE_append {a b c d : List Pt} (h1 : sameE a b = true) (h2 : sameE c d = true) : sameE (a ++ c) (b ++ d) = true := by
  induction a generalizing b with
  | nil => cases b with
    | nil => exact h2
    | cons y b => simp [sameE] at h1
  | cons x a ih => cases b with
    | nil => simp [sameE] at h1
    | cons y b =>
      simp only [sameE, Bool.and_eq_true, List.cons_append] at h1 ⊢
      exact ⟨h1.1, ih h1.2⟩

theorem bare_same {x y : Pt} (hx : bare x = true) (hy : bare y = true) : x.label = y.label := (bare_label hx).1.trans (bare_label hy).1.symm

theorem kids_one {c d : Pt} {kc kd : Fo} (h : Alk c kc d kd) (hc : bare c = true) (hd : bare d = true) : sameE (Fo.cons c kc .nil).flat (Fo.cons d kd .nil).flat = true := by
  simp only [Fo.flat, List.append_nil]
  exact h.node (bare_same hc hd)

theorem kids_more {c d : Pt} {kc kd r s : Fo} (h : Alk c kc d kd) (hl : c.label = d.label) (hr : sameE r.flat s.flat = true) : sameE (Fo.cons c kc r).flat (Fo.cons d kd s).flat = true := by
  simp only [Fo.flat]
  exact sameE_append (a := c :: kc.flat) (b := d :: kd.flat) (h.node hl) hr

/-! ### Chains of labels -/
/-- x is p with these labels behind it. -/
inductive Sp : Pt → Fo → Pt → Fo → List ByteArray → Prop
  | core {x : Pt} {ks : Fo} : Sp x ks x ks []
  | get {x c p : Pt} {kc kp : Fo} {l : List ByteArray} (hx : x.kind = 11) : Sp c kc p kp l → Sp x (.cons c kc .nil) p kp (l ++ [x.name])

def dots (l : List ByteArray) : List UInt8 := l.flatMap fun n => 46 :: n.data.toList

theorem many11 {x : Pt} (h : sound x = true) (hk : x.kind = 11) : many x = 1 := many_of hk (by decide) (by decide) (by decide) (snd11 h hk).2.2.1

theorem spine : ∀ (ks : Fo) (x : Pt), GdF (.cons x ks .nil) → x.kind ≠ 8 → ∃ p kp l, Sp x ks p kp l ∧ GdF (.cons p kp .nil) ∧ p.kind ≠ 11 ∧ p.kind ≠ 8 ∧ kp.flat.length ≤ ks.flat.length ∧ prT x ks = prT p kp ++ dots l ∧ ∀ n ∈ l, nameB 97 122 n = true
  | .nil, x, h, h8 => by
    have h11 : x.kind ≠ 11 := fun hk => by
      have h1 := many11 h.tree.1 hk
      rw [h.tree.2.1] at h1
      simp [Fo.count] at h1
    exact ⟨x, .nil, [], .core, h, h11, h8, Nat.le_refl _, by simp [dots], by simp⟩
  | .cons c kc r, x, h, h8 => by
    by_cases h11 : x.kind = 11
    · obtain ⟨c', kc', he, hc, hb⟩ := kids1 h (many11 h.tree.1 h11) (by omega) (by omega)
      injection he with e1 e2 e3
      subst e1 e2 e3
      obtain ⟨p, kp, l, h1, h2, h3, h4, h5, h6, h7⟩ := spine kc c hc (bare_label hb).2
      refine ⟨p, kp, l ++ [x.name], .get h11 h1, h2, h3, h4, ?_, ?_, ?_⟩
      · simp only [Fo.flat, List.append_nil, List.length_cons]; omega
      · rw [pr_get h11, h6]; simp [dots]
      · intro n hn
        rcases List.mem_append.1 hn with hn | hn
        · exact h7 n hn
        · rw [List.mem_singleton] at hn
          subst hn
          exact (snd11 h.tree.1 h11).1
    · exact ⟨x, .cons c kc r, [], .core, h, h11, h8, Nat.le_refl _, by simp [dots], by simp⟩

theorem dots_uniq : ∀ (l m : List ByteArray) {r s : List UInt8}, (∀ n ∈ l, nameB 97 122 n = true) → (∀ n ∈ m, nameB 97 122 n = true) → StopR r → StopR s → Dotless r → Dotless s → dots l ++ r = dots m ++ s → l = m ∧ r = s
  | [], [], _, _, _, _, _, _, _, _, h => ⟨rfl, by simpa [dots] using h⟩
  | [], n :: m, r, s, _, _, _, _, hr, _, h => (hr (n.data.toList ++ (dots m ++ s)) (by simpa [dots] using h)).elim
  | n :: l, [], r, s, _, _, _, _, _, hs, h => (hs (n.data.toList ++ (dots l ++ r)) (by simpa [dots] using h.symm)).elim
  | n :: l, k :: m, r, s, hl, hm, sr, ss, hr, hs, h => by
    have st : ∀ (q : List ByteArray) {t : List UInt8}, StopR t → StopR (dots q ++ t) := by
      intro q t ht
      cases q with
      | nil => simpa [dots] using ht
      | cons a q => exact stop_cons (t := a.data.toList ++ (dots q ++ t)) (by decide) |> fun h => by simpa [dots] using h
    have h' : n.data.toList ++ (dots l ++ r) = k.data.toList ++ (dots m ++ s) := by simpa [dots] using h
    obtain ⟨h1, h2⟩ := cutW (name_go (Or.inl ⟨rfl, rfl⟩) (hl n (by simp))).2 (name_go (Or.inl ⟨rfl, rfl⟩) (hm k (by simp))).2 (st l sr) (st m ss) h'
    obtain ⟨h3, h4⟩ := dots_uniq l m (fun z hz => hl z (by simp [hz])) (fun z hz => hm z (by simp [hz])) sr ss hr hs h2
    exact ⟨by rw [ByteArray.ext (Array.toList_inj.1 h1), h3], h4⟩

theorem dots_stop (l : List ByteArray) {r : List UInt8} (hr : StopR r) : StopR (dots l ++ r) := by
  cases l with
  | nil => simpa [dots] using hr
  | cons a q =>
    have h : StopR (46 :: (a.data.toList ++ (dots q ++ r))) := stop_cons (by decide)
    simpa [dots] using h

theorem alk_spine {x p : Pt} {ks kp : Fo} {l : List ByteArray} (h : Sp x ks p kp l) : ∀ {y q : Pt} {ls kq : Fo}, Sp y ls q kq l → GdF (.cons x ks .nil) → GdF (.cons y ls .nil) → Alk p kp q kq → Alk x ks y ls := by
  induction h with
  | core =>
    intro y q ls kq h2 _ _ ha
    generalize hl : ([] : List ByteArray) = l at h2
    cases h2 with
    | core => exact ha
    | get hy h3 => simp at hl
  | @get x c p kc kp l hx h1 ih =>
    intro y q ls kq h2 gx gy ha
    generalize hl : l ++ [x.name] = m at h2
    cases h2 with
    | core => simp at hl
    | @get _ d _ kd _ l2 hy h3 =>
      obtain ⟨e1, e2⟩ := List.append_inj' hl rfl
      subst e1
      injection e2 with e2
      obtain ⟨c', kc', he, hc, bc⟩ := kids1 gx (many11 gx.tree.1 hx) (by omega) (by omega)
      injection he with e3 e4
      subst e3 e4
      obtain ⟨d', kd', he, hd, bd⟩ := kids1 gy (many11 gy.tree.1 hy) (by omega) (by omega)
      injection he with e3 e4
      subst e3 e4
      have hk := ih h3 hc hd ha
      obtain ⟨-, a1, a2, a3, a4, a5⟩ := snd11 gx.tree.1 hx
      obtain ⟨-, b1, b2, b3, b4, b5⟩ := snd11 gy.tree.1 hy
      exact ⟨by omega, e2, by rw [a1, b1], by omega, by omega, by rw [a4, b4]; rfl, by rw [a5, b5]; rfl, kids_one hk bc bd⟩

/-! ### The print tells its class -/
theorem cls_w {x : Pt} {ks : Fo} (h : GdF (.cons x ks .nil)) (h11 : x.kind ≠ 11) (hc : clsP x = 1) (r : List UInt8) : clsB (prT x ks ++ r) = 1 := by
  obtain ⟨-, e, ⟨c, t, e2⟩, hg, -⟩ := wordy h hc h11
  rw [e, e2]
  exact clsB_go (hg c (by rw [e2]; simp))

/-- No print of an expression begins with a key of brackets, nor with a bracket's end. -/
theorem begins {x : Pt} {ks : Fo} (h : GdF (.cons x ks .nil)) (h8 : x.kind ≠ 8) {r : List UInt8} (hr : StopR r) : (∃ c t, prT x ks ++ r = c :: t ∧ (goN c = true ∨ c = 34 ∨ c = 40 ∨ c = 123 ∨ c = 91)) ∧ kwB ((prT x ks ++ r).takeWhile goN) = 8 := by
  obtain ⟨p, kp, l, h1, h2, h3, h4, h5, h6, h7⟩ := spine ks x h h8
  rw [h6, List.append_assoc]
  have hs := dots_stop l hr
  obtain ⟨R, hR⟩ : ∃ R, R = dots l ++ r := ⟨_, rfl⟩
  rw [← hR] at hs ⊢
  by_cases hc : clsP p = 1
  · obtain ⟨-, e, ⟨c, t, e2⟩, hg, hkw, -⟩ := wordy h2 hc h3
    rw [e]
    refine ⟨⟨c, t ++ R, by rw [e2]; rfl, Or.inl (hg c (by rw [e2]; simp))⟩, ?_⟩
    rw [takeW hg hs]
    exact hkw
  · have key : ∃ c t, prT p kp ++ R = c :: t ∧ (c = 34 ∨ c = 40 ∨ c = 123 ∨ c = 91) := by
      have hkb := kind_bound h2.tree.1
      have h14 := h2.tree.2.2.2.2.1
      have f40 : ∀ t, firstP p = 40 :: t → ∃ c t, prT p kp ++ R = c :: t ∧ (c = 34 ∨ c = 40 ∨ c = 123 ∨ c = 91) := fun t ht => ⟨40, t ++ (kp.pr p 0 ++ lastP p) ++ R, by rw [prT_def, ht]; rfl, Or.inr (Or.inl rfl)⟩
      by_cases h10 : p.kind = 10
      · exact ⟨123, _, by rw [pr_rows h10]; rfl, by simp⟩
      by_cases h12 : p.kind = 12
      · exact ⟨91, [] ++ (p.name.data.toList ++ [32, 61, 32]) ++ (kp.pr p 0 ++ lastP p) ++ R, by rw [prT_def]; simp [firstP, h12], by simp⟩
      by_cases h0 : p.kind = 0
      · obtain ⟨n, ht, -, -, -, -, -, hl⟩ := snd0 h2.tree.1 h0
        have hlk : litK p = n.kind := by unfold litK; rw [ht]
        have e0 : firstP p = litP p := by unfold firstP; rw [if_pos h0]
        have e1 : litP p = if n.kind = 2 then (if p.num = 0 then [102, 97, 108, 115, 101] else [116, 114, 117, 101]) else if n.kind = 3 then X.G.quoteL p.name.data.toList else if n.kind = 4 then [40, 41] else Lib.itoa p.num := by
          unfold litP; rw [ht]
        unfold clsP at hc
        rw [if_pos h0, hlk] at hc
        rcases hl with ⟨k1, -⟩ | ⟨k2, -⟩ | ⟨k3, -⟩ | ⟨k4, -⟩
        · rw [if_neg (by omega), if_neg (by omega)] at hc; exact absurd rfl hc
        · rw [if_neg (by omega), if_neg (by omega)] at hc; exact absurd rfl hc
        · obtain ⟨t, ht⟩ := quote_head p.name.data.toList
          exact ⟨34, t ++ (kp.pr p 0 ++ lastP p) ++ R, by rw [prT_def, e0, e1, if_neg (by omega), if_pos k3, ht]; rfl, Or.inl rfl⟩
        · exact f40 [41] (by rw [e0, e1, if_neg (by omega), if_neg (by omega), if_pos k4])
      by_cases h1 : p.kind = 1
      · exfalso
        apply hc
        unfold clsP
        rw [if_neg (by omega), if_pos h1]
      by_cases h22 : p.kind = 2
      · exact f40 _ (by unfold firstP; simp [h22]; rfl)
      by_cases h44 : p.kind = 4
      · exact f40 _ (by unfold firstP; simp [h44]; rfl)
      by_cases h55 : p.kind = 5
      · exact f40 _ (by unfold firstP; simp [h55]; rfl)
      by_cases h66 : p.kind = 6
      · exact f40 _ (by unfold firstP; simp [h66]; rfl)
      by_cases h77 : p.kind = 7
      · exact f40 _ (by unfold firstP; simp [h77]; rfl)
      · have : p.kind = 3 ∨ p.kind = 9 ∨ p.kind = 13 := by omega
        exact f40 [] (by unfold firstP; rw [if_neg (by omega), if_neg (by omega), if_neg (by omega), if_pos this])
    obtain ⟨c, t, e, hh⟩ := key
    rw [e]
    refine ⟨⟨c, t, rfl, Or.inr hh⟩, ?_⟩
    rw [List.takeWhile_cons, if_neg (by rcases hh with rfl | rfl | rfl | rfl <;> decide)]
    rfl

theorem clsB40 (r : List UInt8) : clsB (40 :: r) = if r.head? = some 41 then 5 else kwB (r.takeWhile goN) := rfl
theorem kw_of (w r : List UInt8) (hw : ∀ x ∈ w, goN x = true) (hh : w.head? ≠ some 41) (hw2 : w ≠ []) : clsB (40 :: (w ++ 32 :: r)) = kwB w := by
  rw [clsB40, takeW hw (stop_cons (by decide)), if_neg]
  cases w with
  | nil => exact absurd rfl hw2
  | cons c t => exact hh

theorem cls_child {c : Pt} {kc : Fo} (h : GdF (.cons c kc .nil)) (h8 : c.kind ≠ 8) {r : List UInt8} (hr : StopR r) : clsB (40 :: (prT c kc ++ r)) = 8 := by
  obtain ⟨⟨d, t, e, hd⟩, hk⟩ := begins h h8 hr
  rw [clsB40, hk, e, if_neg]
  rintro hh
  injection hh with hh
  subst hh
  rcases hd with hd | hd | hd | hd | hd
  · exact absurd hd (by decide)
  all_goals exact absurd hd (by decide)

theorem many_k {x : Pt} {ks : Fo} (h : GdF (.cons x ks .nil)) (hk : x.kind = 2 ∨ x.kind = 3 ∨ x.kind = 4 ∨ x.kind = 5 ∨ x.kind = 6 ∨ x.kind = 8 ∨ x.kind = 9 ∨ x.kind = 12 ∨ x.kind = 13) : many x = base x.kind := by
  have a := h.tree.1
  refine many_of rfl (by omega) (by omega) (by omega) ?_
  rcases hk with k | k | k | k | k | k | k | k | k
  · exact (snd2 a (Or.inl k)).2.2.2.1
  · exact (snd3 a (Or.inl k)).2.2.1
  · exact (snd2 a (Or.inr k)).2.2.2.1
  · exact (snd5 a k).2.2.2.2.1
  · exact (snd3 a (Or.inr k)).2.2.1
  · exact (snd8 a k).2.2.1
  · exact (snd9 a k).2.2.1
  · exact (snd12 a k).2.2.2.1
  · exact (snd13 a k).2.2.2.1

theorem cls_eq {x : Pt} {ks : Fo} (h : GdF (.cons x ks .nil)) (h8 : x.kind ≠ 8) (h11 : x.kind ≠ 11) (r : List UInt8) : clsB (prT x ks ++ r) = clsP x := by
  have a := h.tree.1
  have hkb := kind_bound a
  have h14 := h.tree.2.2.2.2.1
  have sp : ∀ t, StopR (32 :: t) := fun t => stop_cons (by decide)
  by_cases hc : clsP x = 1
  · rw [hc]; exact cls_w h h11 hc r
  have hk : x.kind = 0 ∨ x.kind = 1 ∨ x.kind = 2 ∨ x.kind = 3 ∨ x.kind = 4 ∨ x.kind = 5 ∨ x.kind = 6 ∨ x.kind = 7 ∨ x.kind = 9 ∨ x.kind = 10 ∨ x.kind = 12 ∨ x.kind = 13 := by omega
  rcases hk with k | k | k | k | k | k | k | k | k | k | k | k
  · obtain ⟨n, ht, -, -, -, -, -, hl⟩ := snd0 a k
    have hlk : litK x = n.kind := by unfold litK; rw [ht]
    have e0 : firstP x = litP x := by unfold firstP; rw [if_pos k]
    have e1 : litP x = if n.kind = 2 then (if x.num = 0 then [102, 97, 108, 115, 101] else [116, 114, 117, 101]) else if n.kind = 3 then X.G.quoteL x.name.data.toList else if n.kind = 4 then [40, 41] else Lib.itoa x.num := by
      unfold litP; rw [ht]
    have ec : clsP x = if n.kind = 3 then 2 else if n.kind = 4 then 5 else 1 := by unfold clsP; rw [if_pos k, hlk]
    rw [ec] at hc ⊢
    rcases hl with ⟨k1, -⟩ | ⟨k2, -⟩ | ⟨k3, -⟩ | ⟨k4, -⟩
    · rw [if_neg (by omega), if_neg (by omega)] at hc; exact absurd rfl hc
    · rw [if_neg (by omega), if_neg (by omega)] at hc; exact absurd rfl hc
    · obtain ⟨t, ht⟩ := quote_head x.name.data.toList
      rw [prT_def, e0, e1, if_neg (by omega), if_pos k3, ht, if_pos k3]
      rfl
    · rw [prT_def, e0, e1, if_neg (by omega), if_neg (by omega), if_pos k4, if_neg (by omega), if_pos k4]
      rfl
  · exfalso; apply hc; unfold clsP; rw [if_neg (by omega), if_pos k]
  · obtain ⟨c, kc, rfl, -, -⟩ := kids1 h ((many_k h (by omega)).trans (by rw [k]; rfl)) (by omega) (by omega)
    rw [pr_fun k, show clsP x = 7 by simp [clsP, k]]
    exact kw_of [102, 117, 110] (40 :: ((x.bind.data.toList ++ 58 :: 32 :: (L.tyP x.t ++ 41 :: 32 :: 45 :: 62 :: 32 :: (prT c kc ++ [41]))) ++ r)) (by decide) (by decide) (by simp)
  · obtain ⟨c, kc, d, kd, rfl, hc1, hb1, -, -⟩ := kids2 h ((many_k h (by omega)).trans (by rw [k]; rfl)) (by omega) (by omega)
    rw [pr_app k, show clsP x = 8 by simp [clsP, k], List.cons_append, List.append_assoc]
    exact cls_child hc1 (bare_label hb1).2 (sp _)
  · obtain ⟨c, kc, d, kd, rfl, -⟩ := kids2 h ((many_k h (by omega)).trans (by rw [k]; rfl)) (by omega) (by omega)
    rw [pr_let k, show clsP x = 9 by simp [clsP, k]]
    exact kw_of [108, 101, 116] ((x.bind.data.toList ++ 58 :: 32 :: (L.tyP x.t ++ 32 :: 61 :: 32 :: (prT c kc ++ 32 :: 105 :: 110 :: 32 :: (prT d kd ++ [41])))) ++ r) (by decide) (by decide) (by simp)
  · obtain ⟨c, kc, d, kd, rfl, -⟩ := kids2 h ((many_k h (by omega)).trans (by rw [k]; rfl)) (by omega) (by omega)
    rw [pr_rec k, show clsP x = 10 by simp [clsP, k]]
    exact kw_of [114, 101, 99] ((x.name.data.toList ++ 32 :: 40 :: (x.bind.data.toList ++ 58 :: 32 :: (L.tyP x.t ++ 41 :: 58 :: 32 :: (L.tyP x.u ++ 32 :: 61 :: 32 :: (prT c kc ++ 32 :: 105 :: 110 :: 32 :: (prT d kd ++ [41])))))) ++ r) (by decide) (by decide) (by simp)
  · obtain ⟨c, kc, d, kd, e, ke, rfl, -⟩ := kids3 h ((many_k h (by omega)).trans (by rw [k]; rfl)) (by omega) (by omega)
    rw [pr_if k, show clsP x = 11 by simp [clsP, k]]
    exact kw_of [105, 102] ((prT c kc ++ 32 :: 116 :: 104 :: 101 :: 110 :: 32 :: (prT d kd ++ 32 :: 101 :: 108 :: 115 :: 101 :: 32 :: (prT e ke ++ [41]))) ++ r) (by decide) (by decide) (by simp)
  · have : ∃ c kc q, ks = .cons c kc q := by
      cases ks with
      | cons c kc q => exact ⟨c, kc, q, rfl⟩
      | nil =>
        exfalso
        have h2 := h.tree.2.1
        unfold sound at a
        simp only [k, Int.reduceEq, if_true, if_false, only, Bool.and_eq_true, decide_eq_true_eq] at a
        unfold many at h2
        rw [if_neg (by omega), k] at h2
        have hb : base 7 = 1 := rfl
        simp only [Fo.count] at h2
        have := a.1
        omega
    obtain ⟨c, kc, q, rfl⟩ := this
    rw [pr_case k, show clsP x = 12 by simp [clsP, k]]
    exact kw_of [99, 97, 115, 101] ((prT c kc ++ (q.pr x 1 ++ 32 :: 101 :: 110 :: 100 :: [41])) ++ r) (by decide) (by decide) (by simp)
  · obtain ⟨c, kc, d, kd, rfl, hc1, hb1, -, -⟩ := kids2 h ((many_k h (by omega)).trans (by rw [k]; rfl)) (by omega) (by omega)
    rw [pr_op k, show clsP x = 8 by simp [clsP, k], List.cons_append, List.append_assoc]
    exact cls_child hc1 (bare_label hb1).2 (sp _)
  · rw [pr_rows k, show clsP x = 3 by simp [clsP, k]]
    rfl
  · obtain ⟨c, kc, rfl, -, -⟩ := kids1 h ((many_k h (by omega)).trans (by rw [k]; rfl)) (by omega) (by omega)
    rw [pr_inject k, show clsP x = 4 by simp [clsP, k]]
    rfl
  · obtain ⟨c, kc, rfl, hc1, hb1⟩ := kids1 h ((many_k h (by omega)).trans (by rw [k]; rfl)) (by omega) (by omega)
    rw [pr_as k, show clsP x = 8 by simp [clsP, k], List.cons_append, List.append_assoc]
    exact cls_child hc1 (bare_label hb1).2 (stop_cons (by decide))

end Go.Proofs.YthbieinbpfjgkaaGreatDoor.E
