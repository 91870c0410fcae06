/-
  Expressions without casts, no name of which is a key, are printed alike just if they are the same, but for sites. No machine here. No conditions but those that each lemma names.
-/
import Derived.Test.YthbieinbpfjgkaaGreatDoorAsPo
namespace Go.Proofs.YthbieinbpfjgkaaGreatDoor.E
open Go

/-- The ways to read prints, of less than so many parts behind the first one. -/
def UB (N : Nat) : Prop := ∀ (x : Pt) (ks : Fo) (y : Pt) (ls : Fo) (r s : List UInt8), ks.flat.length < N → GdF (.cons x ks .nil) → GdF (.cons y ls .nil) → x.kind ≠ 8 → y.kind ≠ 8 → StopR r → StopR s → Dotless r → Dotless s → prT x ks ++ r = prT y ls ++ s → Alk x ks y ls ∧ r = s

theorem UB.kid {N : Nat} (ih : UB N) {c d : Pt} {kc kd : Fo} {b : UInt8} {r s : List UInt8} (hn : kc.flat.length < N) (hc : GdF (.cons c kc .nil)) (hd : GdF (.cons d kd .nil)) (bc : c.kind ≠ 8) (bd : d.kind ≠ 8) {b2 : UInt8} (h1 : goN b = false) (h2 : b ≠ 46) (g1 : goN b2 = false) (g2 : b2 ≠ 46)
    (h : prT c kc ++ b :: r = prT d kd ++ b2 :: s) : Alk c kc d kd ∧ b = b2 ∧ r = s := by
  obtain ⟨ha, he⟩ := ih c kc d kd _ _ hn hc hd bc bd (stop_cons h1) (stop_cons g1) (dot_cons h2) (dot_cons g2) h
  injection he with e1 e2
  exact ⟨ha, e1, e2⟩

/-- The children of a row. -/
def Rws : Fo → Prop
  | .nil => True
  | .cons c _ r => c.kind ≠ 8 ∧ nameB 97 122 c.label = true ∧ Rws r
theorem rws_of {x : Pt} (hk : x.kind = 10) : ∀ (f : Fo) (k : Nat) (b : List ByteArray), Fo.stand x k b f = true → Rws f
  | .nil, _, _, _ => trivial
  | .cons c _ r, k, b, h => by
    simp only [Fo.stand, Bool.and_eq_true] at h
    have h1 := h.1
    unfold may at h1
    rw [if_pos hk] at h1
    simp only [Bool.and_eq_true, Bool.not_eq_true', decide_eq_false_iff_not] at h1
    exact ⟨h1.1, h1.2.1, rws_of hk r _ _ h.2⟩
/-- The branches. -/
def Brs : Fo → Prop
  | .nil => True
  | .cons c _ r => c.kind = 8 ∧ nameB 65 90 c.label = true ∧ Brs r
theorem brs_of {x : Pt} (hk : x.kind = 7) : ∀ (f : Fo) (k : Nat) (b : List ByteArray), Fo.stand x (k + 1) b f = true → Brs f
  | .nil, _, _, _ => trivial
  | .cons c _ r, k, b, h => by
    simp only [Fo.stand, Bool.and_eq_true] at h
    have h1 := h.1
    unfold may at h1
    rw [if_neg (by omega), if_pos ⟨hk, by omega⟩] at h1
    simp only [Bool.and_eq_true, decide_eq_true_eq] at h1
    exact ⟨h1.1, h1.2.1, brs_of hk r _ _ h.2⟩

theorem label_uniq {lo hi : Int} (hl : (lo = 97 ∧ hi = 122) ∨ (lo = 65 ∧ hi = 90)) {a b : ByteArray} (ha : nameB lo hi a = true) (hb : nameB lo hi b = true) {c d : UInt8} {r s : List UInt8} (hc : goN c = false) (hd : goN d = false) (h : a.data.toList ++ c :: r = b.data.toList ++ d :: s) : a = b ∧ c = d ∧ r = s := by
  obtain ⟨h1, h2⟩ := cutW (name_go hl ha).2 (name_go hl hb).2 (stop_cons hc) (stop_cons hd) h
  injection h2 with h2 h3
  exact ⟨ByteArray.ext (Array.toList_inj.1 h1), h2, h3⟩

theorem rows_uniq {N : Nat} (ih : UB N) {x y : Pt} (hx : x.kind = 10) (hy : y.kind = 10) : ∀ (f g : Fo) (k : Nat) (r s : List UInt8), f.flat.length < N + 1 → GdF f → GdF g → Rws f → Rws g → f.pr x k ++ 125 :: r = g.pr y k ++ 125 :: s → sameE f.flat g.flat = true ∧ f.count = g.count ∧ r = s := by
  have form : ∀ {z : Pt} (hz : z.kind = 10) (c : Pt) (kc q : Fo) (k : Nat) (t : List UInt8), (Fo.cons c kc q).pr z k ++ t = (if 0 < k then [44, 32] else []) ++ (c.label.data.toList ++ 32 :: 61 :: 32 :: (prT c kc ++ (q.pr z (k + 1) ++ t))) := by
    intro z hz c kc q k t
    rw [Fo.pr_cons]
    by_cases hk : 0 < k
    · simp [betwP, hz, hk]
    · simp [hz, hk]
  have first : ∀ {z : Pt} (hz : z.kind = 10) (c : Pt) (kc q : Fo) (k : Nat) (r t : List UInt8), nameB 97 122 c.label = true → 125 :: r = (Fo.cons c kc q).pr z k ++ t → False := by
    intro z hz c kc q k r t hl h
    rw [form hz] at h
    by_cases hk : 0 < k
    · rw [if_pos hk] at h
      injection h with h1
      exact absurd h1 (by decide)
    · rw [if_neg hk] at h
      obtain ⟨a, u, e, h1, h2⟩ := (name_go (Or.inl ⟨rfl, rfl⟩) hl).1
      rw [e] at h
      injection h with h3
      subst h3
      exact absurd h2 (by decide)
  have nxt : ∀ {z : Pt} (hz : z.kind = 10) (q : Fo) (k : Nat) (r : List UInt8), ∃ b t, q.pr z (k + 1) ++ 125 :: r = b :: t ∧ goN b = false ∧ b ≠ 46 := by
    intro z hz q k r
    cases q with
    | nil => exact ⟨125, r, rfl, by decide, by decide⟩
    | cons d kd q =>
      rw [form hz, if_pos (by omega)]
      exact ⟨44, _, rfl, by decide, by decide⟩
  intro f
  induction f with
  | nil =>
    intro g k r s _ _ _ _ hg h
    cases g with
    | nil => exact ⟨rfl, rfl, by simpa [Fo.pr] using h⟩
    | cons d kd q => exact (first hy d kd q k r _ hg.2.1 (by simpa [Fo.pr] using h)).elim
  | cons c kc q _ ihq =>
    intro g k r s hn gf gg hf hg h
    cases g with
    | nil => exact (first hx c kc q k s _ hf.2.1 (by simpa [Fo.pr] using h.symm)).elim
    | cons d kd q2 =>
      rw [form hx, form hy] at h
      obtain ⟨hl, -, h⟩ := label_uniq (Or.inl ⟨rfl, rfl⟩) hf.2.1 hg.2.1 (by decide) (by decide) (List.append_cancel_left h)
      simp only [List.cons.injEq, true_and] at h
      obtain ⟨b1, t1, e1, n1, m1⟩ := nxt hx q k r
      obtain ⟨b2, t2, e2, n2, m2⟩ := nxt hy q2 k s
      have hn2 : kc.flat.length < N ∧ q.flat.length < N + 1 := by simp only [Fo.flat, List.length_cons, List.length_append] at hn; omega
      obtain ⟨ha, he⟩ := ih c kc d kd _ _ hn2.1 gf.split.1 gg.split.1 hf.1 hg.1 (by rw [e1]; exact stop_cons n1) (by rw [e2]; exact stop_cons n2) (by rw [e1]; exact dot_cons m1) (by rw [e2]; exact dot_cons m2) h
      obtain ⟨h1, h2, h3⟩ := ihq q2 (k + 1) r s hn2.2 gf.split.2 gg.split.2 hf.2.2 hg.2.2 he
      exact ⟨kids_more ha hl h1, by simp only [Fo.count, h2], h3⟩

theorem brs_uniq {N : Nat} (ih : UB N) {x y : Pt} (hx : x.kind = 7) (hy : y.kind = 7) : ∀ (f g : Fo) (k : Nat) (r s : List UInt8), f.flat.length < N + 1 → GdF f → GdF g → Brs f → Brs g → f.pr x (k + 1) ++ 32 :: 101 :: r = g.pr y (k + 1) ++ 32 :: 101 :: s → sameE f.flat g.flat = true ∧ f.count = g.count ∧ r = s := by
  have form : ∀ {z : Pt} (hz : z.kind = 7) (c : Pt) (kc q : Fo) (k : Nat) (t : List UInt8), (Fo.cons c kc q).pr z (k + 1) ++ t = 32 :: ((if k = 0 then [111, 102, 32] else [124, 32]) ++ (prT c kc ++ (q.pr z (k + 1 + 1) ++ t))) := by
    intro z hz c kc q k t
    rw [Fo.pr_cons, if_pos (by omega)]
    by_cases hk : k = 0
    · simp [betwP, hz, hk]
    · simp [betwP, hz, hk]
  have one : ∀ {c : Pt} {kc : Fo}, GdF (.cons c kc .nil) → c.kind = 8 → ∃ d kd, kc = .cons d kd .nil ∧ GdF (.cons d kd .nil) ∧ bare d = true ∧ nameB 97 122 c.bind = true := by
    intro c kc hg hc
    obtain ⟨d, kd, e, h1, h2⟩ := kids1 hg ((many_k hg (by omega)).trans (by rw [hc]; rfl)) (by omega) (by omega)
    exact ⟨d, kd, e, h1, h2, (snd8 hg.tree.1 hc).1⟩
  have first : ∀ {z : Pt} (hz : z.kind = 7) (c : Pt) (kc q : Fo) (k : Nat) (r t : List UInt8), 32 :: 101 :: r = (Fo.cons c kc q).pr z (k + 1) ++ t → False := by
    intro z hz c kc q k r t h
    rw [form hz] at h
    injection h with h1 h2
    by_cases hk : k = 0
    · rw [if_pos hk] at h2
      injection h2 with h3
      exact absurd h3 (by decide)
    · rw [if_neg hk] at h2
      injection h2 with h3
      exact absurd h3 (by decide)
  have nxt : ∀ {z : Pt} (hz : z.kind = 7) (q : Fo) (k : Nat) (r : List UInt8), ∃ t, q.pr z (k + 1 + 1) ++ 32 :: 101 :: r = 32 :: t := by
    intro z hz q k r
    cases q with
    | nil => exact ⟨101 :: r, rfl⟩
    | cons d kd q => rw [form hz]; exact ⟨_, rfl⟩
  intro f
  induction f with
  | nil =>
    intro g k r s _ _ _ _ hg h
    cases g with
    | nil => exact ⟨rfl, rfl, by simpa [Fo.pr] using h⟩
    | cons d kd q => exact (first hy d kd q k r _ (by simpa [Fo.pr] using h)).elim
  | cons c kc q _ ihq =>
    intro g k r s hn gf gg hf hg h
    cases g with
    | nil => exact (first hx c kc q k s _ (by simpa [Fo.pr] using h.symm)).elim
    | cons d kd q2 =>
      rw [form hx, form hy] at h
      injection h with _ h
      have h := List.append_cancel_left h
      obtain ⟨c1, kc1, rfl, gc1, bc1, wc⟩ := one gf.split.1 hf.1
      obtain ⟨d1, kd1, rfl, gd1, bd1, wd⟩ := one gg.split.1 hg.1
      rw [pr_branch hf.1, pr_branch hg.1, List.append_assoc, List.append_assoc, List.cons_append, List.cons_append, List.append_assoc, List.append_assoc] at h
      obtain ⟨hl, -, h⟩ := label_uniq (Or.inr ⟨rfl, rfl⟩) hf.2.1 hg.2.1 (by decide) (by decide) h
      simp only [List.cons_append] at h
      obtain ⟨hb, -, h⟩ := label_uniq (Or.inl ⟨rfl, rfl⟩) wc wd (by decide) (by decide) h
      simp only [List.cons.injEq, true_and] at h
      obtain ⟨t1, e1⟩ := nxt hx q k r
      obtain ⟨t2, e2⟩ := nxt hy q2 k s
      have hn2 : kc1.flat.length < N ∧ q.flat.length < N + 1 := by simp only [Fo.flat, List.length_cons, List.length_append] at hn; omega
      obtain ⟨ha, he⟩ := ih c1 kc1 d1 kd1 _ _ hn2.1 gc1 gd1 (bare_label bc1).2 (bare_label bd1).2 (by rw [e1]; exact stop_cons (by decide)) (by rw [e2]; exact stop_cons (by decide)) (by rw [e1]; exact dot_cons (by decide)) (by rw [e2]; exact dot_cons (by decide)) h
      obtain ⟨h1, h2, h3⟩ := ihq q2 (k + 1) r s hn2.2 gf.split.2 gg.split.2 hf.2.2 hg.2.2 he
      obtain ⟨-, a1, a2, a3, a4, a5⟩ := snd8 gf.split.1.tree.1 hf.1
      obtain ⟨-, c2, c3, c4, c5, c6⟩ := snd8 gg.split.1.tree.1 hg.1
      have hA : Alk c (.cons c1 kc1 .nil) d (.cons d1 kd1 .nil) := ⟨by rw [hf.1, hg.1], by rw [a1, c2], hb, by rw [a2, c3], by rw [a3, c4], by rw [a4, c5]; rfl, by rw [a5, c6]; rfl, kids_one ha bc1 bd1⟩
      exact ⟨kids_more hA hl h1, by simp only [Fo.count, h2], h3⟩

theorem oper_go {s : ByteArray} (h : oper s = true) : (∀ x ∈ s.data.toList, x ≠ 32) ∧ ∃ c t, s.data.toList = c :: t ∧ goN c = false ∧ c ≠ 34 ∧ c ≠ 40 ∧ c ≠ 123 ∧ c ≠ 91 := by
  unfold oper opsL at h
  simp only [List.any_cons, List.any_nil, Bool.or_false, Bool.or_eq_true, decide_eq_true_eq] at h
  rcases h with rfl | rfl | rfl | rfl | rfl | rfl | rfl | rfl | rfl
  all_goals exact ⟨by decide, _, _, rfl, by decide, by decide, by decide, by decide, by decide⟩

theorem sameL_nil {a b : List L.Nd} (ha : a = []) (hb : b = []) : L.sameL a b = true := by rw [ha, hb]; rfl

theorem leaf_nil {x : Pt} {ks : Fo} (h : GdF (.cons x ks .nil)) (hk : x.kind = 0) : ks = .nil := by
  have b := h.tree.2.1
  have hm : many x = 0 := by
    obtain ⟨_, _, _, _, hm, _⟩ := snd0 h.tree.1 hk
    exact many_of hk (by decide) (by decide) (by decide) hm
  rw [hm] at b
  cases ks with
  | nil => rfl
  | cons c kc r => simp [Fo.count] at b; omega

theorem lit_same {x y : Pt} {n m : L.Nd} (h1 : x.t = [n]) (h2 : y.t = [m]) (n1 : n.name = ⟨#[]⟩) (n2 : n.n = 0) (m1 : m.name = ⟨#[]⟩) (m2 : m.n = 0) (hk : n.kind = m.kind) : L.sameL x.t y.t = true := by
  rw [h1, h2]
  simp only [L.sameL, Bool.and_true]
  exact (L.sameN_iff n m).2 ⟨hk, by rw [n1, m1], Or.inl (by rw [n2, m2])⟩

theorem lit_form {x : Pt} {n : L.Nd} (k : x.kind = 0) (ht : x.t = [n]) : litK x = n.kind ∧ prT x .nil = if n.kind = 2 then (if x.num = 0 then [102, 97, 108, 115, 101] else [116, 114, 117, 101]) else if n.kind = 3 then X.G.quoteL x.name.data.toList else if n.kind = 4 then [40, 41] else Lib.itoa x.num := by
  refine ⟨by unfold litK; rw [ht], ?_⟩
  rw [pr_leaf (Or.inl k)]
  unfold firstP litP
  rw [if_pos k, ht]

/-- Words and numbers. -/
theorem word_uniq {x y : Pt} {ks ls : Fo} {r s : List UInt8} (gx : GdF (.cons x ks .nil)) (gy : GdF (.cons y ls .nil)) (x11 : x.kind ≠ 11) (y11 : y.kind ≠ 11) (cx : clsP x = 1) (cy : clsP y = 1) (hr : StopR r) (hs : StopR s) (h : prT x ks ++ r = prT y ls ++ s) : Alk x ks y ls ∧ r = s := by
  obtain ⟨rfl, ex, -, wx, -, kx⟩ := wordy gx cx x11
  obtain ⟨rfl, ey, -, wy, -, ky⟩ := wordy gy cy y11
  have h0 := h
  rw [ex, ey] at h
  obtain ⟨he, hrs⟩ := cutW wx wy hr hs h
  refine ⟨?_, hrs⟩
  have num_word : ∀ {z w : Pt}, sound z = true → sound w = true → z.kind = 0 → w.kind = 1 → clsP z = 1 → GdF (.cons w .nil .nil) → firstP z = firstP w → False := by
    intro z w hz hw kz kw cz gw hh
    obtain ⟨n, ht, -, -, -, -, -, hl⟩ := snd0 hz kz
    obtain ⟨e1, e2⟩ := lit_form kz ht
    rw [pr_leaf (Or.inl kz)] at e2
    have e3 : firstP w = w.name.data.toList := by unfold firstP; rw [if_neg (by omega), if_pos kw]
    have hkey := gw.tree.2.2.2.2.2 kw
    have ec : clsP z = if n.kind = 3 then 2 else if n.kind = 4 then 5 else 1 := by unfold clsP; rw [if_pos kz, e1]
    rw [ec] at cz
    rw [e2, e3] at hh
    obtain ⟨⟨c, t, e, h1, h2⟩, -⟩ := name_cut (snd1 hw kw).1
    rcases hl with ⟨k1, hp, -⟩ | ⟨k2, hp, -⟩ | ⟨k3, -⟩ | ⟨k4, -⟩
    · rw [if_neg (by omega), if_neg (by omega), if_neg (by omega)] at hh
      obtain ⟨⟨c', t', e', h1', h2'⟩, -⟩ := itoa_go hp
      rw [e, e'] at hh
      injection hh with hh
      subst hh
      omega
    · rw [if_pos k2] at hh
      rw [← hh] at hkey
      rcases hp with hp | hp
      · rw [if_pos hp] at hkey; exact absurd hkey (by decide)
      · rw [if_neg (by omega)] at hkey; exact absurd hkey (by decide)
    · rw [if_pos k3] at cz; omega
    · rw [if_neg (by omega), if_pos k4] at cz; omega
  have ax := gx.tree.1
  have ay := gy.tree.1
  rcases kx with kx | kx
  · rcases ky with ky | ky
    · obtain ⟨n, hn, a1, a2, a3, a4, a5, hl⟩ := snd0 ax kx
      obtain ⟨m, hm, b1, b2, b3, b4, b5, gl⟩ := snd0 ay ky
      obtain ⟨e1, e2⟩ := lit_form kx hn
      obtain ⟨f1, f2⟩ := lit_form ky hm
      rw [pr_leaf (Or.inl kx)] at e2
      rw [pr_leaf (Or.inl ky)] at f2
      have ec : clsP x = if n.kind = 3 then 2 else if n.kind = 4 then 5 else 1 := by unfold clsP; rw [if_pos kx, e1]
      have fc : clsP y = if m.kind = 3 then 2 else if m.kind = 4 then 5 else 1 := by unfold clsP; rw [if_pos ky, f1]
      rw [ec] at cx
      rw [fc] at cy
      have hl' : (n.kind = 1 ∧ 0 ≤ x.num ∧ x.name = ⟨#[]⟩) ∨ (n.kind = 2 ∧ (x.num = 0 ∨ x.num = 1) ∧ x.name = ⟨#[]⟩) := by
        rcases hl with h | h | h | h
        · exact Or.inl h
        · exact Or.inr h
        · rw [if_pos h.1] at cx; omega
        · rw [if_neg (by omega), if_pos h.1] at cx; omega
      have gl' : (m.kind = 1 ∧ 0 ≤ y.num ∧ y.name = ⟨#[]⟩) ∨ (m.kind = 2 ∧ (y.num = 0 ∨ y.num = 1) ∧ y.name = ⟨#[]⟩) := by
        rcases gl with h | h | h | h
        · exact Or.inl h
        · exact Or.inr h
        · rw [if_pos h.1] at cy; omega
        · rw [if_neg (by omega), if_pos h.1] at cy; omega
      rw [e2, f2] at he
      have fin : n.kind = m.kind → x.num = y.num → x.name = y.name → Alk x .nil y .nil := fun u1 u2 u3 =>
        ⟨by omega, u3, by rw [a2, b2], by omega, u2, lit_same hn hm a4 a5 b4 b5 u1, sameL_nil a1 b1, rfl⟩
      have mix : ∀ {u v : Int}, 0 ≤ u → (v = 0 ∨ v = 1) → Lib.itoa u = (if v = 0 then [102, 97, 108, 115, 101] else [116, 114, 117, 101]) → False := by
        intro u v hu hv hh
        obtain ⟨⟨c', t', e', h1', h2'⟩, -⟩ := itoa_go hu
        rw [e'] at hh
        split at hh
        all_goals
          injection hh with hh
          subst hh
          exact absurd h2' (by decide)
      rcases hl' with ⟨k1, p1, q1⟩ | ⟨k1, p1, q1⟩
      · rw [if_neg (by omega), if_neg (by omega), if_neg (by omega)] at he
        rcases gl' with ⟨k2, p2, q2⟩ | ⟨k2, p2, q2⟩
        · rw [if_neg (by omega), if_neg (by omega), if_neg (by omega)] at he
          exact fin (by omega) (itoa_one p1 p2 he) (by rw [q1, q2])
        · rw [if_pos k2] at he
          exact (mix p1 p2 he).elim
      · rw [if_pos k1] at he
        rcases gl' with ⟨k2, p2, q2⟩ | ⟨k2, p2, q2⟩
        · rw [if_neg (show ¬ m.kind = 2 by omega), if_neg (show ¬ m.kind = 3 by omega), if_neg (show ¬ m.kind = 4 by omega)] at he
          exact (mix p2 p1 he.symm).elim
        · rw [if_pos k2] at he
          refine fin (by omega) ?_ (by rw [q1, q2])
          rcases p1 with p1 | p1 <;> rcases p2 with p2 | p2
          · omega
          · rw [if_pos p1, if_neg (by omega)] at he; exact absurd he (by decide)
          · rw [if_neg (by omega), if_pos p2] at he; exact absurd he (by decide)
          · omega
    · exact (num_word ax ay kx ky cx gy he).elim
  · rcases ky with ky | ky
    · exact (num_word ay ax ky kx cy gx he.symm).elim
    · have e1 : firstP x = x.name.data.toList := by unfold firstP; rw [if_neg (by omega), if_pos kx]
      have e2 : firstP y = y.name.data.toList := by unfold firstP; rw [if_neg (by omega), if_pos ky]
      rw [e1, e2] at he
      obtain ⟨-, a1, a2, a3, a4, a5⟩ := snd1 ax kx
      obtain ⟨-, b1, b2, b3, b4, b5⟩ := snd1 ay ky
      exact ⟨by omega, ByteArray.ext (Array.toList_inj.1 he), by rw [a1, b1], by omega, by omega, sameL_nil a4 b4, sameL_nil a5 b5, rfl⟩

end Go.Proofs.YthbieinbpfjgkaaGreatDoor.E
