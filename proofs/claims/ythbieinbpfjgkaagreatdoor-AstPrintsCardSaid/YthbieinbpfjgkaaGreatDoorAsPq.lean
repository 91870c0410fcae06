/-
  Expressions without casts, no name of which is a key, are printed alike just if they are the same, but for sites: the one way to read a print. No machine here. No conditions but those that each lemma names.
-/
import Derived.Test.YthbieinbpfjgkaaGreatDoorAsPp
namespace Go.Proofs.YthbieinbpfjgkaaGreatDoor.E
open Go

theorem noArr41 {t : List UInt8} : noArr (41 :: t) := noArr_of (by decide)
theorem noArr93 {t : List UInt8} : noArr (93 :: t) := noArr_of (by decide)

theorem flat1 {c : Pt} {kc : Fo} {N : Nat} (h : (Fo.cons c kc .nil).flat.length < N + 1) : kc.flat.length < N := by
  simp only [Fo.flat, List.append_nil, List.length_cons] at h; omega
theorem flat2 {c d : Pt} {kc kd : Fo} {N : Nat} (h : (Fo.cons c kc (.cons d kd .nil)).flat.length < N + 1) : kc.flat.length < N ∧ kd.flat.length < N := by
  simp only [Fo.flat, List.append_nil, List.length_cons, List.length_append] at h; omega
theorem flat3 {c d e : Pt} {kc kd ke : Fo} {N : Nat} (h : (Fo.cons c kc (.cons d kd (.cons e ke .nil))).flat.length < N + 1) : kc.flat.length < N ∧ kd.flat.length < N ∧ ke.flat.length < N := by
  simp only [Fo.flat, List.append_nil, List.length_cons, List.length_append] at h; omega

theorem kids_two {c d c2 d2 : Pt} {kc kd kc2 kd2 : Fo} (h1 : Alk c kc c2 kc2) (h2 : Alk d kd d2 kd2) (b1 : bare c = true) (b2 : bare c2 = true) (b3 : bare d = true) (b4 : bare d2 = true) : sameE (Fo.cons c kc (.cons d kd .nil)).flat (Fo.cons c2 kc2 (.cons d2 kd2 .nil)).flat = true :=
  kids_more h1 (bare_same b1 b2) (kids_one h2 b3 b4)

/-- A part's kind, its literal's kind, its class. -/
def ClsD (k l : Int) (c : Nat) : Prop := (k = 0 ∧ l = 3 ∧ c = 2) ∨ (k = 0 ∧ l = 4 ∧ c = 5) ∨ (k = 2 ∧ c = 7) ∨ ((k = 3 ∨ k = 9 ∨ k = 13) ∧ c = 8) ∨ (k = 4 ∧ c = 9) ∨ (k = 5 ∧ c = 10) ∨ (k = 6 ∧ c = 11) ∨ (k = 7 ∧ c = 12) ∨ (k = 10 ∧ c = 3) ∨ (k = 12 ∧ c = 4)
theorem cls_pair {kx lx ky ly : Int} {c : Nat} (hx : ClsD kx lx c) (hy : ClsD ky ly c) : (kx = 0 ∧ ky = 0 ∧ lx = 3 ∧ ly = 3) ∨ (kx = 0 ∧ ky = 0 ∧ lx = 4 ∧ ly = 4) ∨ (kx = 2 ∧ ky = 2) ∨ ((kx = 3 ∨ kx = 9 ∨ kx = 13) ∧ (ky = 3 ∨ ky = 9 ∨ ky = 13)) ∨ (kx = 4 ∧ ky = 4) ∨ (kx = 5 ∧ ky = 5) ∨ (kx = 6 ∧ ky = 6) ∨ (kx = 7 ∧ ky = 7) ∨ (kx = 10 ∧ ky = 10) ∨ (kx = 12 ∧ ky = 12) := by
  unfold ClsD at hx hy
  rcases hx with ⟨a, b, c1⟩ | ⟨a, b, c1⟩ | ⟨a, c1⟩ | ⟨a, c1⟩ | ⟨a, c1⟩ | ⟨a, c1⟩ | ⟨a, c1⟩ | ⟨a, c1⟩ | ⟨a, c1⟩ | ⟨a, c1⟩
  all_goals rcases hy with ⟨d, e, c2⟩ | ⟨d, e, c2⟩ | ⟨d, c2⟩ | ⟨d, c2⟩ | ⟨d, c2⟩ | ⟨d, c2⟩ | ⟨d, c2⟩ | ⟨d, c2⟩ | ⟨d, c2⟩ | ⟨d, c2⟩
  all_goals first
    | (exfalso; rw [c1] at c2; exact absurd c2 (by decide))
    | exact Or.inl ⟨a, d, b, e⟩
    | exact Or.inr (Or.inl ⟨a, d, b, e⟩)
    | exact Or.inr (Or.inr (Or.inl ⟨a, d⟩))
    | exact Or.inr (Or.inr (Or.inr (Or.inl ⟨a, d⟩)))
    | exact Or.inr (Or.inr (Or.inr (Or.inr (Or.inl ⟨a, d⟩))))
    | exact Or.inr (Or.inr (Or.inr (Or.inr (Or.inr (Or.inl ⟨a, d⟩)))))
    | exact Or.inr (Or.inr (Or.inr (Or.inr (Or.inr (Or.inr (Or.inl ⟨a, d⟩))))))
    | exact Or.inr (Or.inr (Or.inr (Or.inr (Or.inr (Or.inr (Or.inr (Or.inl ⟨a, d⟩)))))))
    | exact Or.inr (Or.inr (Or.inr (Or.inr (Or.inr (Or.inr (Or.inr (Or.inr (Or.inl ⟨a, d⟩))))))))
    | exact Or.inr (Or.inr (Or.inr (Or.inr (Or.inr (Or.inr (Or.inr (Or.inr (Or.inr (⟨a, d⟩)))))))))

set_option maxHeartbeats 2000000 in
/-- Expressions that end in no label. -/
theorem core_uniq {N : Nat} (ih : UB N) (x : Pt) (ks : Fo) (y : Pt) (ls : Fo) (r s : List UInt8) (hn : ks.flat.length < N + 1) (gx : GdF (.cons x ks .nil)) (gy : GdF (.cons y ls .nil)) (x8 : x.kind ≠ 8) (y8 : y.kind ≠ 8) (x11 : x.kind ≠ 11) (y11 : y.kind ≠ 11) (hr : StopR r) (hs : StopR s) (h : prT x ks ++ r = prT y ls ++ s) : Alk x ks y ls ∧ r = s := by
  have hcl : clsP x = clsP y := by rw [← cls_eq gx x8 x11 r, ← cls_eq gy y8 y11 s, h]
  have ax := gx.tree.1
  have ay := gy.tree.1
  have bx := kind_bound ax
  have by' := kind_bound ay
  have x14 := gx.tree.2.2.2.2.1
  have y14 := gy.tree.2.2.2.2.1
  by_cases c1 : clsP x = 1
  · exact word_uniq gx gy x11 y11 c1 (hcl ▸ c1) hr hs h
  have lk : ∀ {z : Pt}, z.kind = 0 → sound z = true → clsP z ≠ 1 → (clsP z = 2 ∧ litK z = 3) ∨ (clsP z = 5 ∧ litK z = 4) := by
    intro z k _ hc
    unfold clsP at hc ⊢
    rw [if_pos k] at hc ⊢
    by_cases h3 : litK z = 3
    · exact Or.inl ⟨by rw [if_pos h3], h3⟩
    · rw [if_neg h3] at hc ⊢
      by_cases h4 : litK z = 4
      · exact Or.inr ⟨by rw [if_pos h4], h4⟩
      · rw [if_neg h4] at hc; exact absurd rfl hc
  have ck : ∀ {z : Pt}, sound z = true → z.kind ≠ 8 → z.kind ≠ 11 → z.kind ≠ 14 → clsP z ≠ 1 → ClsD z.kind (litK z) (clsP z) := by
    intro z hz z8 z11 z14 hc
    have hb := kind_bound hz
    have h1 : z.kind ≠ 1 := fun k => hc (by unfold clsP; rw [if_neg (by omega), if_pos k])
    have hk : z.kind = 0 ∨ z.kind = 2 ∨ z.kind = 3 ∨ z.kind = 4 ∨ z.kind = 5 ∨ z.kind = 6 ∨ z.kind = 7 ∨ z.kind = 9 ∨ z.kind = 10 ∨ z.kind = 12 ∨ z.kind = 13 := by omega
    unfold ClsD
    rcases hk with k | k | k | k | k | k | k | k | k | k | k
    · rcases lk k hz hc with ⟨u, v⟩ | ⟨u, v⟩
      · exact Or.inl ⟨k, v, u⟩
      · exact Or.inr (Or.inl ⟨k, v, u⟩)
    · exact Or.inr (Or.inr (Or.inl ⟨k, by simp [clsP, k]⟩))
    · exact Or.inr (Or.inr (Or.inr (Or.inl ⟨Or.inl k, by simp [clsP, k]⟩)))
    · exact Or.inr (Or.inr (Or.inr (Or.inr (Or.inl ⟨k, by simp [clsP, k]⟩))))
    · exact Or.inr (Or.inr (Or.inr (Or.inr (Or.inr (Or.inl ⟨k, by simp [clsP, k]⟩)))))
    · exact Or.inr (Or.inr (Or.inr (Or.inr (Or.inr (Or.inr (Or.inl ⟨k, by simp [clsP, k]⟩))))))
    · exact Or.inr (Or.inr (Or.inr (Or.inr (Or.inr (Or.inr (Or.inr (Or.inl ⟨k, by simp [clsP, k]⟩)))))))
    · exact Or.inr (Or.inr (Or.inr (Or.inl ⟨Or.inr (Or.inl k), by simp [clsP, k]⟩)))
    · exact Or.inr (Or.inr (Or.inr (Or.inr (Or.inr (Or.inr (Or.inr (Or.inr (Or.inl ⟨k, by simp [clsP, k]⟩))))))))
    · exact Or.inr (Or.inr (Or.inr (Or.inr (Or.inr (Or.inr (Or.inr (Or.inr (Or.inr ⟨k, by simp [clsP, k]⟩))))))))
    · exact Or.inr (Or.inr (Or.inr (Or.inl ⟨Or.inr (Or.inr k), by simp [clsP, k]⟩)))
  have hx := ck ax x8 x11 x14 c1
  have hy := ck ay y8 y11 y14 (hcl ▸ c1)
  rw [hcl] at hx
  have same_cls := cls_pair hx hy
  clear hx hy lk ck
  rcases same_cls with ⟨k, l, a, b⟩ | ⟨k, l, a, b⟩ | ⟨k, l⟩ | ⟨k, l⟩ | ⟨k, l⟩ | ⟨k, l⟩ | ⟨k, l⟩ | ⟨k, l⟩ | ⟨k, l⟩ | ⟨k, l⟩
  · -- texts
    obtain rfl := leaf_nil gx k
    obtain rfl := leaf_nil gy l
    obtain ⟨n, hn1, a1, a2, a3, a4, a5, hl⟩ := snd0 ax k
    obtain ⟨m, hm, b1, b2, b3, b4, b5, gl⟩ := snd0 ay l
    obtain ⟨e1, e2⟩ := lit_form k hn1
    obtain ⟨f1, f2⟩ := lit_form l hm
    rw [e1] at a
    rw [f1] at b
    rw [e2, f2, if_neg (show ¬ n.kind = 2 by omega), if_neg (show ¬ m.kind = 2 by omega), if_pos a, if_pos b] at h
    obtain ⟨u1, u2⟩ := quote_uniq h
    exact ⟨⟨by omega, ByteArray.ext (Array.toList_inj.1 u1), by rw [a2, b2], by omega, by omega, lit_same hn1 hm a4 a5 b4 b5 (by omega), sameL_nil a1 b1, rfl⟩, u2⟩
  · -- ()
    obtain rfl := leaf_nil gx k
    obtain rfl := leaf_nil gy l
    obtain ⟨n, hn1, a1, a2, a3, a4, a5, hl⟩ := snd0 ax k
    obtain ⟨m, hm, b1, b2, b3, b4, b5, gl⟩ := snd0 ay l
    obtain ⟨e1, e2⟩ := lit_form k hn1
    obtain ⟨f1, f2⟩ := lit_form l hm
    rw [e1] at a
    rw [f1] at b
    rw [e2, f2, if_neg (show ¬ n.kind = 2 by omega), if_neg (show ¬ n.kind = 3 by omega), if_pos a, if_neg (show ¬ m.kind = 2 by omega), if_neg (show ¬ m.kind = 3 by omega), if_pos b] at h
    have hx2 : x.num = 0 ∧ x.name = ⟨#[]⟩ := by
      rcases hl with q | q | q | q
      · omega
      · omega
      · omega
      · exact q.2
    have hy2 : y.num = 0 ∧ y.name = ⟨#[]⟩ := by
      rcases gl with q | q | q | q
      · omega
      · omega
      · omega
      · exact q.2
    exact ⟨⟨by omega, by rw [hx2.2, hy2.2], by rw [a2, b2], by omega, by omega, lit_same hn1 hm a4 a5 b4 b5 (by omega), sameL_nil a1 b1, rfl⟩, List.append_cancel_left h⟩
  · -- fun
    obtain ⟨c, kc, rfl, g1, b1⟩ := kids1 gx ((many_k gx (by omega)).trans (by rw [k]; rfl)) (by omega) (by omega)
    obtain ⟨d, kd, rfl, g2, b2⟩ := kids1 gy ((many_k gy (by omega)).trans (by rw [l]; rfl)) (by omega) (by omega)
    rw [pr_fun k, pr_fun l] at h
    simp only [List.cons_append, List.append_assoc, List.cons.injEq, true_and] at h
    obtain ⟨w1, t1, n1, m1, q1, u1⟩ := snd2 ax (Or.inl k)
    obtain ⟨w2, t2, n2, m2, q2, u2⟩ := snd2 ay (Or.inl l)
    obtain ⟨eb, -, h⟩ := label_uniq (Or.inl ⟨rfl, rfl⟩) w1 w2 (by decide) (by decide) h
    simp only [List.cons.injEq, true_and] at h
    obtain ⟨et, h⟩ := tyP_uniq t1 t2 noArr41 noArr41 h
    simp only [List.cons.injEq, true_and] at h
    obtain ⟨ha, -, he⟩ := ih.kid (flat1 hn) g1 g2 (bare_label b1).2 (bare_label b2).2 (by decide) (by decide) (by decide) (by decide) h
    exact ⟨⟨by omega, by rw [n1, n2], eb, by omega, by omega, et, sameL_nil u1 u2, kids_one ha b1 b2⟩, by simpa using he⟩
  · -- app, op, as
    have two : ∀ {z : Pt} {zs : Fo}, GdF (.cons z zs .nil) → z.kind = 3 ∨ z.kind = 9 → ∃ c kc d kd, zs = .cons c kc (.cons d kd .nil) ∧ GdF (.cons c kc .nil) ∧ bare c = true ∧ GdF (.cons d kd .nil) ∧ bare d = true := by
      intro z zs gz kz
      exact kids2 gz ((many_k gz (by omega)).trans (by rcases kz with kz | kz <;> rw [kz] <;> rfl)) (by omega) (by omega)
    -- how each begins
    have start : ∀ {z : Pt} {zs : Fo}, GdF (.cons z zs .nil) → z.kind = 3 ∨ z.kind = 9 ∨ z.kind = 13 → ∀ t, ∃ c kc b u, GdF (.cons c kc .nil) ∧ bare c = true ∧ kc.flat.length + 1 ≤ zs.flat.length ∧ prT z zs ++ t = 40 :: (prT c kc ++ b :: u) ∧ ((z.kind = 13 ∧ b = 58) ∨ (z.kind ≠ 13 ∧ b = 32)) := by
      intro z zs gz kz t
      rcases kz with kz | kz | kz
      · obtain ⟨c, kc, d, kd, rfl, g1, b1, g2, b2⟩ := two gz (Or.inl kz)
        exact ⟨c, kc, 32, prT d kd ++ 41 :: t, g1, b1, by simp only [Fo.flat, List.length_cons, List.length_append]; omega, by rw [pr_app kz]; simp only [List.cons_append, List.append_assoc, List.nil_append], Or.inr ⟨by omega, rfl⟩⟩
      · obtain ⟨c, kc, d, kd, rfl, g1, b1, g2, b2⟩ := two gz (Or.inr kz)
        exact ⟨c, kc, 32, z.name.data.toList ++ 32 :: (prT d kd ++ 41 :: t), g1, b1, by simp only [Fo.flat, List.length_cons, List.length_append]; omega, by rw [pr_op kz]; simp only [List.cons_append, List.append_assoc, List.nil_append], Or.inr ⟨by omega, rfl⟩⟩
      · obtain ⟨c, kc, rfl, g1, b1⟩ := kids1 gz ((many_k gz (by omega)).trans (by rw [kz]; rfl)) (by omega) (by omega)
        exact ⟨c, kc, 58, 32 :: (L.tyP z.t ++ 41 :: t), g1, b1, by simp only [Fo.flat, List.length_cons, List.length_append]; omega, by rw [pr_as kz]; simp only [List.cons_append, List.append_assoc, List.nil_append], Or.inl ⟨kz, rfl⟩⟩
    -- an as is no app, no op
    have asx : x.kind = 13 ↔ y.kind = 13 := by
      obtain ⟨c, kc, b, u, g1, b1, f1, e1, q1⟩ := start gx k r
      obtain ⟨d, kd, b', u', g2, b2, f2, e2, q2⟩ := start gy l s
      have h' := h
      rw [e1, e2] at h'
      simp only [List.cons.injEq, true_and] at h'
      have st : goN b = false ∧ b ≠ 46 := by rcases q1 with ⟨-, rfl⟩ | ⟨-, rfl⟩ <;> exact ⟨by decide, by decide⟩
      have st' : goN b' = false ∧ b' ≠ 46 := by rcases q2 with ⟨-, rfl⟩ | ⟨-, rfl⟩ <;> exact ⟨by decide, by decide⟩
      obtain ⟨-, hb, -⟩ := ih.kid (by omega) g1 g2 (bare_label b1).2 (bare_label b2).2 st.1 st.2 st'.1 st'.2 h'
      rcases q1 with ⟨v1, rfl⟩ | ⟨v1, rfl⟩ <;> rcases q2 with ⟨v2, rfl⟩ | ⟨v2, rfl⟩
      · exact ⟨fun _ => v2, fun _ => v1⟩
      · exact absurd hb (by decide)
      · exact absurd hb (by decide)
      · exact ⟨fun v => absurd v v1, fun v => absurd v v2⟩
    by_cases k13 : x.kind = 13
    · have l13 := asx.1 k13
      obtain ⟨c, kc, rfl, g1, b1⟩ := kids1 gx ((many_k gx (by omega)).trans (by rw [k13]; rfl)) (by omega) (by omega)
      obtain ⟨d, kd, rfl, g2, b2⟩ := kids1 gy ((many_k gy (by omega)).trans (by rw [l13]; rfl)) (by omega) (by omega)
      rw [pr_as k13, pr_as l13] at h
      simp only [List.cons_append, List.append_assoc, List.cons.injEq, true_and] at h
      obtain ⟨ha, -, h⟩ := ih.kid (flat1 hn) g1 g2 (bare_label b1).2 (bare_label b2).2 (by decide) (by decide) (by decide) (by decide) h
      simp only [List.cons.injEq, true_and] at h
      obtain ⟨t1, n1, w1, m1, q1, u1⟩ := snd13 ax k13
      obtain ⟨t2, n2, w2, m2, q2, u2⟩ := snd13 ay l13
      obtain ⟨et, h⟩ := tyP_uniq t1 t2 noArr41 noArr41 h
      exact ⟨⟨by omega, by rw [n1, n2], by rw [w1, w2], by omega, by omega, et, sameL_nil u1 u2, kids_one ha b1 b2⟩, by simpa using h⟩
    · have l13 : y.kind ≠ 13 := fun v => k13 (asx.2 v)
      obtain ⟨c, kc, d, kd, rfl, g1, b1, g2, b2⟩ := two gx (by omega)
      obtain ⟨c2, kc2, d2, kd2, rfl, g3, b3, g4, b4⟩ := two gy (by omega)
      have f2 := flat2 hn
      -- an app's second expression begins with no sign
      have opp : ∀ {p q : Pt} {c3 d3 : Pt} {kc3 kd3 : Fo} {u v : List UInt8}, oper p.name = true → GdF (.cons d3 kd3 .nil) → d3.kind ≠ 8 → p.name.data.toList ++ 32 :: u = prT d3 kd3 ++ 41 :: v → False := by
        intro p q c3 d3 kc3 kd3 u v ho gd h8 hh
        obtain ⟨-, a, t, e, o1, o2, o3, o4, o5⟩ := oper_go ho
        obtain ⟨⟨a', t', e', hd⟩, -⟩ := begins gd h8 (stop_cons (c := 41) (t := v) (by decide))
        rw [e, e'] at hh
        injection hh with hh
        subst hh
        rcases hd with hd | hd | hd | hd | hd
        · rw [o1] at hd; cases hd
        · exact o2 hd
        · exact o3 hd
        · exact o4 hd
        · exact o5 hd
      by_cases k3 : x.kind = 3
      · rw [pr_app k3] at h
        obtain ⟨n1, w1, m1, q1, t1, u1⟩ := snd3 ax (Or.inl k3)
        by_cases l3 : y.kind = 3
        · rw [pr_app l3] at h
          simp only [List.cons_append, List.append_assoc, List.cons.injEq, true_and] at h
          obtain ⟨ha, -, h⟩ := ih.kid f2.1 g1 g3 (bare_label b1).2 (bare_label b3).2 (by decide) (by decide) (by decide) (by decide) h
          obtain ⟨hb, -, h⟩ := ih.kid f2.2 g2 g4 (bare_label b2).2 (bare_label b4).2 (by decide) (by decide) (by decide) (by decide) h
          obtain ⟨n2, w2, m2, q2, t2, u2⟩ := snd3 ay (Or.inl l3)
          exact ⟨⟨by omega, by rw [n1, n2], by rw [w1, w2], by omega, by omega, sameL_nil t1 t2, sameL_nil u1 u2, kids_two ha hb b1 b3 b2 b4⟩, by simpa using h⟩
        · have l9 : y.kind = 9 := by omega
          rw [pr_op l9] at h
          simp only [List.cons_append, List.append_assoc, List.cons.injEq, true_and] at h
          obtain ⟨-, -, h⟩ := ih.kid f2.1 g1 g3 (bare_label b1).2 (bare_label b3).2 (by decide) (by decide) (by decide) (by decide) h
          exact (opp (q := x) (c3 := x) (kc3 := .nil) (snd9 ay l9).1 g2 (bare_label b2).2 h.symm).elim
      · have k9 : x.kind = 9 := by omega
        rw [pr_op k9] at h
        by_cases l3 : y.kind = 3
        · rw [pr_app l3] at h
          simp only [List.cons_append, List.append_assoc, List.cons.injEq, true_and] at h
          obtain ⟨-, -, h⟩ := ih.kid f2.1 g1 g3 (bare_label b1).2 (bare_label b3).2 (by decide) (by decide) (by decide) (by decide) h
          exact (opp (q := x) (c3 := x) (kc3 := .nil) (snd9 ax k9).1 g4 (bare_label b4).2 h).elim
        · have l9 : y.kind = 9 := by omega
          rw [pr_op l9] at h
          simp only [List.cons_append, List.append_assoc, List.cons.injEq, true_and] at h
          obtain ⟨ha, -, h⟩ := ih.kid f2.1 g1 g3 (bare_label b1).2 (bare_label b3).2 (by decide) (by decide) (by decide) (by decide) h
          obtain ⟨o1, w1, m1, q1, t1, u1⟩ := snd9 ax k9
          obtain ⟨o2, w2, m2, q2, t2, u2⟩ := snd9 ay l9
          obtain ⟨en, h⟩ := cut32 (oper_go o1).1 (oper_go o2).1 h
          obtain ⟨hb, -, h⟩ := ih.kid f2.2 g2 g4 (bare_label b2).2 (bare_label b4).2 (by decide) (by decide) (by decide) (by decide) h
          exact ⟨⟨by omega, ByteArray.ext (Array.toList_inj.1 en), by rw [w1, w2], by omega, by omega, sameL_nil t1 t2, sameL_nil u1 u2, kids_two ha hb b1 b3 b2 b4⟩, by simpa using h⟩
  · -- let
    obtain ⟨c, kc, d, kd, rfl, g1, b1, g2, b2⟩ := kids2 gx ((many_k gx (by omega)).trans (by rw [k]; rfl)) (by omega) (by omega)
    obtain ⟨c2, kc2, d2, kd2, rfl, g3, b3, g4, b4⟩ := kids2 gy ((many_k gy (by omega)).trans (by rw [l]; rfl)) (by omega) (by omega)
    have f2 := flat2 hn
    rw [pr_let k, pr_let l] at h
    simp only [List.cons_append, List.append_assoc, List.cons.injEq, true_and] at h
    obtain ⟨w1, t1, n1, m1, q1, u1⟩ := snd2 ax (Or.inr k)
    obtain ⟨w2, t2, n2, m2, q2, u2⟩ := snd2 ay (Or.inr l)
    obtain ⟨eb, -, h⟩ := label_uniq (Or.inl ⟨rfl, rfl⟩) w1 w2 (by decide) (by decide) h
    simp only [List.cons.injEq, true_and] at h
    obtain ⟨et, h⟩ := tyP_uniq t1 t2 noArr_eq noArr_eq h
    simp only [List.cons.injEq, true_and] at h
    obtain ⟨ha, -, h⟩ := ih.kid f2.1 g1 g3 (bare_label b1).2 (bare_label b3).2 (by decide) (by decide) (by decide) (by decide) h
    simp only [List.cons.injEq, true_and] at h
    obtain ⟨hb, -, h⟩ := ih.kid f2.2 g2 g4 (bare_label b2).2 (bare_label b4).2 (by decide) (by decide) (by decide) (by decide) h
    exact ⟨⟨by omega, by rw [n1, n2], eb, by omega, by omega, et, sameL_nil u1 u2, kids_two ha hb b1 b3 b2 b4⟩, by simpa using h⟩
  · -- rec
    obtain ⟨c, kc, d, kd, rfl, g1, b1, g2, b2⟩ := kids2 gx ((many_k gx (by omega)).trans (by rw [k]; rfl)) (by omega) (by omega)
    obtain ⟨c2, kc2, d2, kd2, rfl, g3, b3, g4, b4⟩ := kids2 gy ((many_k gy (by omega)).trans (by rw [l]; rfl)) (by omega) (by omega)
    have f2 := flat2 hn
    rw [pr_rec k, pr_rec l] at h
    simp only [List.cons_append, List.append_assoc, List.cons.injEq, true_and] at h
    obtain ⟨v1, w1, t1, u1, m1, q1⟩ := snd5 ax k
    obtain ⟨v2, w2, t2, u2, m2, q2⟩ := snd5 ay l
    obtain ⟨en, -, h⟩ := label_uniq (Or.inl ⟨rfl, rfl⟩) v1 v2 (by decide) (by decide) h
    simp only [List.cons.injEq, true_and] at h
    obtain ⟨eb, -, h⟩ := label_uniq (Or.inl ⟨rfl, rfl⟩) w1 w2 (by decide) (by decide) h
    simp only [List.cons.injEq, true_and] at h
    obtain ⟨et, h⟩ := tyP_uniq t1 t2 noArr41 noArr41 h
    simp only [List.cons.injEq, true_and] at h
    obtain ⟨eu, h⟩ := tyP_uniq u1 u2 noArr_eq noArr_eq h
    simp only [List.cons.injEq, true_and] at h
    obtain ⟨ha, -, h⟩ := ih.kid f2.1 g1 g3 (bare_label b1).2 (bare_label b3).2 (by decide) (by decide) (by decide) (by decide) h
    simp only [List.cons.injEq, true_and] at h
    obtain ⟨hb, -, h⟩ := ih.kid f2.2 g2 g4 (bare_label b2).2 (bare_label b4).2 (by decide) (by decide) (by decide) (by decide) h
    exact ⟨⟨by omega, en, eb, by omega, by omega, et, eu, kids_two ha hb b1 b3 b2 b4⟩, by simpa using h⟩
  · -- if
    obtain ⟨c, kc, d, kd, e, ke, rfl, g1, b1, g2, b2, g5, b5⟩ := kids3 gx ((many_k gx (by omega)).trans (by rw [k]; rfl)) (by omega) (by omega)
    obtain ⟨c2, kc2, d2, kd2, e2, ke2, rfl, g3, b3, g4, b4, g6, b6⟩ := kids3 gy ((many_k gy (by omega)).trans (by rw [l]; rfl)) (by omega) (by omega)
    have f3 := flat3 hn
    rw [pr_if k, pr_if l] at h
    simp only [List.cons_append, List.append_assoc, List.cons.injEq, true_and] at h
    obtain ⟨n1, w1, m1, q1, t1, u1⟩ := snd3 ax (Or.inr k)
    obtain ⟨n2, w2, m2, q2, t2, u2⟩ := snd3 ay (Or.inr l)
    obtain ⟨ha, -, h⟩ := ih.kid f3.1 g1 g3 (bare_label b1).2 (bare_label b3).2 (by decide) (by decide) (by decide) (by decide) h
    simp only [List.cons.injEq, true_and] at h
    obtain ⟨hb, -, h⟩ := ih.kid f3.2.1 g2 g4 (bare_label b2).2 (bare_label b4).2 (by decide) (by decide) (by decide) (by decide) h
    simp only [List.cons.injEq, true_and] at h
    obtain ⟨hc, -, h⟩ := ih.kid f3.2.2 g5 g6 (bare_label b5).2 (bare_label b6).2 (by decide) (by decide) (by decide) (by decide) h
    exact ⟨⟨by omega, by rw [n1, n2], by rw [w1, w2], by omega, by omega, sameL_nil t1 t2, sameL_nil u1 u2, kids_more ha (bare_same b1 b3) (kids_two hb hc b2 b4 b5 b6)⟩, by simpa using h⟩
  · -- case
    have one : ∀ {z : Pt} {zs : Fo}, GdF (.cons z zs .nil) → z.kind = 7 → ∃ c kc q, zs = .cons c kc q ∧ GdF (.cons c kc .nil) ∧ bare c = true ∧ GdF q ∧ Brs q ∧ z.many = q.count := by
      intro z zs gz kz
      obtain ⟨hz, hm, hst, hg, -⟩ := gz.tree
      have hmm : z.many = zs.count - 1 ∧ 1 ≤ z.many := by
        unfold sound at hz
        simp only [kz, Int.reduceEq, if_true, if_false, only, Bool.and_eq_true, decide_eq_true_eq] at hz
        unfold many at hm
        rw [if_neg (by omega), kz] at hm
        have hb : base 7 = 1 := rfl
        have := hz.1
        omega
      cases zs with
      | nil => simp only [Fo.count] at hmm; omega
      | cons c kc q =>
        simp only [Fo.stand, Bool.and_eq_true] at hst
        refine ⟨c, kc, q, rfl, hg.split.1, may_bare hst.1 (by omega) (by omega), hg.split.2, brs_of kz q 0 _ hst.2, ?_⟩
        simp only [Fo.count] at hmm
        omega
    obtain ⟨c, kc, q, rfl, g1, b1, gq, bq, mq⟩ := one gx k
    obtain ⟨d, kd, q2, rfl, g2, b2, gq2, bq2, mq2⟩ := one gy l
    rw [pr_case k, pr_case l] at h
    simp only [List.cons_append, List.append_assoc, List.cons.injEq, true_and] at h
    have hn2 : kc.flat.length < N ∧ q.flat.length < N + 1 := by simp only [Fo.flat, List.length_cons, List.length_append] at hn; omega
    have nxt : ∀ {z : Pt} (hz : z.kind = 7) (q : Fo) (t : List UInt8), ∃ u, q.pr z 1 ++ 32 :: t = 32 :: u := by
      intro z hz q t
      cases q with
      | nil => exact ⟨t, rfl⟩
      | cons d kd q =>
        rw [Fo.pr_cons, if_pos (by omega)]
        simp [betwP, hz]
    obtain ⟨t1, e1⟩ := nxt k q (101 :: 110 :: 100 :: 41 :: ([] ++ r))
    obtain ⟨t2, e2⟩ := nxt l q2 (101 :: 110 :: 100 :: 41 :: ([] ++ s))
    obtain ⟨ha, h⟩ := ih c kc d kd _ _ hn2.1 g1 g2 (bare_label b1).2 (bare_label b2).2 (by rw [e1]; exact stop_cons (by decide)) (by rw [e2]; exact stop_cons (by decide)) (by rw [e1]; exact dot_cons (by decide)) (by rw [e2]; exact dot_cons (by decide)) h
    obtain ⟨h1, h2, h3⟩ := brs_uniq ih k l q q2 0 _ _ hn2.2 gq gq2 bq bq2 h
    obtain ⟨n1, w1, q1, t1, u1⟩ := snd7 ax (Or.inl k)
    obtain ⟨n2, w2, q2', t2, u2⟩ := snd7 ay (Or.inl l)
    exact ⟨⟨by omega, by rw [n1, n2], by rw [w1, w2], by omega, by omega, sameL_nil t1 t2, sameL_nil u1 u2, kids_more ha (bare_same b1 b2) h1⟩, by simpa using h3⟩
  · -- rows
    have cnt : ∀ {z : Pt} {zs : Fo}, GdF (.cons z zs .nil) → z.kind = 10 → z.many = zs.count := by
      intro z zs gz kz
      have hm := gz.tree.2.1
      unfold many at hm
      rw [if_neg (by omega), kz] at hm
      have hb : base 10 = 0 := rfl
      omega
    rw [pr_rows k, pr_rows l] at h
    simp only [List.cons_append, List.append_assoc, List.cons.injEq, true_and] at h
    obtain ⟨h1, h2, h3⟩ := rows_uniq ih k l ks ls 0 r s hn gx.tree.2.2.2.1 gy.tree.2.2.2.1 (rws_of k _ _ _ gx.tree.2.2.1) (rws_of l _ _ _ gy.tree.2.2.1) h
    obtain ⟨n1, w1, q1, t1, u1⟩ := snd7 ax (Or.inr k)
    obtain ⟨n2, w2, q2', t2, u2⟩ := snd7 ay (Or.inr l)
    have := cnt gx k
    have := cnt gy l
    exact ⟨⟨by omega, by rw [n1, n2], by rw [w1, w2], by omega, by omega, sameL_nil t1 t2, sameL_nil u1 u2, h1⟩, h3⟩
  · -- inject
    obtain ⟨c, kc, rfl, g1, b1⟩ := kids1 gx ((many_k gx (by omega)).trans (by rw [k]; rfl)) (by omega) (by omega)
    obtain ⟨d, kd, rfl, g2, b2⟩ := kids1 gy ((many_k gy (by omega)).trans (by rw [l]; rfl)) (by omega) (by omega)
    rw [pr_inject k, pr_inject l] at h
    simp only [List.cons_append, List.append_assoc, List.cons.injEq, true_and] at h
    obtain ⟨v1, t1, w1, m1, q1, u1⟩ := snd12 ax k
    obtain ⟨v2, t2, w2, m2, q2, u2⟩ := snd12 ay l
    obtain ⟨en, -, h⟩ := label_uniq (Or.inr ⟨rfl, rfl⟩) v1 v2 (by decide) (by decide) h
    simp only [List.cons.injEq, true_and] at h
    obtain ⟨ha, -, h⟩ := ih.kid (flat1 hn) g1 g2 (bare_label b1).2 (bare_label b2).2 (by decide) (by decide) (by decide) (by decide) h
    simp only [List.cons.injEq, true_and] at h
    obtain ⟨et, h⟩ := tyP_uniq t1 t2 noArr93 noArr93 h
    exact ⟨⟨by omega, en, by rw [w1, w2], by omega, by omega, et, sameL_nil u1 u2, kids_one ha b1 b2⟩, by simpa using h⟩

theorem uniqE (N : Nat) : UB N := by
  induction N with
  | zero => intro _ _ _ _ _ _ h; omega
  | succ N ih =>
    intro x ks y ls r s hn gx gy x8 y8 hr hs dr ds h
    obtain ⟨p, kp, l, h1, h2, h3, h4, h5, h6, h7⟩ := spine ks x gx x8
    obtain ⟨q, kq, m, i1, i2, i3, i4, i5, i6, i7⟩ := spine ls y gy y8
    rw [h6, i6, List.append_assoc, List.append_assoc] at h
    obtain ⟨ha, he⟩ := core_uniq ih p kp q kq _ _ (by omega) h2 i2 h4 i4 h3 i3 (dots_stop l hr) (dots_stop m hs) h
    obtain ⟨e1, e2⟩ := dots_uniq l m h7 i7 hr hs dr ds he
    subst e1
    exact ⟨alk_spine h1 i1 gx gy ha, e2⟩

/-- Expressions that are printed alike are the same, but for sites. -/
theorem eprint_uniq {x y : Pt} {ks ls : Fo} (gx : GdF (.cons x ks .nil)) (gy : GdF (.cons y ls .nil)) (bx : bare x = true) (b2 : bare y = true) (h : prT x ks = prT y ls) : sameE (x :: ks.flat) (y :: ls.flat) = true :=
  ((uniqE (ks.flat.length + 1)) x ks y ls [] [] (by omega) gx gy (bare_label bx).2 (bare_label b2).2 stop_nil stop_nil dot_nil dot_nil (by rw [h])).1.node (bare_same bx b2)

end Go.Proofs.YthbieinbpfjgkaaGreatDoor.E
