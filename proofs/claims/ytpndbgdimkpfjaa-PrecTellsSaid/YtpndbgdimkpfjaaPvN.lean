/-
  What two plain trees say together is a plain tree; meets of three; static trees. No conditions but those that each lemma names.
-/
import Derived.Test.YtpndbgdimkpfjaaPvM
import Derived.Test.YtpndbgdimkpfjaaM4
namespace Go.Proofs.Ytpndbgdimkpfjaa.L
open Go

theorem me_count : ∀ {f g : Fo}, agF f g = true → (meF f g).count = f.count
  | .nil, .nil, _ => rfl
  | .nil, .cons _ _ _, h => by simp [agF] at h
  | .cons _ _ _, .nil, h => by simp [agF] at h
  | .cons x ks r, .cons y ls s, h => by
    simp [agF] at h
    unfold meF
    split
    · simp [Fo.count, me_count h.2]
    · split <;> simp [Fo.count, me_count h.2]

theorem me_plain : ∀ {f g : Fo}, f.plain = true → g.plain = true → (meF f g).plain = true
  | .nil, .nil, _, _ => rfl
  | .nil, .cons _ _ _, _, _ => rfl
  | .cons _ _ _, .nil, _, _ => rfl
  | .cons x ks r, .cons y ls s, h1, h2 => by
    obtain ⟨c1, c2, c3⟩ := plain_cons.1 h1
    obtain ⟨d1, d2, d3⟩ := plain_cons.1 h2
    unfold meF
    split
    · exact plain_cons.2 ⟨c1, c2, me_plain c3 d3⟩
    · split
      · exact plain_cons.2 ⟨d1, d2, me_plain c3 d3⟩
      · exact plain_cons.2 ⟨c1, me_plain c2 d2, me_plain c3 d3⟩

theorem not_nine {y : Nd} (h : varN y = false) : y.kind ≠ 9 := by
  unfold varN at h
  simp at h
  exact h.2

theorem stand_name {x y z : Nd} {k : Int} {b : ByteArray} (h1 : varN y = false) (h2 : varN z = false) (hn : y.name = z.name) : mayStand x k b y = mayStand x k b z := by
  have a := not_nine h1
  have c := not_nine h2
  unfold mayStand bare
  rw [hn]
  simp [a, c]

theorem me_stand {x : Nd} : ∀ {f g : Fo} (k : Nat) (b : ByteArray), f.plain = true → g.plain = true → agF f g = true → Fo.stand x k b f = true → Fo.stand x k b (meF f g) = true
  | .nil, .nil, _, _, _, _, _, h => h
  | .nil, .cons _ _ _, _, _, _, _, h, _ => by simp [agF] at h
  | .cons _ _ _, .nil, _, _, _, _, h, _ => by simp [agF] at h
  | .cons y ks r, .cons z ls s, k, b, h1, h2, ha, hs => by
    obtain ⟨c1, c2, c3⟩ := plain_cons.1 h1
    obtain ⟨d1, d2, d3⟩ := plain_cons.1 h2
    simp [agF] at ha
    simp [Fo.stand] at hs
    have ih := me_stand (x := x) (f := r) (g := s) (k + 1) y.name c3 d3 ha.2 hs.2
    unfold meF
    split
    · simp [Fo.stand, hs.1, ih]
    · split
      · simp only [Fo.stand, Bool.and_eq_true]
        rw [← stand_name c1 d1 ha.1.1, ← ha.1.1]
        exact ⟨hs.1, ih⟩
      · simp [Fo.stand, hs.1, ih]

theorem me_ok : ∀ {f g : Fo}, f.ok = true → g.ok = true → f.plain = true → g.plain = true → agF f g = true → (meF f g).ok = true
  | .nil, .nil, _, _, _, _, _ => rfl
  | .nil, .cons _ _ _, _, _, _, _, h => by simp [agF] at h
  | .cons _ _ _, .nil, _, _, _, _, h => by simp [agF] at h
  | .cons x ks r, .cons y ls s, h1, h2, p1, p2, ha => by
    obtain ⟨a1, a2, a3, a4, a5⟩ := ok_cons.1 h1
    obtain ⟨b1, b2, b3, b4, b5⟩ := ok_cons.1 h2
    obtain ⟨c1, c2, c3⟩ := plain_cons.1 p1
    obtain ⟨d1, d2, d3⟩ := plain_cons.1 p2
    simp [agF] at ha
    have ih := me_ok a5 b5 c3 d3 ha.2
    unfold meF
    split
    · exact ok_cons.2 ⟨a1, a2, a3, a4, ih⟩
    · split
      · exact ok_cons.2 ⟨b1, b2, b3, b4, ih⟩
      · rename_i hy hx
        have hk : agF ks ls = true := by rcases ha.1.2 with (h | h) | h <;> simp_all
        exact ok_cons.2 ⟨a1, by rw [me_count hk]; exact a2, me_stand 0 _ c2 d2 hk a3, me_ok a4 b4 c2 d2 hk, ih⟩

theorem me_len : ∀ f g : Fo, (meF f g).flat.length ≤ f.flat.length + g.flat.length
  | .nil, .nil => by simp [meF, Fo.flat]
  | .nil, .cons _ _ _ => by simp [meF, Fo.flat]
  | .cons _ _ _, .nil => by simp [meF, Fo.flat]
  | .cons x ks r, .cons y ls s => by
    have h1 := me_len ks ls
    have h2 := me_len r s
    unfold meF
    split
    · simp [Fo.flat]; omega
    · split <;> (simp [Fo.flat]; omega)

theorem me_names {N : Nat} : ∀ {f g : Fo}, (∀ z ∈ f.flat, z.name.size ≤ N) → (∀ z ∈ g.flat, z.name.size ≤ N) → ∀ z ∈ (meF f g).flat, z.name.size ≤ N
  | .nil, .nil, _, _ => by simp [meF, Fo.flat]
  | .nil, .cons _ _ _, _, _ => by simp [meF, Fo.flat]
  | .cons _ _ _, .nil, _, _ => by simp [meF, Fo.flat]
  | .cons x ks r, .cons y ls s, h1, h2 => by
    simp only [Fo.flat, List.mem_cons, List.mem_append, forall_eq_or_imp] at h1 h2
    have i1 := me_names (N := N) (f := ks) (g := ls) (fun z hz => h1.2 z (Or.inl hz)) (fun z hz => h2.2 z (Or.inl hz))
    have i2 := me_names (N := N) (f := r) (g := s) (fun z hz => h1.2 z (Or.inr hz)) (fun z hz => h2.2 z (Or.inr hz))
    unfold meF
    split
    · simp only [Fo.flat, List.mem_cons, List.mem_append, forall_eq_or_imp]
      exact ⟨h1.1, fun z hz => hz.elim (fun h => h1.2 z (Or.inl h)) (i2 z)⟩
    · split
      · simp only [Fo.flat, List.mem_cons, List.mem_append, forall_eq_or_imp]
        exact ⟨h2.1, fun z hz => hz.elim (fun h => h2.2 z (Or.inl h)) (i2 z)⟩
      · simp only [Fo.flat, List.mem_cons, List.mem_append, forall_eq_or_imp]
        exact ⟨h1.1, fun z hz => hz.elim (i1 z) (i2 z)⟩

/-- One tree, its outermost node bare. -/
def root (f : Fo) : Prop := ∃ x ks, f = .cons x ks .nil ∧ bare x = true

theorem me_root {f g : Fo} (h1 : root f) (h2 : root g) : root (meF f g) := by
  obtain ⟨x, ks, rfl, hx⟩ := h1
  obtain ⟨y, ls, rfl, hy⟩ := h2
  unfold meF
  split
  · exact ⟨_, _, rfl, hx⟩
  · split
    · exact ⟨_, _, rfl, hy⟩
    · exact ⟨_, _, rfl, hx⟩

theorem root_right {f : Fo} (h : root f) (ho : f.ok = true) (hl : f.flat.length ≤ 10000) (hd : f.deep ≤ 100) : rightL f.flat = true := by
  obtain ⟨x, ks, rfl, hx⟩ := h
  rw [rightL_iff]
  simp only [Fo.deep] at hd
  exact ⟨x, ks, by simp [Fo.flat], hl, hx, ho, by omega⟩

theorem me_deep : ∀ f g : Fo, (meF f g).deep ≤ max f.deep g.deep
  | .nil, .nil => by simp [meF, Fo.deep]
  | .nil, .cons _ _ _ => by simp [meF, Fo.deep]
  | .cons _ _ _, .nil => by simp [meF, Fo.deep]
  | .cons x ks r, .cons y ls s => by
    have h1 := me_deep ks ls
    have h2 := me_deep r s
    unfold meF
    split
    · simp only [Fo.deep]; omega
    · split <;> (simp only [Fo.deep]; omega)

theorem me_self : ∀ f : Fo, meF f f = f
  | .nil => rfl
  | .cons x ks r => by
    unfold meF
    split
    · rw [me_self r]
    · rw [me_self ks, me_self r]

/-- Two meets of three, taken in either order, are alike. -/
theorem me_three {f g h : Fo} (h1 : agF f g = true) (h2 : agF g h = true) (h3 : agF (meF f g) h = true) (h4 : agF f (meF g h) = true) : beF (meF (meF f g) h) (meF f (meF g h)) = true ∧ beF (meF f (meF g h)) (meF (meF f g) h) = true := by
  have a1 := me_left h3
  have a2 := me_right h3
  have b1 := me_left h4
  have b2 := me_right h4
  exact ⟨(me_least (be_trans a1 (me_left h1)) (me_least (be_trans a1 (me_right h1)) a2).2).2, (me_least (me_least b1 (be_trans b2 (me_left h2))).2 (be_trans b2 (me_right h2))).2⟩

theorem me_symm {f g : Fo} (h : agF f g = true) : beF (meF f g) (meF g f) = true ∧ beF (meF g f) (meF f g) = true := by
  have h2 : agF g f = true := by rw [ag_symm]; exact h
  exact ⟨(me_least (me_right h) (me_left h)).2, (me_least (me_right h2) (me_left h2)).2⟩

/-- Static trees agree just if they are alike. -/
theorem ag_static : ∀ {f g : Fo}, f.ok = true → g.ok = true → f.plain = true → g.plain = true → staticL f.flat = true → staticL g.flat = true → agF f g = sameF f g
  | .nil, .nil, _, _, _, _, _, _ => rfl
  | .nil, .cons _ _ _, _, _, _, _, _, _ => rfl
  | .cons _ _ _, .nil, _, _, _, _, _, _ => rfl
  | .cons x ks r, .cons y ls s, h1, h2, p1, p2, s1, s2 => by
    obtain ⟨a1, a2, a3, a4, a5⟩ := ok_cons.1 h1
    obtain ⟨b1, b2, b3, b4, b5⟩ := ok_cons.1 h2
    obtain ⟨c1, c2, c3⟩ := plain_cons.1 p1
    obtain ⟨d1, d2, d3⟩ := plain_cons.1 p2
    have st : ∀ {z : Nd} {u v : Fo}, staticL (Fo.cons z u v).flat = true → z.kind ≠ 0 ∧ staticL u.flat = true ∧ staticL v.flat = true := by
      intro z u v h
      simp [staticL, Fo.flat, dynN] at h ⊢
      exact h
    obtain ⟨e1, e2, e3⟩ := st s1
    obtain ⟨f1, f2, f3⟩ := st s2
    have ik := ag_static a4 b4 c2 d2 e2 f2
    have ir := ag_static a5 b5 c3 d3 e3 f3
    rw [Bool.eq_iff_iff]
    simp only [agF, sameF, Bool.and_eq_true, Bool.or_eq_true, decide_eq_true_eq, sameN_iff, e1, f1, false_or, or_false]
    rw [ir, ik]
    constructor
    · rintro ⟨⟨n1, k1, k2⟩, r1⟩
      exact ⟨⟨⟨k1, n1, n_of a1 c1 a2 b1 d1 b2 k1 e1 (same_count k2)⟩, k2⟩, r1⟩
    · rintro ⟨⟨⟨k1, n1, -⟩, k2⟩, r1⟩
      exact ⟨⟨n1, k1, k2⟩, r1⟩

theorem same_root {f g : Fo} (h1 : f.ok = true) (h2 : g.ok = true) (hc : f.count = g.count) : sameL f.flat g.flat = sameF f g := by
  have := same_flat [] [] h1 h2 hc
  simp only [List.append_nil] at this
  rw [this]
  simp [sameL]

theorem root_count {f : Fo} (h : root f) : f.count = 1 := by
  obtain ⟨x, ks, rfl, -⟩ := h
  rfl

end Go.Proofs.Ytpndbgdimkpfjaa.L
