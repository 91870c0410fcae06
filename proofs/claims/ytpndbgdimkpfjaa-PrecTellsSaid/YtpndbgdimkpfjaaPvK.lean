/-
  A tree's children as trees of their own; what a type is as a function and at a label; that both keep the order. No conditions but those that each lemma names.
-/
import Derived.Test.YtpndbgdimkpfjaaPvY
import Derived.Test.YtpndbgdimkpfjaaM4
namespace Go.Proofs.Ytpndbgdimkpfjaa.L
open Go

def bareN (x : Nd) : Nd := ⟨x.kind, ⟨#[]⟩, x.n⟩
/-- The trees of a row. -/
def trees : Fo → List (Nd × Fo)
  | .nil => []
  | .cons x ks r => (x, ks) :: trees r
/-- A tree without its label. -/
def tree (t : Nd × Fo) : Fo := .cons (bareN t.1) t.2 .nil

theorem trees_length : ∀ f : Fo, (trees f).length = f.count
  | .nil => rfl
  | .cons _ _ r => by simp [trees, Fo.count, trees_length r]

theorem tree_flat (t : Nd × Fo) : (tree t).flat = bareN t.1 :: t.2.flat := by simp [tree, Fo.flat]

theorem part_of {l : List Nd} {p : Nat} {t : Nd × Fo} {r : List Nd} (h : l.drop p = t.1 :: (t.2.flat ++ r)) (hok : (Fo.cons t.1 t.2 .nil).ok = true) : partL l p = (tree t).flat := by
  rw [partL, h, eat_tree hok, tree_flat]
  simp only [List.take_succ_cons, setName, bareN]
  rw [List.take_left']
  rfl

/-- Where the trees of a row stand. -/
theorem pos_tree (l : List Nd) : ∀ (f : Fo) (p : Nat) (r : List Nd) (i : Nat) (hi : i < (trees f).length) (hp : i < (posF f p).length), f.ok = true → l.drop p = f.flat ++ r →
    (∃ h : (posF f p)[i] < l.length, l[(posF f p)[i]] = (trees f)[i].1) ∧ partL l (posF f p)[i] = (tree (trees f)[i]).flat
  | .nil, _, _, i, hi, _, _, _ => by simp [trees] at hi
  | .cons y ks g, p, r, 0, _, _, ho, hd => by
    have hd2 : l.drop p = y :: (ks.flat ++ (g.flat ++ r)) := by rw [hd]; simp [Fo.flat]
    have hp := (getD_drop hd2).2.1
    simp only [Fo.ok, Bool.and_eq_true] at ho
    have hy : (Fo.cons y ks .nil).ok = true := by
      simp only [Fo.ok, Bool.and_eq_true, Bool.and_true]
      exact ho.1
    refine ⟨⟨hp, ?_⟩, part_of hd2 hy⟩
    have h3 := List.drop_eq_getElem_cons hp
    rw [hd2] at h3
    injection h3 with h3 _
    exact h3.symm
  | .cons y ks g, p, r, i + 1, hi, hp, ho, hd => by
    have hn : l.drop (p + (ks.flat.length + 1)) = g.flat ++ r := by
      have := drop_more (l := l) (a := y :: ks.flat) (b := g.flat ++ r) (p := p) (by rw [hd]; simp [Fo.flat])
      simpa using this
    simp only [Fo.ok, Bool.and_eq_true] at ho
    exact pos_tree l g _ r i (by simpa [trees] using hi) (by simpa [posF] using hp) ho.2 hn

theorem stand_any {x y : Nd} (hk : x.kind = y.kind) (hn : x.n = y.n) : ∀ (f : Fo) (k : Nat) (b : ByteArray), Fo.stand x k b f = Fo.stand y k b f
  | .nil, _, _ => rfl
  | .cons z _ r, k, b => by
    simp only [Fo.stand, stand_any hk hn r]
    unfold mayStand
    rw [hk, hn]

theorem tree_ok : ∀ {f : Fo} {t : Nd × Fo}, f.ok = true → t ∈ trees f → (tree t).ok = true
  | .nil, _, _, h => by simp [trees] at h
  | .cons x ks r, t, ho, h => by
    obtain ⟨a1, a2, a3, a4, a5⟩ := ok_cons.1 ho
    rcases List.mem_cons.1 h with rfl | h
    · refine ok_cons.2 ⟨?_, ?_, ?_, a4, rfl⟩
      · exact a1
      · exact a2
      · rw [stand_any (y := x) (by rfl) (by rfl)]
        exact a3
    · exact tree_ok a5 h
theorem tree_plain : ∀ {f : Fo} {t : Nd × Fo}, f.plain = true → t ∈ trees f → (tree t).plain = true
  | .nil, _, _, h => by simp [trees] at h
  | .cons x ks r, t, ho, h => by
    obtain ⟨a1, a2, a3⟩ := plain_cons.1 ho
    rcases List.mem_cons.1 h with rfl | h
    · exact plain_cons.2 ⟨a1, a2, rfl⟩
    · exact tree_plain a3 h
theorem tree_root {f : Fo} {t : Nd × Fo} (hp : f.plain = true) (h : t ∈ trees f) : root (tree t) := by
  have := (plain_cons.1 (tree_plain hp h)).1
  refine ⟨_, _, rfl, ?_⟩
  have h9 := not_nine this
  simp only [bareN] at h9
  simp [bare, bareN, h9]
  rfl
theorem tree_deep : ∀ {f : Fo} {t : Nd × Fo}, t ∈ trees f → (tree t).deep ≤ f.deep
  | .nil, _, h => by simp [trees] at h
  | .cons x ks r, t, h => by
    rcases List.mem_cons.1 h with rfl | h
    · simp only [tree, Fo.deep]; omega
    · have := tree_deep h
      simp only [Fo.deep]
      omega
theorem tree_len : ∀ {f : Fo} {t : Nd × Fo}, t ∈ trees f → (tree t).flat.length ≤ f.flat.length
  | .nil, _, h => by simp [trees] at h
  | .cons x ks r, t, h => by
    rcases List.mem_cons.1 h with rfl | h
    · simp [tree, Fo.flat]
    · have := tree_len h
      simp only [Fo.flat, List.length_cons, List.length_append]
      omega
theorem tree_names {N : Nat} : ∀ {f : Fo} {t : Nd × Fo}, (∀ z ∈ f.flat, z.name.size ≤ N) → t ∈ trees f → ∀ z ∈ (tree t).flat, z.name.size ≤ N
  | .nil, _, _, h => by simp [trees] at h
  | .cons x ks r, t, hn, h => by
    simp only [Fo.flat, List.mem_cons, List.mem_append, forall_eq_or_imp] at hn
    rcases List.mem_cons.1 h with rfl | h
    · intro z hz
      rw [tree_flat] at hz
      rcases List.mem_cons.1 hz with rfl | hz
      · exact Nat.zero_le _
      · exact hn.2 z (Or.inl hz)
    · exact tree_names (fun z hz => hn.2 z (Or.inr hz)) h

/-- Rows of trees that say at least as much: tree by tree. -/
theorem be_trees : ∀ {f g : Fo}, beF f g = true → ∀ (i : Nat) (h1 : i < (trees f).length) (h2 : i < (trees g).length), (trees f)[i].1.name = (trees g)[i].1.name ∧ beF (tree (trees f)[i]) (tree (trees g)[i]) = true
  | .nil, .nil, _, i, h1, _ => by simp [trees] at h1
  | .nil, .cons _ _ _, h, _, _, _ => by simp [beF] at h
  | .cons _ _ _, .nil, h, _, _, _ => by simp [beF] at h
  | .cons x ks r, .cons y ls s, h, 0, _, _ => by
    simp [beF] at h
    refine ⟨h.1.1, ?_⟩
    simp [tree, trees, beF, bareN]
    exact h.1.2
  | .cons x ks r, .cons y ls s, h, i + 1, h1, h2 => by
    simp [beF] at h
    exact be_trees h.2 i (by simpa [trees] using h1) (by simpa [trees] using h2)

/-- The tree of this label, without it. -/
def labF (s : ByteArray) : Fo → Option Fo
  | .nil => none
  | .cons x ks r => if x.name = s then some (tree (x, ks)) else labF s r

theorem lab_be (s : ByteArray) : ∀ {f g : Fo} {p : Fo}, beF f g = true → labF s f = some p → ∃ q, labF s g = some q ∧ beF p q = true
  | .nil, _, _, _, h => by simp [labF] at h
  | .cons _ _ _, .nil, _, h, _ => by simp [beF] at h
  | .cons x ks r, .cons y ls s', p, h, hp => by
    simp [beF] at h
    unfold labF at hp ⊢
    rw [← h.1.1]
    split at hp
    · rename_i hx
      rw [if_pos hx]
      injection hp with hp
      subst hp
      refine ⟨_, rfl, ?_⟩
      simp [tree, beF, bareN]
      exact h.1.2
    · rename_i hx
      rw [if_neg hx]
      exact lab_be s h.2 hp

theorem lab_mem (s : ByteArray) : ∀ {f p : Fo}, labF s f = some p → ∃ t ∈ trees f, p = tree t
  | .nil, _, h => by simp [labF] at h
  | .cons x ks r, p, h => by
    unfold labF at h
    split at h
    · injection h with h
      exact ⟨_, List.mem_cons_self, h.symm⟩
    · obtain ⟨t, ht, e⟩ := lab_mem s h
      exact ⟨t, List.mem_cons_of_mem _ ht, e⟩

/-- A ?. -/
def dynF : Fo := .cons ⟨0, ⟨#[]⟩, 0⟩ .nil .nil

def fieldF (s : ByteArray) : Fo → Option Fo
  | .nil => none
  | .cons x ks _ => if x.kind = 0 then some dynF else if x.kind = 6 ∨ x.kind = 7 then labF s ks else none

def callF : Fo → Option (Fo × Fo)
  | .nil => none
  | .cons x ks _ => if x.kind = 0 then some (dynF, dynF) else if x.kind = 5 then (match trees ks with | [a, b] => some (tree a, tree b) | _ => none) else none

end Go.Proofs.Ytpndbgdimkpfjaa.L
namespace Go.Proofs.Ytpndbgdimkpfjaa
open Go.RowKit Go.Sort

/-- A good type: a tree, plain, short. -/
structure Gd (n : Nat) (F : L.Fo) : Prop where
  ok : F.ok = true
  plain : F.plain = true
  root : L.root F
  deep : F.deep ≤ 100
  len : F.flat.length ≤ n
  names : ∀ x ∈ F.flat, x.name.size ≤ 100

theorem Gd.ty {n : Nat} {F : L.Fo} (h : Gd n F) (hn : n ≤ 10000) : Ty F.flat F := by
  have hl := h.len
  have hr := L.root_right h.root h.ok (by omega) h.deep
  refine ⟨rfl, h.ok, h.plain, ?_, right_few hr, fun x hx => Nat.le_trans (h.names x hx) (by omega)⟩
  obtain ⟨x, ks, rfl, -⟩ := h.root
  intro e
  cases e

theorem Gd.good {n m : Nat} {F : L.Fo} (h : Gd n F) (hn : n ≤ 10000) (hm : n ≤ m) : L.good m F.flat = true := by
  have hl := h.len
  simp only [L.good, L.short, Bool.and_eq_true, decide_eq_true_eq, List.all_eq_true]
  exact ⟨⟨by omega, h.names⟩, L.root_right h.root h.ok (by omega) h.deep, by rw [← L.plain_flat]; exact h.plain⟩

theorem good_gd {l : List L.Nd} (h : L.good 60 l = true) : ∃ F, l = F.flat ∧ Gd 60 F := by
  obtain ⟨F, t, r, d, z, nm⟩ := good_fo h
  exact ⟨F, t.flat, t.ok, t.plain, r, d, by rw [← t.flat]; exact z, nm⟩

theorem Gd.kid {n : Nat} {x : L.Nd} {ks r : L.Fo} {t : L.Nd × L.Fo} (h : Gd n (.cons x ks r)) (ht : t ∈ L.trees ks) : Gd n (L.tree t) := by
  obtain ⟨-, -, -, a4, -⟩ := L.ok_cons.1 h.ok
  obtain ⟨-, b2, -⟩ := L.plain_cons.1 h.plain
  have hd := h.deep
  have hl := h.len
  simp only [L.Fo.deep] at hd
  simp only [L.Fo.flat, List.length_cons, List.length_append] at hl
  have h1 := L.tree_deep ht
  have h2 := L.tree_len ht
  exact ⟨L.tree_ok a4 ht, L.tree_plain b2 ht, L.tree_root b2 ht, by omega, by omega, L.tree_names (fun z hz => h.names z (by simp [L.Fo.flat, hz])) ht⟩

theorem gd_dyn {n : Nat} (hn : 1 ≤ n) : Gd n L.dynF :=
  ⟨by decide, by decide, ⟨_, _, rfl, by decide⟩, by decide, hn, fun x hx => by
    simp only [L.dynF, L.Fo.flat, List.nil_append, List.mem_singleton] at hx
    subst hx
    exact Nat.zero_le _⟩

end Go.Proofs.Ytpndbgdimkpfjaa
