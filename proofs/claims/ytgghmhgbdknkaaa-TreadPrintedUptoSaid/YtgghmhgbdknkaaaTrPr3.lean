/-
  Plain lists: the tokens of a plain type are read as it, but for its sites, or it is too deep for what levels are left. No machine here; no conditions but those that each lemma names.
-/
import Derived.Test.YtgghmhgbdknkaaaTrPr2
import Derived.Test.YtgghmhgbdknkaaaMR2
namespace Go.Proofs.Ytgghmhgbdknkaaa
open Go

/-- These tokens stand at a place. -/
def At (l : List T.Tk) (q : Nat) (K : List PK) : Prop := ∀ i (h : i < K.length), ∃ t, l[q + i]? = some t ∧ t.kind = (K[i].1 : Int) ∧ t.text = ⟨K[i].2.toArray⟩

theorem At.left {l : List T.Tk} {q : Nat} {A B : List PK} (h : At l q (A ++ B)) : At l q A := fun i hi => by
  have := h i (by rw [List.length_append]; omega)
  rwa [List.getElem_append_left hi] at this
theorem At.right {l : List T.Tk} {q : Nat} {A B : List PK} (h : At l q (A ++ B)) : At l (q + A.length) B := fun i hi => by
  have := h (A.length + i) (by rw [List.length_append]; omega)
  rw [List.getElem_append_right (by omega)] at this
  simpa [Nat.add_assoc] using this
theorem At.tail {l : List T.Tk} {q : Nat} {a : PK} {B : List PK} (h : At l q (a :: B)) : At l (q + 1) B := At.right (A := [a]) h
theorem At.head {l : List T.Tk} {q : Nat} {a : PK} {B : List PK} (h : At l q (a :: B)) : ∃ t, l[q]? = some t ∧ t.kind = (a.1 : Int) ∧ t.text = ⟨a.2.toArray⟩ := h 0 (by simp)

theorem At.tok {l : List T.Tk} {q : Nat} {a : PK} {B : List PK} (h : At l q (a :: B)) : (tokAt l q).kind = (a.1 : Int) ∧ (tokAt l q).text = ⟨a.2.toArray⟩ := by
  obtain ⟨t, h1, h2, h3⟩ := h.head
  rw [tokAt_some h1]
  exact ⟨h2, h3⟩
theorem At.sign {l : List T.Tk} {q : Nat} {a : PK} {B : List PK} (h : At l q (a :: B)) (g : ByteArray) : T.isSign l q g = (decide (a.1 = 5) && decide ((⟨a.2.toArray⟩ : ByteArray) = g)) := by
  obtain ⟨t, h1, h2, h3⟩ := h.head
  unfold T.isSign
  rw [h1]
  simp only [h2, h3]
  congr 1
  simp
  omega

/-- How many nodes are a ?. -/
def zer (l : List L.Nd) : Nat := l.countP fun z => decide (z.kind = 0)

/-- What is read of a tree's tokens. -/
def Res (r : T.R T.Tr) (s : T.S) (x : L.Nd) (ks : L.Fo) (n d : Nat) : Prop :=
  (∃ u s', r = .ok u s' ∧ Alike x ks u.1 u.2 ∧ (u.1.name = ⟨#[]⟩ ∧ u.2.deep = ks.deep) ∧ s'.pl = s.pl + n ∧ s'.sites.length = s.sites.length + zer (x :: ks.flat)) ∨ ((∃ p, r = .bad p 4) ∧ d < ks.flat.length + 1)

theorem sameL_refl' (l : List L.Nd) : L.sameL l l = true := by
  induction l with
  | nil => rfl
  | cons x l ih =>
    rw [L.sameL, Bool.and_eq_true]
    exact ⟨(L.sameN_iff x x).2 ⟨rfl, rfl, Or.inl rfl⟩, ih⟩

theorem firstK_len (x : L.Nd) : (firstK x).length = if x.kind = 5 ∨ x.kind < 0 ∨ 7 < x.kind then 0 else 1 := by
  unfold firstK
  repeat' split
  all_goals first | rfl | omega

/-- What is ahead of an arrow and no row, no arrow itself. -/
theorem oper_leaf {l : List T.Tk} {x : L.Nd} {ks : L.Fo} (h : Pl x ks) (hk : x.kind < 5) (A : Option T.P) (s : T.S) (d : Nat) (ha : At l s.pl (bodyK false x ks)) : Res (T.operF l A s) s x ks (bodyK false x ks).length d := by
  have hkd := h.kinds
  obtain ⟨rfl, -⟩ := h.base (by omega)
  have hb : bodyK false x .nil = firstK x := by
    have : lastK x.kind = [] := by unfold lastK; rw [if_neg (by omega), if_neg (by omega)]
    simp [bodyK, opnK, prsK, clsK, this]
  rw [hb] at ha ⊢
  left
  have hn := h.num.1
  rcases (by omega : x.kind = 0 ∨ x.kind = 1 ∨ x.kind = 2 ∨ x.kind = 3 ∨ x.kind = 4) with hk | hk | hk | hk | hk
  · have e : firstK x = [(5, [63])] := by unfold firstK; rw [if_pos hk]
    rw [e] at ha ⊢
    refine ⟨T.leafT 0 s.site, stQ s (tokAt l s.pl), ?_, ⟨hk, Or.inr hk, rfl, rfl⟩, ⟨rfl, rfl⟩, rfl, ?_⟩
    · rw [operF_eq, if_pos (by rw [ha.sign]; decide)]
    · simp [stQ, zer, L.Fo.flat, hk]
  all_goals
    have hn0 : x.n = 0 := by
      unfold L.numbered at hn
      rw [if_neg (by omega), if_pos (by omega)] at hn
      simpa using hn
  · have e : firstK x = [(6, [105, 110, 116])] := by unfold firstK; rw [if_neg (by omega), if_pos hk]
    rw [e] at ha ⊢
    have hbk : T.baseK (tokAt l s.pl) = 1 := by unfold T.baseK; rw [ha.tok.1, ha.tok.2]; decide
    refine ⟨T.leafT 1 0, stN s, ?_, ⟨hk, Or.inl hn0, rfl, rfl⟩, ⟨rfl, rfl⟩, rfl, ?_⟩
    · rw [operF_eq, if_neg (by rw [ha.sign]; decide), if_neg (by rw [ha.sign]; decide), if_neg (by rw [ha.sign]; decide), if_neg (by rw [ha.sign]; decide), if_neg (by rw [hbk]; decide), hbk]
    · simp [stN, zer, L.Fo.flat, hk]
  · have e : firstK x = [(6, [98, 111, 111, 108])] := by unfold firstK; rw [if_neg (by omega), if_neg (by omega), if_pos hk]
    rw [e] at ha ⊢
    have hbk : T.baseK (tokAt l s.pl) = 2 := by unfold T.baseK; rw [ha.tok.1, ha.tok.2]; decide
    refine ⟨T.leafT 2 0, stN s, ?_, ⟨hk, Or.inl hn0, rfl, rfl⟩, ⟨rfl, rfl⟩, rfl, ?_⟩
    · rw [operF_eq, if_neg (by rw [ha.sign]; decide), if_neg (by rw [ha.sign]; decide), if_neg (by rw [ha.sign]; decide), if_neg (by rw [ha.sign]; decide), if_neg (by rw [hbk]; decide), hbk]
    · simp [stN, zer, L.Fo.flat, hk]
  · have e : firstK x = [(6, [115, 116, 114, 105, 110, 103])] := by unfold firstK; rw [if_neg (by omega), if_neg (by omega), if_neg (by omega), if_pos hk]
    rw [e] at ha ⊢
    have hbk : T.baseK (tokAt l s.pl) = 3 := by unfold T.baseK; rw [ha.tok.1, ha.tok.2]; decide
    refine ⟨T.leafT 3 0, stN s, ?_, ⟨hk, Or.inl hn0, rfl, rfl⟩, ⟨rfl, rfl⟩, rfl, ?_⟩
    · rw [operF_eq, if_neg (by rw [ha.sign]; decide), if_neg (by rw [ha.sign]; decide), if_neg (by rw [ha.sign]; decide), if_neg (by rw [ha.sign]; decide), if_neg (by rw [hbk]; decide), hbk]
    · simp [stN, zer, L.Fo.flat, hk]
  · have e : firstK x = [(6, [117, 110, 105, 116])] := by unfold firstK; rw [if_neg (by omega), if_neg (by omega), if_neg (by omega), if_neg (by omega), if_pos hk]
    rw [e] at ha ⊢
    have hbk : T.baseK (tokAt l s.pl) = 4 := by unfold T.baseK; rw [ha.tok.1, ha.tok.2]; decide
    refine ⟨T.leafT 4 0, stN s, ?_, ⟨hk, Or.inl hn0, rfl, rfl⟩, ⟨rfl, rfl⟩, rfl, ?_⟩
    · rw [operF_eq, if_neg (by rw [ha.sign]; decide), if_neg (by rw [ha.sign]; decide), if_neg (by rw [ha.sign]; decide), if_neg (by rw [ha.sign]; decide), if_neg (by rw [hbk]; decide), hbk]
    · simp [stN, zer, L.Fo.flat, hk]

end Go.Proofs.Ytgghmhgbdknkaaa
