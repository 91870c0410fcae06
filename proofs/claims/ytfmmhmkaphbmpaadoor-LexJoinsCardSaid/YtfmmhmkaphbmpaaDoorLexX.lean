/-
  Plain lists of bytes, no program: all tokens of a text as a relation without fuel; a token is the same one whatever blank stands behind it. No conditions but those that each lemma names.
-/
import Derived.Test.YtfmmhmkaphbmpaaDoorLexN
import Derived.Test.YtfmmhmkaphbmpaaDoorGlyJ
namespace Go.Proofs.YtfmmhmkaphbmpaaDoor.L
open Go

/-- What is left at place p, where nothing stands between, has just these tokens. -/
inductive Tk : Nat → List UInt8 → List Tok → Prop
  | done (p : Nat) : Tk p [] [⟨0, [], p, p⟩]
  | step (p : Nat) (l : List UInt8) (k : Nat) (x : List UInt8) (n : Nat) (r : List Tok) (hl : l ≠ []) (ho : oneL l = some (k, x, n)) (hr : Tk (p + n + skipL false (l.drop n)) ((l.drop n).drop (skipL false (l.drop n))) r) : Tk p l (⟨k, x, p, p + n⟩ :: r)

/-- .. is wrong at place q. -/
inductive Er : Nat → List UInt8 → Nat → Prop
  | here (p : Nat) (l : List UInt8) (hl : l ≠ []) (ho : oneL l = none) : Er p l p
  | step (p : Nat) (l : List UInt8) (k : Nat) (x : List UInt8) (n q : Nat) (hl : l ≠ []) (ho : oneL l = some (k, x, n)) (hr : Er (p + n + skipL false (l.drop n)) ((l.drop n).drop (skipL false (l.drop n))) q) : Er p l q

theorem toksF_ok (f : Nat) : ∀ (p : Nat) (acc l : _) (r : List Tok), l.length + 1 ≤ f → toksF f p acc l = .ok r → ∃ r', r = acc ++ r' ∧ Tk p l r' := by
  induction f with
  | zero => intro p acc l r h; omega
  | succ f ih =>
    intro p acc l r hf h
    rw [toksF] at h
    split at h
    · rename_i hl
      subst hl
      cases h
      exact ⟨_, rfl, Tk.done p⟩
    · rename_i hl
      split at h
      · cases h
      · rename_i k x n ho
        obtain ⟨_, _, h1, h2⟩ := oneL_facts ho
        have hlen : ((l.drop n).drop (skipL false (l.drop n))).length + 1 ≤ f := by simp; omega
        obtain ⟨r', hr, hT⟩ := ih _ _ _ _ hlen h
        exact ⟨_, by rw [hr, List.append_assoc]; rfl, Tk.step p l k x n r' hl ho hT⟩

theorem toksF_of {p : Nat} {l : List UInt8} {r : List Tok} (h : Tk p l r) : ∀ (f : Nat) (acc : List Tok), l.length + 1 ≤ f → toksF f p acc l = .ok (acc ++ r) := by
  induction h with
  | done p =>
    intro f acc hf
    obtain ⟨f, rfl⟩ : ∃ g, f = g + 1 := ⟨f - 1, by omega⟩
    rw [toksF, if_pos rfl]
  | step p l k x n r hl ho hr ih =>
    intro f acc hf
    obtain ⟨f, rfl⟩ : ∃ g, f = g + 1 := ⟨f - 1, by omega⟩
    obtain ⟨_, _, h1, h2⟩ := oneL_facts ho
    rw [toksF, if_neg hl, ho]
    simp only
    rw [ih f _ (by simp; omega), List.append_assoc]
    rfl

theorem toksF_err (f : Nat) : ∀ (p : Nat) (acc l : _) (q : Nat), l.length + 1 ≤ f → toksF f p acc l = .error q → Er p l q := by
  induction f with
  | zero => intro p acc l r h; omega
  | succ f ih =>
    intro p acc l q hf h
    rw [toksF] at h
    split at h
    · cases h
    · rename_i hl
      split at h
      · rename_i ho
        cases h
        exact Er.here p l hl ho
      · rename_i k x n ho
        obtain ⟨_, _, h1, h2⟩ := oneL_facts ho
        exact Er.step p l k x n q hl ho (ih _ _ _ _ (by simp; omega) h)

theorem toksF_fail {p q : Nat} {l : List UInt8} (h : Er p l q) : ∀ (f : Nat) (acc : List Tok), l.length + 1 ≤ f → toksF f p acc l = .error q := by
  induction h with
  | here p l hl ho =>
    intro f acc hf
    obtain ⟨f, rfl⟩ : ∃ g, f = g + 1 := ⟨f - 1, by omega⟩
    rw [toksF, if_neg hl, ho]
  | step p l k x n q hl ho hr ih =>
    intro f acc hf
    obtain ⟨f, rfl⟩ : ∃ g, f = g + 1 := ⟨f - 1, by omega⟩
    obtain ⟨_, _, h1, h2⟩ := oneL_facts ho
    rw [toksF, if_neg hl, ho]
    simp only
    rw [ih f _ (by simp; omega)]

/-- A whole text's tokens. -/
def All (l : List UInt8) (r : List Tok) : Prop := Tk (skipL false l) (l.drop (skipL false l)) r
def Bad (l : List UInt8) (q : Nat) : Prop := Er (skipL false l) (l.drop (skipL false l)) q

theorem all_of {l : List UInt8} {r : List Tok} (h : toksL l = .ok r) : All l r := by
  obtain ⟨r', hr, hT⟩ := toksF_ok _ _ _ _ _ (by simp) h
  rw [hr]
  exact hT
theorem of_all {l : List UInt8} {r : List Tok} (h : All l r) : toksL l = .ok r := toksF_of h _ _ (by simp)
theorem bad_of {l : List UInt8} {q : Nat} (h : toksL l = .error q) : Bad l q := toksF_err _ _ _ _ _ (by simp) h
theorem of_bad {l : List UInt8} {q : Nat} (h : Bad l q) : toksL l = .error q := toksF_fail h _ _ (by simp)

theorem tk_len {p : Nat} {l : List UInt8} {r : List Tok} (h : Tk p l r) : r.length ≤ l.length + 1 := by
  induction h with
  | done p => simp
  | step p l k x n r hl ho hr ih =>
    obtain ⟨_, _, h1, h2⟩ := oneL_facts ho
    simp only [List.length_drop] at ih
    simp only [List.length_cons]
    omega
theorem all_len {l : List UInt8} {r : List Tok} (h : All l r) : r.length ≤ l.length + 1 := by
  have := tk_len h
  rw [List.length_drop] at this
  omega

/-! ### What stands behind -/

theorem runL_app (p : UInt8 → Bool) (l m : List UInt8) (h : m = [] ∨ ∃ c r, m = c :: r ∧ p c = false) : runL p (l ++ m) = runL p l := by
  induction l with
  | nil =>
    rcases h with rfl | ⟨c, r, rfl, hc⟩
    · rfl
    · simp [runL, hc]
  | cons a l ih =>
    rw [List.cons_append, runL, runL, ih]

theorem firstL_app (gs : List (List UInt8)) (l m : List UInt8) (c : UInt8) (h : ∀ g ∈ gs, c ∉ g) : firstL gs (l ++ c :: m) = firstL gs l := by
  induction gs with
  | nil => rfl
  | cons g r ih =>
    rw [firstL, firstL, ih fun x hx => h x (by simp [hx])]
    have hg : g.isPrefixOf (l ++ c :: m) = g.isPrefixOf l := by
      rw [Bool.eq_iff_iff]
      simp only [List.isPrefixOf_iff_prefix]
      constructor
      · intro hp
        rcases Nat.lt_or_ge l.length g.length with hlt | hge
        · obtain ⟨t, ht⟩ := hp
          have hm : c ∈ g := by
            have e : (g ++ t)[l.length]? = some c := by rw [ht]; simp
            rw [List.getElem?_append_left hlt] at e
            exact List.mem_of_getElem? e
          exact absurd hm (h g (by simp))
        · exact List.prefix_of_prefix_length_le hp (List.prefix_append _ _) hge
      · intro hp
        exact hp.trans (List.prefix_append _ _)
    rw [hg]

theorem at0_app {l m : List UInt8} {k : Nat} (h : k < l.length) : G.at0 (l ++ m) k = G.at0 l k := by
  unfold G.at0
  rw [List.getD_eq_getElem?_getD, List.getD_eq_getElem?_getD, List.getElem?_append_left h]

theorem contL_app {l m : List UInt8} {k a b : Nat} (h : G.contL l k a b = true) : G.contL (l ++ m) k a b = true := by
  unfold G.contL at h ⊢
  simp only [Bool.and_eq_true, decide_eq_true_eq] at h
  obtain ⟨h1, h2, h3⟩ := h
  rw [at0_app h1]
  simp [h2, h3]
  omega

theorem longL_app {l m : List UInt8} (hl : l ≠ []) (h : 1 ≤ G.longL l) : G.longL (l ++ m) = G.longL l := by
  have h0 : 0 < l.length := List.length_pos_iff.2 hl
  have e0 : G.at0 (l ++ m) 0 = G.at0 l 0 := at0_app h0
  rcases Nat.lt_or_ge (G.at0 l 0) 128 with c1 | c1
  · rw [G.longL_1 c1, G.longL_1 (by rw [e0]; exact c1)]
  rcases Nat.lt_or_ge (G.at0 l 0) 194 with c2 | c2
  · rw [G.longL_0 c1 (Or.inl c2)] at h
    omega
  rcases Nat.lt_or_ge 223 (G.at0 l 0) with c3 | c3
  · rcases Nat.lt_or_ge 239 (G.at0 l 0) with c4 | c4
    · rcases Nat.lt_or_ge 244 (G.at0 l 0) with c5 | c5
      · rw [G.longL_0 c1 (Or.inr c5)] at h
        omega
      · obtain ⟨lo, hlo⟩ : ∃ lo, lo = if G.at0 l 0 = 240 then 144 else 128 := ⟨_, rfl⟩
        obtain ⟨hi, hhi⟩ : ∃ hi, hi = if G.at0 l 0 = 244 then 143 else 191 := ⟨_, rfl⟩
        have h1 := G.longL_4 (l := l) c4 c5 hlo hhi
        have h2 := G.longL_4 (l := l ++ m) (lo := lo) (hi := hi) (by rw [e0]; exact c4) (by rw [e0]; exact c5) (by rw [e0]; exact hlo) (by rw [e0]; exact hhi)
        rw [h1] at h ⊢
        rw [h2]
        split at h
        · rename_i hc
          simp only [Bool.and_eq_true] at hc
          rw [if_pos (by simp only [Bool.and_eq_true]; exact ⟨⟨contL_app hc.1.1, contL_app hc.1.2⟩, contL_app hc.2⟩), if_pos (by simp only [Bool.and_eq_true]; exact hc)]
        · omega
    · obtain ⟨lo, hlo⟩ : ∃ lo, lo = if G.at0 l 0 = 224 then 160 else 128 := ⟨_, rfl⟩
      obtain ⟨hi, hhi⟩ : ∃ hi, hi = if G.at0 l 0 = 237 then 159 else 191 := ⟨_, rfl⟩
      have h1 := G.longL_3 (l := l) c3 c4 hlo hhi
      have h2 := G.longL_3 (l := l ++ m) (lo := lo) (hi := hi) (by rw [e0]; exact c3) (by rw [e0]; exact c4) (by rw [e0]; exact hlo) (by rw [e0]; exact hhi)
      rw [h1] at h ⊢
      rw [h2]
      split at h
      · rename_i hc
        simp only [Bool.and_eq_true] at hc
        rw [if_pos (by simp only [Bool.and_eq_true]; exact ⟨contL_app hc.1, contL_app hc.2⟩), if_pos (by simp only [Bool.and_eq_true]; exact hc)]
      · omega
  · have h1 := G.longL_2 (l := l) c2 c3
    have h2 := G.longL_2 (l := l ++ m) (by rw [e0]; exact c2) (by rw [e0]; exact c3)
    rw [h1] at h ⊢
    rw [h2]
    split at h
    · rename_i hc
      rw [if_pos (contL_app hc), if_pos hc]
    · omega

theorem escL_app {l m : List UInt8} (h : (G.escL l).2 ≠ 0) : G.escL (l ++ m) = G.escL l := by
  unfold G.escL at h ⊢
  by_cases h2 : l.length < 2
  · rw [if_pos h2] at h
    exact absurd rfl h
  · rw [if_neg h2] at h
    rw [if_neg h2, if_neg (by simp; omega), at0_app (show 1 < l.length by omega)]
    split
    · rfl
    split
    · rfl
    split
    · rfl
    rename_i n1 n2 n3
    rw [if_neg n1, if_neg n2, if_neg n3] at h
    split at h
    · rename_i h4
      have e2 : G.at0 (l ++ m) 2 = G.at0 l 2 := at0_app (by omega)
      have e3 : G.at0 (l ++ m) 3 = G.at0 l 3 := at0_app (by omega)
      rw [e2, e3, if_pos h4, if_pos ⟨h4.1, by simp; omega, h4.2.2⟩]
    · exact absurd rfl h

theorem unqF_app (f : Nat) : ∀ (p : Nat) (acc l m : List UInt8) (x : List UInt8 × Nat) (g : Nat), G.unqF f p acc l = some x → f ≤ g → G.unqF g p acc (l ++ m) = some x := by
  induction f with
  | zero => intro p acc l m x g h; cases h
  | succ f ih =>
    intro p acc l m x g h hg
    obtain ⟨g, rfl⟩ : ∃ k, g = k + 1 := ⟨g - 1, by omega⟩
    rw [G.unqF] at h
    split at h
    · cases h
    rename_i hl
    have h0 : 0 < l.length := List.length_pos_iff.2 hl
    have e0 : G.at0 (l ++ m) 0 = G.at0 l 0 := at0_app h0
    have hne : ¬ l ++ m = [] := by simp [hl]
    rw [G.unqF, if_neg hne, e0]
    split at h
    · rename_i h34
      rw [if_pos h34]
      exact h
    rename_i n34
    rw [if_neg n34]
    split at h
    · cases h
    rename_i hz
    have hlong : 1 ≤ G.longL l := by
      rcases Nat.eq_zero_or_pos (G.longL l) with hh | hh
      · exact absurd (Or.inl hh) hz
      · exact hh
    have hle : G.longL l ≤ l.length := by have := G.wid_le hl; unfold G.wid at this; omega
    rw [longL_app hl hlong, if_neg hz]
    split at h
    · rename_i h92
      rw [if_pos h92]
      split at h
      · cases h
      rename_i hesc
      rw [escL_app hesc, if_neg hesc]
      obtain ⟨_, _, hor⟩ := G.escL_facts l (by omega)
      rcases hor with hh | ⟨_, hle2, _⟩
      · exact absurd hh hesc
      · have := ih _ _ _ m x g h (by omega)
        rw [List.drop_append_of_le_length (by omega)]
        exact this
    · rename_i n92
      rw [if_neg n92]
      have := ih _ _ _ m x g h (by omega)
      rw [List.drop_append_of_le_length hle, List.take_append_of_le_length hle]
      exact this

theorem unqL_app {l m : List UInt8} {x : List UInt8 × Nat} (h : G.unqL l = some x) : G.unqL (l ++ m) = some x := by
  unfold G.unqL at h ⊢
  split at h
  · rename_i h34
    have hl : l ≠ [] := by
      rintro rfl
      exact absurd h34 (by decide)
    have h0 : 0 < l.length := List.length_pos_iff.2 hl
    rw [at0_app h0, if_pos h34, List.drop_append_of_le_length (by omega)]
    exact unqF_app _ _ _ _ m x _ h (by simp)
  · cases h

/-- A blank or a line's end behind: the token at the head is the same. -/
theorem oneL_app {l m : List UInt8} {c : UInt8} {k n : Nat} {x : List UInt8} (hc : c = 10 ∨ c = 32) (hl : l ≠ []) (h : oneL l = some (k, x, n)) : oneL (l ++ c :: m) = some (k, x, n) := by
  have h0 : 0 < l.length := List.length_pos_iff.2 hl
  have hs : signL (l ++ c :: m) = signL l := firstL_app _ _ _ _ (by rcases hc with rfl | rfl <;> decide)
  have hg : runL goesB (l ++ c :: m) = runL goesB l := runL_app _ _ _ (Or.inr ⟨c, m, rfl, by rcases hc with rfl | rfl <;> decide⟩)
  have hle := runL_le goesB l
  unfold oneL at h ⊢
  rw [at0_app h0, hs, hg, List.take_append_of_le_length hle]
  split
  · rename_i h34
    rw [if_pos h34] at h
    split at h
    · rename_i y hy
      rw [unqL_app hy]
      exact h
    · cases h
  · rename_i n34
    rw [if_neg n34] at h
    exact h

end Go.Proofs.YtfmmhmkaphbmpaaDoor.L
