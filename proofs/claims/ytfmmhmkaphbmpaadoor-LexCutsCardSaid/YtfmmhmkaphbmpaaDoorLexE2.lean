/-
  Plain lists of bytes, no program: the tokens of a text behind a quoted one, and of two texts with a line's end between. No conditions but those that each lemma names.
-/
import Derived.Test.YtfmmhmkaphbmpaaDoorLexB
namespace Go.Proofs.YtfmmhmkaphbmpaaDoor.L
open Go

/-- A token so many places further on. -/
def shift (d : Nat) (t : Tok) : Tok := ⟨t.kind, t.text, t.fr + d, t.to + d⟩

theorem tk_shift {p : Nat} {l : List UInt8} {r : List Tok} (h : Tk p l r) (d : Nat) : Tk (p + d) l (r.map (shift d)) := by
  induction h with
  | done p => exact Tk.done (p + d)
  | step p l k x n r hl ho hr ih =>
    have e : shift d ⟨k, x, p, p + n⟩ = ⟨k, x, p + d, p + d + n⟩ := by
      show (⟨k, x, p + d, p + n + d⟩ : Tok) = _
      rw [show p + n + d = p + d + n by omega]
    rw [List.map_cons, e]
    refine Tk.step (p + d) l k x n _ hl ho ?_
    rw [show p + d + n + skipL false (l.drop n) = p + n + skipL false (l.drop n) + d by omega]
    exact ih

theorem er_shift {p q : Nat} {l : List UInt8} (h : Er p l q) (d : Nat) : Er (p + d) l (q + d) := by
  induction h with
  | here p l hl ho => exact Er.here (p + d) l hl ho
  | step p l k x n q hl ho hr ih =>
    refine Er.step (p + d) l k x n _ hl ho ?_
    rw [show p + d + n + skipL false (l.drop n) = p + n + skipL false (l.drop n) + d by omega]
    exact ih

theorem quote_one (a s : List UInt8) : oneL (G.quoteL a ++ s) = some (4, a, (G.quoteL a).length) := by
  unfold oneL
  have h0 : G.at0 (G.quoteL a ++ s) 0 = 34 := rfl
  rw [if_pos h0, G.quoteL_told a s]

theorem quote_ne (a s : List UInt8) : G.quoteL a ++ s ≠ [] := by simp [G.quoteL]

theorem quoted_ok {a s : List UInt8} {r : List Tok} (h : toksL s = .ok r) : toksL (G.quoteL a ++ s) = .ok (⟨4, a, 0, (G.quoteL a).length⟩ :: r.map (shift (G.quoteL a).length)) := by
  have h1 := quote_one a s
  have hk := one_skip h1
  refine of_all ?_
  unfold All
  rw [hk, List.drop_zero]
  have hs := Tk.step 0 (G.quoteL a ++ s) 4 a (G.quoteL a).length (r.map (shift (G.quoteL a).length)) (quote_ne a s) h1 (by
    have hd : (G.quoteL a ++ s).drop (G.quoteL a).length = s := by simp
    rw [hd]
    have := tk_shift (all_of h) (G.quoteL a).length
    rw [show 0 + (G.quoteL a).length + skipL false s = skipL false s + (G.quoteL a).length by omega]
    exact this)
  rw [Nat.zero_add] at hs
  exact hs

theorem quoted_bad {a s : List UInt8} {q : Nat} (h : toksL s = .error q) : toksL (G.quoteL a ++ s) = .error (q + (G.quoteL a).length) := by
  have h1 := quote_one a s
  have hk := one_skip h1
  refine of_bad ?_
  unfold Bad
  rw [hk, List.drop_zero]
  refine Er.step 0 (G.quoteL a ++ s) 4 a (G.quoteL a).length _ (quote_ne a s) h1 ?_
  have hd : (G.quoteL a ++ s).drop (G.quoteL a).length = s := by simp
  rw [hd]
  have := er_shift (bad_of h) (G.quoteL a).length
  rw [show 0 + (G.quoteL a).length + skipL false s = skipL false s + (G.quoteL a).length by omega]
  exact this

theorem skip_app (b : Bool) (u v : List UInt8) : skipL b (u ++ 10 :: v) = if skipL b u = u.length then u.length + 1 + skipL false v else skipL b u := by
  induction u generalizing b with
  | nil =>
    cases b
    · have h1 : skipL false ([] : List UInt8) = ([] : List UInt8).length := rfl
      have h2 : skipL false ([] ++ 10 :: v) = skipL false v + 1 := by rw [List.nil_append, skipL, if_pos (by decide)]
      rw [if_pos h1, h2]
      simp
      omega
    · have h1 : skipL true ([] : List UInt8) = ([] : List UInt8).length := rfl
      have h2 : skipL true ([] ++ 10 :: v) = skipL false v + 1 := by rw [List.nil_append, skipL, if_pos (by decide)]
      rw [if_pos h1, h2]
      simp
      omega
  | cons c u ih =>
    rw [List.cons_append]
    cases b
    · rw [skipL, skipL]
      split
      · rw [ih]
        simp only [List.length_cons]
        split <;> split <;> omega
      · split
        · rw [ih]
          simp only [List.length_cons]
          split <;> split <;> omega
        · rw [if_neg (by simp)]
    · rw [skipL, skipL]
      split
      · rw [ih]
        simp only [List.length_cons]
        split <;> split <;> omega
      · rw [ih]
        simp only [List.length_cons]
        split <;> split <;> omega

theorem cut {p : Nat} {l : List UInt8} {r : List Tok} (h : Tk p l r) {b : List UInt8} {m : List Tok} (hm : All b m) : ∀ (u : List UInt8) (at_ A : Nat), p = at_ + skipL false u → l = u.drop (skipL false u) → at_ + u.length = A →
    Tk (at_ + skipL false (u ++ 10 :: b)) ((u ++ 10 :: b).drop (skipL false (u ++ 10 :: b))) (r.dropLast ++ m.map (shift (A + 1))) := by
  induction h with
  | done p =>
    intro u at_ A hp hl hA
    have hle := skipL_le false u
    have h2 : u.length ≤ skipL false u := by
      have := congrArg List.length hl
      simp at this
      omega
    have he : skipL false u = u.length := by omega
    rw [skip_app, if_pos he]
    have hd : (u ++ 10 :: b).drop (u.length + 1 + skipL false b) = b.drop (skipL false b) := by
      rw [List.drop_append, List.drop_eq_nil_of_le (by omega), List.nil_append, show u.length + 1 + skipL false b - u.length = skipL false b + 1 by omega, List.drop_succ_cons]
    rw [hd]
    have := tk_shift hm (A + 1)
    rw [show at_ + (u.length + 1 + skipL false b) = skipL false b + (A + 1) by omega]
    exact this
  | step p l k x n r hl ho hr ih =>
    intro u at_ A hp hlu hA
    have hle := skipL_le false u
    have hlen : l.length = u.length - skipL false u := by rw [hlu, List.length_drop]
    have hpos := List.length_pos_iff.2 hl
    obtain ⟨_, _, hn1, hnl⟩ := oneL_facts ho
    rw [skip_app, if_neg (by omega), List.drop_append_of_le_length hle, ← hlu, List.dropLast_cons_of_ne_nil (tk_ne hr), List.cons_append, ← hp]
    have h2 := oneL_app (m := b) (Or.inl rfl) hl ho
    refine Tk.step p (l ++ 10 :: b) k x n _ (by simp [hl]) h2 ?_
    rw [List.drop_append_of_le_length hnl]
    exact ih (l.drop n) (p + n) A rfl rfl (by rw [List.length_drop]; omega)

theorem cuts {a b : List UInt8} {l m : List Tok} (ha : toksL a = .ok l) (hb : toksL b = .ok m) : toksL (a ++ 10 :: b) = .ok (l.dropLast ++ m.map (shift (a.length + 1))) := by
  have h := cut (all_of ha) (all_of hb) a 0 a.length (by simp) rfl (by simp)
  refine of_all ?_
  unfold All
  rw [Nat.zero_add] at h
  exact h

end Go.Proofs.YtfmmhmkaphbmpaaDoor.L
