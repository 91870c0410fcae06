/-
  Plain lists of bytes, no program: what is joined is told again; what a token's first byte says of its kind; quoted texts and texts behind one another. No conditions but those that each lemma names.
-/
import Derived.Test.YtfmmhmkaphbmpaaDoorLexX
import Derived.Test.YtfmmhmkaphbmpaaDoorLexP
namespace Go.Proofs.YtfmmhmkaphbmpaaDoor
open Go

def pieceT (t : Int × List UInt8) : List UInt8 := if t.1 = 4 then G.quoteL t.2 else t.2
/-- Texts joined by blanks. -/
def joinT : List (Int × List UInt8) → List UInt8
  | [] => []
  | t :: r => pieceT t ++ (if r = [] then [] else 32 :: joinT r)

theorem joinT_snoc (l : List (Int × List UInt8)) (t : Int × List UInt8) : joinT (l ++ [t]) = joinT l ++ ((if l = [] then [] else [32]) ++ pieceT t) := by
  induction l with
  | nil => simp [joinT]
  | cons u r ih =>
    rw [List.cons_append, joinT, joinT, ih]
    by_cases hr : r = []
    · subst hr
      simp [joinT]
    · simp [hr]

theorem quote_len (x : List UInt8) : (G.quoteL x).length ≤ 4 * x.length + 2 := by
  have := G.quoteF_len x.length x
  simp [G.quoteL]
  omega
end Go.Proofs.YtfmmhmkaphbmpaaDoor

namespace Go.Proofs.YtfmmhmkaphbmpaaDoor.L
open Go

def kt (t : Tok) : Int × List UInt8 := (t.kind, t.text)

theorem run_take (p : UInt8 → Bool) (l : List UInt8) : runL p (l.take (runL p l)) = runL p l := by
  induction l with
  | nil => rfl
  | cons c r ih =>
    by_cases h : p c = true
    · rw [runL, if_pos h, List.take_succ_cons, runL, if_pos h, ih]
    · rw [runL, if_neg h, List.take_zero, runL]

theorem sign_one : ∀ g ∈ signsL, oneL g = some (5, g, g.length) := by
  intro g hg
  simp only [signsL, List.mem_cons, List.not_mem_nil, or_false] at hg
  rcases hg with rfl | rfl | rfl | rfl | rfl | rfl | rfl | rfl | rfl | rfl | rfl | rfl | rfl | rfl | rfl | rfl | rfl | rfl | rfl | rfl | rfl | rfl | rfl | rfl <;> rfl

/-- The three ways of a token. -/
theorem oneL_ways {l : List UInt8} {k n : Nat} {x : List UInt8} (h : oneL l = some (k, x, n)) :
    (k = 4 ∧ G.at0 l 0 = 34 ∧ G.unqL l = some (x, n)) ∨ (k = 5 ∧ G.at0 l 0 ≠ 34 ∧ x = signL l ∧ x ≠ [] ∧ n = x.length) ∨
    (G.at0 l 0 ≠ 34 ∧ signL l = [] ∧ n = runL goesB l ∧ x = l.take n ∧ k = kindL x ∧ k ≠ 0 ∧ k ≠ 4) := by
  unfold oneL at h
  split at h
  · rename_i h34
    split at h
    · rename_i y hy
      cases h
      exact Or.inl ⟨rfl, h34, hy⟩
    · cases h
  rename_i n34
  split at h
  · rename_i hs
    cases h
    exact Or.inr (Or.inl ⟨rfl, n34, rfl, hs, rfl⟩)
  rename_i hs
  split at h
  · cases h
  · rename_i hk
    cases h
    refine Or.inr (Or.inr ⟨n34, by simpa using hs, rfl, rfl, rfl, hk, ?_⟩)
    unfold kindL
    split
    · omega
    split
    · omega
    split
    · omega
    split <;> omega

theorem one_text {l : List UInt8} {k n : Nat} {x : List UInt8} (h : oneL l = some (k, x, n)) (hk : k ≠ 4) : x = l.take n := by
  rcases oneL_ways h with ⟨h4, _⟩ | ⟨_, _, hx, hne, hn⟩ | ⟨_, _, _, hx, _⟩
  · exact absurd h4 hk
  · rcases firstL_mem signsL l with h3 | ⟨_, h3⟩
    · exact absurd (hx.trans h3) hne
    · rw [hn]
      have h4 : x <+: l := by rw [hx]; exact h3
      exact List.prefix_iff_eq_take.1 h4
  · exact hx

theorem word_one {x : List UInt8} (hk : kindL x ≠ 0) (hr : runL goesB x = x.length) (h34 : G.at0 x 0 ≠ 34) : oneL x = some (kindL x, x, x.length) := by
  have hp := kindL_pos hk
  have hs : ¬ signL x ≠ [] := fun hs => by
    have := sign_goes hs
    omega
  unfold oneL
  rw [if_neg h34, if_neg hs, hr, List.take_length, if_neg hk]

theorem one_piece {l : List UInt8} {k n : Nat} {x : List UInt8} (h : oneL l = some (k, x, n)) :
    oneL (pieceT ((k : Int), x)) = some (k, x, (pieceT ((k : Int), x)).length) ∧ pieceT ((k : Int), x) ≠ [] := by
  rcases oneL_ways h with ⟨rfl, _, _⟩ | ⟨rfl, _, hx, hne, _⟩ | ⟨h34, _, hn, hx, hk, hk0, hk4⟩
  · have e : pieceT (((4 : Nat) : Int), x) = G.quoteL x := if_pos rfl
    rw [e]
    refine ⟨?_, by simp [G.quoteL]⟩
    unfold oneL
    have h0 : G.at0 (G.quoteL x) 0 = 34 := rfl
    have ht := G.quoteL_told x []
    rw [List.append_nil] at ht
    rw [if_pos h0, ht]
  · have e : pieceT (((5 : Nat) : Int), x) = x := if_neg (by show ¬ ((5 : Nat) : Int) = 4; decide)
    rw [e]
    refine ⟨?_, hne⟩
    rcases firstL_mem signsL l with h3 | ⟨h3, _⟩
    · exact absurd (hx.trans h3) hne
    · rw [hx]
      exact sign_one _ h3
  · have e : pieceT ((k : Int), x) = x := if_neg (by show ¬ ((k : Int) = 4); omega)
    rw [e]
    have hp : 0 < x.length := kindL_pos (by rw [← hk]; exact hk0)
    have hr : runL goesB x = x.length := by
      rw [hx, hn, run_take, List.length_take]
      have := runL_le goesB l
      omega
    have h0 : G.at0 x 0 = G.at0 l 0 := by
      have h1 := List.take_append_drop n l
      rw [← hx] at h1
      rw [← h1]
      exact (at0_app hp).symm
    rw [hk]
    exact ⟨word_one (by rw [← hk]; exact hk0) hr (by rw [h0]; exact h34), List.length_pos_iff.1 hp⟩

theorem one_skip {l : List UInt8} {o : Nat × List UInt8 × Nat} (h : oneL l = some o) : skipL false l = 0 := by
  cases l with
  | nil => rfl
  | cons c r =>
    obtain ⟨k, x, n⟩ := o
    by_cases hb : blankB c = true ∨ c.toNat = 35
    · exfalso
      have hc : c = 32 ∨ c = 9 ∨ c = 10 ∨ c = 35 := by
        rcases hb with hb | hb
        · unfold blankB at hb
          simp at hb
          rcases hb with (hb | hb) | hb
          · exact Or.inl (UInt8.toNat_inj.1 hb)
          · exact Or.inr (Or.inl (UInt8.toNat_inj.1 hb))
          · exact Or.inr (Or.inr (Or.inl (UInt8.toNat_inj.1 hb)))
        · exact Or.inr (Or.inr (Or.inr (UInt8.toNat_inj.1 hb)))
      have hn34 : G.at0 (c :: r) 0 ≠ 34 := by
        show c.toNat ≠ 34
        rcases hc with rfl | rfl | rfl | rfl <;> decide
      have hs : signL (c :: r) = [] := by
        have hh : ∀ g ∈ signsL, ∃ d t, g = d :: t ∧ d ≠ c := by
          intro g hg
          simp only [signsL, List.mem_cons, List.not_mem_nil, or_false] at hg
          rcases hg with rfl | rfl | rfl | rfl | rfl | rfl | rfl | rfl | rfl | rfl | rfl | rfl | rfl | rfl | rfl | rfl | rfl | rfl | rfl | rfl | rfl | rfl | rfl | rfl <;>
            (refine ⟨_, _, rfl, ?_⟩; rcases hc with rfl | rfl | rfl | rfl <;> decide)
        rcases firstL_mem signsL (c :: r) with h3 | ⟨h3, h4⟩
        · exact h3
        · obtain ⟨d, t, hd, hne⟩ := hh _ h3
          rw [hd] at h4
          obtain ⟨u, hu⟩ := h4
          injection hu with hu _
          exact absurd hu hne
      have hg : runL goesB (c :: r) = 0 := by
        have : goesB c = false := by rcases hc with rfl | rfl | rfl | rfl <;> decide
        simp [runL, this]
      unfold oneL at h
      rw [if_neg hn34, if_neg (by rw [hs]; simp), hg, List.take_zero, if_pos (show kindL [] = 0 by decide)] at h
      cases h
    · have h1 : ¬ blankB c = true := fun hh => hb (Or.inl hh)
      have h2 : ¬ c.toNat = 35 := fun hh => hb (Or.inr hh)
      rw [skipL, if_neg h1, if_neg h2]

theorem tk_ne {p : Nat} {l : List UInt8} {r : List Tok} (h : Tk p l r) : r ≠ [] := by
  cases h <;> simp

theorem back {p : Nat} {l : List UInt8} {r : List Tok} (h : Tk p l r) : skipL false (joinT ((r.map kt).dropLast)) = 0 ∧ ∀ q, ∃ r2, Tk q (joinT ((r.map kt).dropLast)) r2 ∧ r2.map kt = r.map kt := by
  induction h with
  | done p => exact ⟨rfl, fun q => ⟨_, Tk.done q, rfl⟩⟩
  | step p l k x n r hl ho hr ih =>
    obtain ⟨hs, ih⟩ := ih
    obtain ⟨hp1, hp2⟩ := one_piece ho
    have hrn : r.map kt ≠ [] := by simpa using tk_ne hr
    have e : ((⟨k, x, p, p + n⟩ :: r : List Tok).map kt).dropLast = ((k : Int), x) :: (r.map kt).dropLast := by
      rw [List.map_cons, List.dropLast_cons_of_ne_nil hrn]
      rfl
    rw [e, joinT]
    generalize (r.map kt).dropLast = J at *
    generalize pieceT ((k : Int), x) = g at *
    by_cases hJ : J = []
    · subst hJ
      rw [if_pos rfl, List.append_nil]
      refine ⟨one_skip hp1, fun q => ?_⟩
      obtain ⟨r2, h2, h3⟩ := ih (q + g.length + skipL false (g.drop g.length))
      refine ⟨_, Tk.step q g k x g.length r2 hp2 hp1 ?_, by rw [List.map_cons, List.map_cons, h3]; rfl⟩
      rw [List.drop_length] at h2 ⊢
      exact h2
    · rw [if_neg hJ]
      have h1 := oneL_app (m := joinT J) (Or.inr rfl) hp2 hp1
      refine ⟨one_skip h1, fun q => ?_⟩
      have hd : (g ++ 32 :: joinT J).drop g.length = 32 :: joinT J := by simp
      have hsk : skipL false (32 :: joinT J) = 1 := by rw [skipL, if_pos (by decide), hs]
      obtain ⟨r2, h2, h3⟩ := ih (q + g.length + 1)
      refine ⟨_, Tk.step q (g ++ 32 :: joinT J) k x g.length r2 (by simp [hp2]) h1 ?_, by rw [List.map_cons, List.map_cons, h3]; rfl⟩
      rw [hd, hsk]
      exact h2

theorem back_all {l : List UInt8} {r : List Tok} (h : toksL l = .ok r) : ∃ r2, toksL (joinT ((r.map kt).dropLast)) = .ok r2 ∧ r2.map kt = r.map kt := by
  obtain ⟨hs, hb⟩ := back (all_of h)
  obtain ⟨r2, h2, h3⟩ := hb 0
  refine ⟨r2, of_all ?_, h3⟩
  unfold All
  rw [hs]
  exact h2

end Go.Proofs.YtfmmhmkaphbmpaaDoor.L
