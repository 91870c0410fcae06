/-
  Plain lists of bytes, no program: how long texts and what is joined of them may be. No conditions but those that each lemma names.
-/
import Derived.Test.YtfmmhmkaphbmpaaDoorLexY
namespace Go.Proofs.YtfmmhmkaphbmpaaDoor.L
open Go

theorem unqF_text (f : Nat) : ∀ (p : Nat) (acc l : List UInt8) (x : List UInt8 × Nat), G.unqF f p acc l = some x → x.1.length + p ≤ acc.length + x.2 := by
  induction f with
  | zero => intro p acc l x h; cases h
  | succ f ih =>
    intro p acc l x h
    rw [G.unqF] at h
    split at h
    · cases h
    rename_i hl
    split at h
    · cases h
      simp
    split at h
    · cases h
    split at h
    · rename_i h92
      split at h
      · cases h
      rename_i hne
      obtain ⟨_, _, hor⟩ := G.escL_facts l (by omega)
      rcases hor with h0 | ⟨h2, hle, _⟩
      · exact absurd h0 hne
      · have := ih _ _ _ _ h
        rw [List.length_append] at this
        simp only [List.length_cons, List.length_nil] at this
        omega
    · have := ih _ _ _ _ h
      rw [List.length_append, List.length_take] at this
      omega

theorem one_len {l : List UInt8} {k n : Nat} {x : List UInt8} (h : oneL l = some (k, x, n)) : x.length ≤ n := by
  by_cases hk : k = 4
  · rcases oneL_ways h with ⟨_, h34, hu⟩ | ⟨h5, _⟩ | ⟨_, _, _, _, _, _, h4⟩
    · unfold G.unqL at hu
      rw [if_pos h34] at hu
      have := unqF_text _ _ _ _ _ hu
      simp at this
      omega
    · omega
    · exact absurd hk h4
  · rw [one_text h hk, List.length_take]
    omega

theorem piece_len {l : List UInt8} {k n : Nat} {x : List UInt8} (h : oneL l = some (k, x, n)) : (pieceT ((k : Int), x)).length ≤ 4 * n + 2 := by
  have h1 := one_len h
  have h2 := quote_len x
  unfold pieceT
  split
  · show (G.quoteL x).length ≤ _
    omega
  · show x.length ≤ _
    omega

theorem join_len {p : Nat} {l : List UInt8} {r : List Tok} (h : Tk p l r) : (∀ k, (joinT ((r.map kt).take k)).length ≤ 7 * l.length) ∧ ∀ t ∈ r.map kt, t.2.length ≤ l.length := by
  induction h with
  | done p =>
    refine ⟨fun k => ?_, ?_⟩
    · cases k with
      | zero => simp [joinT]
      | succ k => simp [joinT, kt, pieceT]
    · intro t ht
      simp [kt] at ht
      simp [ht]
  | step p l k x n r hl ho hr ih =>
    obtain ⟨ih1, ih2⟩ := ih
    obtain ⟨_, _, h1, h2⟩ := oneL_facts ho
    have hp := piece_len ho
    have hx := one_len ho
    simp only [List.length_drop] at ih1 ih2
    refine ⟨fun j => ?_, ?_⟩
    · cases j with
      | zero => simp [joinT]
      | succ j =>
        rw [List.map_cons, List.take_succ_cons, joinT, List.length_append]
        have hj := ih1 j
        have e : pieceT (kt ⟨k, x, p, p + n⟩) = pieceT ((k : Int), x) := rfl
        rw [e]
        split
        · simp
          omega
        · simp only [List.length_cons]
          omega
    · intro t ht
      rw [List.map_cons, List.mem_cons] at ht
      rcases ht with rfl | ht
      · show x.length ≤ l.length
        omega
      · have := ih2 t ht
        omega

theorem join_all {l : List UInt8} {r : List Tok} (h : All l r) : (∀ k, (joinT ((r.map kt).take k)).length ≤ 7 * l.length) ∧ ∀ t ∈ r.map kt, t.2.length ≤ l.length := by
  obtain ⟨h1, h2⟩ := join_len h
  simp only [List.length_drop] at h1 h2
  exact ⟨fun k => Nat.le_trans (h1 k) (by omega), fun t ht => Nat.le_trans (h2 t ht) (by omega)⟩

/-- Tokens that are the same but for their places. -/
theorem kt_get {r r2 : List Tok} (h : r2.map kt = r.map kt) : r2.length = r.length ∧ ∀ (i : Nat) (h1 : i < r.length) (h2 : i < r2.length), r2[i].kind = r[i].kind ∧ r2[i].text = r[i].text := by
  have hl : r2.length = r.length := by simpa using congrArg List.length h
  refine ⟨hl, fun i h1 h2 => ?_⟩
  have e := congrArg (fun l => l[i]?) h
  simp only [List.getElem?_map, List.getElem?_eq_getElem h1, List.getElem?_eq_getElem h2, Option.map_some, Option.some.injEq, kt, Prod.mk.injEq] at e
  exact ⟨by exact_mod_cast e.1, e.2⟩

end Go.Proofs.YtfmmhmkaphbmpaaDoor.L
