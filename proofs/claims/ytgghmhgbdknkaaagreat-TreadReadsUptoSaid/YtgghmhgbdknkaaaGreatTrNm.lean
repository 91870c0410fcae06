/-
  Plain lists: the names in what is read are no longer than the tokens' texts. No conditions but those that each lemma names.
-/
import Derived.Test.YtgghmhgbdknkaaaGreatMR4
import Derived.Test.YtgghmhgbdknkaaaGreatMR3
namespace Go.Proofs.YtgghmhgbdknkaaaGreat
open Go

def NamT (M : Nat) (t : T.Tr) : Prop := ∀ z ∈ t.flat, z.name.size ≤ M
def NamP (M : Nat) (A : T.P) : Prop := ∀ s t s', A s = .ok t s' → NamT M t

theorem nam_leaf (M : Nat) (k n : Int) : NamT M (T.leafT k n) := by
  intro z hz
  simp only [T.leafT, T.Tr.flat, L.Fo.flat, List.mem_singleton] at hz
  rw [hz]
  exact Nat.zero_le _
theorem nam_arr {M : Nat} {a b : T.Tr} (ha : NamT M a) (hb : NamT M b) : NamT M (T.arrT a b) := by
  intro z hz
  simp only [T.arrT, T.Tr.flat, L.Fo.flat, List.append_nil, List.mem_cons, List.mem_append] at hz
  rcases hz with rfl | rfl | hz | rfl | hz
  · exact Nat.zero_le _
  · exact ha _ (by simp [T.Tr.flat])
  · exact ha _ (by simp [T.Tr.flat, hz])
  · exact hb _ (by simp [T.Tr.flat])
  · exact hb _ (by simp [T.Tr.flat, hz])

theorem nam_row {M : Nat} {kind : Int} {l : List (ByteArray × T.Tr)} (h : ∀ p ∈ l, p.1.size ≤ M ∧ NamT M p.2) : NamT M (T.rowT kind l) := by
  intro z hz
  have hp := T.order_perm (l.map (·.1))
  rw [List.length_map] at hp
  simp only [T.rowT, T.Tr.flat, List.mem_cons] at hz
  rcases hz with rfl | hz
  · exact Nat.zero_le _
  · rw [T.foOf_flat] at hz
    obtain ⟨t, ht, hz⟩ := List.mem_flatMap.1 hz
    obtain ⟨i, hi, rfl⟩ := List.mem_map.1 ht
    have hi' : i < l.length := List.mem_range.1 (hp.mem_iff.1 hi)
    have hg : l.getD i (T.e0, (⟨0, T.e0, 0⟩, .nil)) = l[i] := by simp [List.getD, hi']
    rw [hg] at hz
    have hm := h _ (List.getElem_mem hi')
    simp only [T.named, T.Tr.flat, List.mem_cons] at hz
    rcases hz with rfl | hz
    · exact hm.1
    · exact hm.2 z (by simp [T.Tr.flat, hz])

theorem isLab_text {l : List T.Tk} {kind : Int} {p : Nat} {x : ByteArray} (h : T.isLab l kind p = some x) : x = (tokAt l p).text := by
  unfold T.isLab at h
  cases hl : l[p]? with
  | none => rw [hl] at h; cases h
  | some t =>
    rw [hl] at h
    rw [tokAt_some hl]
    simp only at h
    by_cases hc : (decide (t.kind = if kind = 6 then 1 else 2) && L.isLabel kind t.text) = true
    · rw [if_pos hc] at h
      injection h with h
      exact h.symm
    · rw [if_neg hc] at h
      cases h

theorem rowF_nam {l : List T.Tk} {M : Nat} (hM : ∀ p, (tokAt l p).text.size ≤ M) {A : T.P} (hA : NamP M A) {kind : Int} : ∀ (n : Nat) (acc : List (ByteArray × T.Tr)), (∀ p ∈ acc, p.1.size ≤ M ∧ NamT M p.2) → NamP M (T.rowF l A kind n acc) := by
  intro n
  induction n with
  | zero =>
    intro acc _ s t s' h
    unfold T.rowF at h
    split at h
    · cases h
    · split at h <;> cases h
  | succ n ih =>
    intro acc hacc s t s' h
    unfold T.rowF at h
    split at h
    · cases h
    · rename_i lb hlb
      split at h
      · cases h
      · obtain ⟨u, s1, h1, h⟩ := T.bind_ok h
        obtain ⟨x, s2, h2, h⟩ := T.bind_ok h
        have hx := hA _ x s2 h2
        have hnew : ∀ p ∈ acc ++ [(lb, x)], p.1.size ≤ M ∧ NamT M p.2 := fun p hp => by
          rcases List.mem_append.1 hp with hp | hp
          · exact hacc p hp
          · rw [List.mem_singleton.1 hp]
            exact ⟨by rw [isLab_text hlb]; exact hM _, hx⟩
        split at h
        · exact ih _ hnew _ _ _ h
        · obtain ⟨u, s3, h3, h⟩ := T.bind_ok h
          injection h with h4 h5
          subst h4
          exact nam_row hnew

theorem operF_nam {l : List T.Tk} {M : Nat} (hM : ∀ p, (tokAt l p).text.size ≤ M) {A : Option T.P} (hA : ∀ B, A = some B → NamP M B) : NamP M (T.operF l A) := by
  intro s t s' h
  unfold T.operF at h
  split at h
  · cases h
  · split at h
    · injection h with h1 h2
      subst h1
      exact nam_leaf _ _ _
    · split at h
      · split at h
        · cases h
        · rename_i B
          obtain ⟨x, s1, h1, h⟩ := T.bind_ok h
          obtain ⟨u, s2, h2, h⟩ := T.bind_ok h
          injection h with h3 h4
          subst h3
          exact hA B rfl _ x s1 h1
      · split at h
        · split at h
          · cases h
          · rename_i B
            split at h
            · injection h with h1 h2
              subst h1
              exact nam_row (by simp)
            · exact rowF_nam hM (hA B rfl) 50 [] (by simp) _ t s' h
        · split at h
          · split at h
            · cases h
            · rename_i B
              exact rowF_nam hM (hA B rfl) 50 [] (by simp) _ t s' h
          · split at h
            · cases h
            · injection h with h1 h2
              subst h1
              exact nam_leaf _ _ _

theorem wholeF_nam {l : List T.Tk} {M : Nat} (hM : ∀ p, (tokAt l p).text.size ≤ M) {A : Option T.P} (hA : ∀ B, A = some B → NamP M B) : NamP M (T.wholeF l A) := by
  intro s t s' h
  unfold T.wholeF at h
  obtain ⟨a, s1, h1, h⟩ := T.bind_ok h
  have g := operF_nam hM hA s a s1 h1
  split at h
  · cases A with
    | none => cases h
    | some B =>
      simp only at h
      obtain ⟨b, s2, h2, h⟩ := T.bind_ok h
      injection h with h3 h4
      subst h3
      exact nam_arr g (hA B rfl _ b s2 h2)
  · injection h with h3 h4
    subst h3
    exact g

theorem typeF_nam {l : List T.Tk} {M : Nat} (hM : ∀ p, (tokAt l p).text.size ≤ M) : ∀ d : Nat, NamP M (T.typeF l d)
  | 0 => wholeF_nam hM (fun B h => by cases h)
  | d + 1 => wholeF_nam hM (fun B h => by injection h with h; subst h; exact typeF_nam hM d)

theorem readF_nam {l : List T.Tk} {M : Nat} (hM : ∀ p, (tokAt l p).text.size ≤ M) {p site lv : Int} {t : T.Tr} {n : Nat} {ss : List T.Si} (h : T.readF l p site lv = .ok t n ss) : NamT M t := by
  obtain ⟨-, -, s1, hty, -⟩ := readF_ok h
  exact typeF_nam hM _ _ _ _ hty

end Go.Proofs.YtgghmhgbdknkaaaGreat
