/-
  Plain lists: what the least labels, one behind the other, make: the one rising order, if there is one. No conditions but those that each lemma names.
-/
import Derived.Test.YtimlblbmfckeiaaDoorTyZ
import Derived.Test.YtimlblbmfckeiaaDoorTyQ
namespace Go.Proofs.YtimlblbmfckeiaaDoor.L
open Go

theorem nodup_sub : ∀ (l : List Nat), l.Nodup → ∀ js : List Nat, (∀ x ∈ l, x ∈ js) → l.length ≤ js.length
  | [], _, _, _ => Nat.zero_le _
  | a :: l, hn, js, h => by
    have ha : a ∈ js := h a (by simp)
    have hn' := List.nodup_cons.1 hn
    have := nodup_sub l hn'.2 (js.erase a) (fun x hx => by
      have hne : x ≠ a := by rintro rfl; exact hn'.1 hx
      exact (List.mem_erase_of_ne hne).2 (h x (by simp [hx])))
    have hl := List.length_erase_of_mem ha
    have hp : 0 < js.length := List.length_pos_of_mem ha
    simp only [List.length_cons]
    omega

theorem perm_of_nodup {n : Nat} {js : List Nat} (hn : js.Nodup) (hl : js.length = n) (hlt : ∀ x ∈ js, x < n) : js.Perm (List.range n) := by
  induction n generalizing js with
  | zero =>
    have : js = [] := List.eq_nil_of_length_eq_zero hl
    subst this
    exact List.Perm.refl _
  | succ n ih =>
    have hm : n ∈ js := by
      rcases Decidable.em (n ∈ js) with h | h
      · exact h
      · have := nodup_sub js hn (List.range n) (fun x hx => by
          have h1 := hlt x hx
          have h2 : x ≠ n := by rintro rfl; exact h hx
          exact List.mem_range.2 (by omega))
        rw [List.length_range] at this
        omega
    have hp := List.perm_cons_erase hm
    have hn2 : (js.erase n).Nodup := hn.erase n
    have hl2 : (js.erase n).length = n := by rw [List.length_erase_of_mem hm, hl]; rfl
    have := ih hn2 hl2 (fun x hx => by
      have h1 := hlt x (List.mem_of_mem_erase hx)
      have h2 : x ≠ n := by rintro rfl; exact (hn.mem_erase_iff.1 hx).1 rfl
      omega)
    rw [List.range_succ]
    exact hp.trans ((this.cons n).trans (List.perm_append_singleton n (List.range n)).symm)

/-- How far the least labels were taken: the numbers so far, the last label. -/
structure Sel (ss : List ByteArray) (js : List Nat) (done : ByteArray) : Prop where
  rise : Rise ss js
  lt : ∀ x ∈ js, x < ss.length
  cov : ∀ i, i < ss.length → ¬ Lib.compareBytes done.data.toList (labL ss i) < 0 → ∃ j ∈ js, labL ss j = labL ss i
  top : ∀ j ∈ js, ¬ Lib.compareBytes done.data.toList (labL ss j) < 0

theorem cB_nil {s : List UInt8} (h : s ≠ []) : Lib.compareBytes [] s < 0 := by
  cases s with
  | nil => exact absurd rfl h
  | cons a r => simp [Lib.compareBytes]

theorem Sel.start (ss : List ByteArray) (h : ∀ i, i < ss.length → labL ss i ≠ []) : Sel ss [] ⟨#[]⟩ where
  rise := List.Pairwise.nil
  lt := by simp
  cov := fun i hi hn => absurd (cB_nil (h i hi)) hn
  top := by simp

theorem Rise.nodup {ss : List ByteArray} {js : List Nat} (h : Rise ss js) : js.Nodup := by
  unfold Rise at h
  exact h.imp (fun {a b} hab => by rintro rfl; rw [cB_self] at hab; omega)

theorem Rise.inj {ss : List ByteArray} {js : List Nat} (h : Rise ss js) {a b : Nat} (ha : a ∈ js) (hb : b ∈ js) (he : labL ss a = labL ss b) : a = b := by
  unfold Rise at h
  rw [List.pairwise_iff_getElem] at h
  obtain ⟨i, hi, rfl⟩ := List.getElem_of_mem ha
  obtain ⟨j, hj, rfl⟩ := List.getElem_of_mem hb
  rcases Nat.lt_trichotomy i j with h1 | h1 | h1
  · have := h i j hi hj h1
    rw [he, cB_self] at this
    omega
  · subst h1; rfl
  · have := h j i hj hi h1
    rw [he, cB_self] at this
    omega

/-- The least label behind the last one is taken. -/
theorem Sel.step {ss : List ByteArray} {js : List Nat} {done : ByteArray} (h : Sel ss js done) {b : Nat} (hb : b < ss.length) (hd : Lib.compareBytes done.data.toList (labL ss b) < 0)
    (hm : ∀ i, i < ss.length → Lib.compareBytes done.data.toList (labL ss i) < 0 → ¬ Lib.compareBytes (labL ss i) (labL ss b) < 0) : Sel ss (js ++ [b]) (ss.getD b ⟨#[]⟩) where
  rise := by
    have hr := h.rise
    unfold Rise at hr ⊢
    rw [List.pairwise_append]
    refine ⟨hr, List.pairwise_singleton _ _, fun x hx y hy => ?_⟩
    rw [List.mem_singleton.1 hy]
    have h1 := h.top x hx
    rcases Int.lt_or_le (Lib.compareBytes (labL ss x) (labL ss b)) 0 with h2 | h2
    · exact h2
    · exfalso
      have h3 := cB_anti done.data.toList (labL ss x)
      have h4 : ¬ Lib.compareBytes (labL ss x) (labL ss b) < 0 := by omega
      exact cB_ntrans h1 h4 hd
  lt := fun x hx => by
    rcases List.mem_append.1 hx with hx | hx
    · exact h.lt x hx
    · rw [List.mem_singleton.1 hx]; exact hb
  cov := fun i hi hn => by
    have hn' : ¬ Lib.compareBytes (labL ss b) (labL ss i) < 0 := hn
    by_cases hdi : Lib.compareBytes done.data.toList (labL ss i) < 0
    · have h1 := hm i hi hdi
      have h2 := cB_anti (labL ss i) (labL ss b)
      exact ⟨b, by simp, cB_zero (by omega)⟩
    · obtain ⟨j, hj, e⟩ := h.cov i hi hdi
      exact ⟨j, by simp [hj], e⟩
  top := fun j hj => by
    show ¬ Lib.compareBytes (labL ss b) (labL ss j) < 0
    rcases List.mem_append.1 hj with hj | hj
    · intro hlt
      exact h.top j hj (cB_trans hd hlt)
    · rw [List.mem_singleton.1 hj, cB_self]; omega

/-- No label is left though numbers are: a label is there twice. -/
theorem Sel.stuck {ss : List ByteArray} {js : List Nat} {done : ByteArray} (h : Sel ss js done) (hl : js.length < ss.length) (hd : ∀ i, i < ss.length → ¬ Lib.compareBytes done.data.toList (labL ss i) < 0) :
    ¬ ∃ ks : List Nat, ks.Perm (List.range ss.length) ∧ Rise ss ks := by
  rintro ⟨ks, hp, hr⟩
  have hmem : ∀ i, i < ss.length → i ∈ ks := fun i hi => hp.mem_iff.2 (List.mem_range.2 hi)
  have := nodup_sub (List.range ss.length) List.nodup_range js (fun i hi => by
    have hi' := List.mem_range.1 hi
    obtain ⟨j, hj, e⟩ := h.cov i hi' (hd i hi')
    rw [← hr.inj (hmem j (h.lt j hj)) (hmem i hi') e]
    exact hj)
  rw [List.length_range] at this
  omega

theorem Sel.done {ss : List ByteArray} {js : List Nat} {done : ByteArray} (h : Sel ss js done) (hl : js.length = ss.length) : js.Perm (List.range ss.length) :=
  perm_of_nodup h.rise.nodup hl h.lt

end Go.Proofs.YtimlblbmfckeiaaDoor.L
