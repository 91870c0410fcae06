/-
  Plain graphs, no program: the state of a walk in depth that keeps its path and how many links of each node it has taken; what is left at its end. No conditions but those that each lemma names.
-/
import Derived.Test.YtahaflapkdjmhaaGrK
namespace Go.Proofs.Ytahaflapkdjmhaa.Gr

/-- S: found, in order; P: the path; D: left, in order; tk: how many links were taken. -/
structure St (nx : Nat → List Nat) (n : Nat) (S P D : List Nat) (tk : Nat → Nat) : Prop where
  snd : S.Nodup
  slt : ∀ s ∈ S, s < n
  mem : ∀ i, i ∈ S ↔ i ∈ P ∨ i ∈ D
  dnd : D.Nodup
  off : ∀ i ∈ P, i ∉ D
  rise : P.Pairwise fun a b => S.idxOf a < S.idxOf b
  way : P.Pairwise fun a b => Rch nx a b
  tkl : ∀ i, tk i ≤ (nx i).length
  tkn : ∀ i, i ∉ S → tk i = 0
  took : ∀ i ∈ P, ∀ j (h : j < (nx i).length), j < tk i → (nx i)[j] ∈ S
  done : ∀ d ∈ D, ∀ k ∈ nx d, k ∈ S
  underP : ∀ i ∈ P, ∀ w ∈ D, S.idxOf i < S.idxOf w → Rch nx i w
  under : ∀ D1 i D2, D = D1 ++ i :: D2 → ∀ w ∈ D1, S.idxOf i < S.idxOf w → Rch nx i w
  shut : ∀ D1 f D2, D = D1 ++ f :: D2 → ∀ x ∈ D1 ++ [f], ∀ k ∈ nx x, S.idxOf f ≤ S.idxOf k → k ∈ D1 ++ [f]

theorem St.start (nx : Nat → List Nat) (n : Nat) : St nx n [] [] [] (fun _ => 0) where
  snd := by simp
  slt := by simp
  mem := by simp
  dnd := by simp
  off := by simp
  rise := List.Pairwise.nil
  way := List.Pairwise.nil
  tkl := fun _ => Nat.zero_le _
  tkn := fun _ _ => rfl
  took := by simp
  done := by simp
  underP := by simp
  under := fun D1 i D2 h => by simp at h
  shut := fun D1 f D2 h => by simp at h

theorem idx_old {S : List Nat} {a i : Nat} (h : a ∈ S) : (S ++ [i]).idxOf a = S.idxOf a := by
  rw [List.idxOf_append, if_pos h]
theorem idx_new {S : List Nat} {i : Nat} (h : i ∉ S) : (S ++ [i]).idxOf i = S.length := by
  rw [List.idxOf_append, if_neg h]
  simp
theorem idx_lt {S : List Nat} {a : Nat} (h : a ∈ S) : S.idxOf a < S.length := List.idxOf_lt_length_of_mem h
theorem idx_inj {S : List Nat} {a b : Nat} (ha : a ∈ S) (h : S.idxOf a = S.idxOf b) : a = b := by
  have h1 := List.getElem_idxOf (idx_lt ha)
  have hb : S.idxOf b < S.length := by rw [← h]; exact idx_lt ha
  have h2 := List.getElem_idxOf hb
  rw [← h1, ← h2]
  congr 1

/-- A node that was not found yet is found: from the path's end, or where there is none. -/
theorem St.enter {nx : Nat → List Nat} {n : Nat} {S P D : List Nat} {tk : Nat → Nat} (h : St nx n S P D tk) {i : Nat} (hi : i ∉ S) (hn : i < n) (hw : ∀ a ∈ P, Rch nx a i) : St nx n (S ++ [i]) (P ++ [i]) D tk := by
  have hP : ∀ a ∈ P, a ∈ S := fun a ha => (h.mem a).2 (Or.inl ha)
  have hD : ∀ a ∈ D, a ∈ S := fun a ha => (h.mem a).2 (Or.inr ha)
  have hnd : ∀ a ∈ D, ∀ k ∈ nx a, k ∈ S := h.done
  refine ⟨?_, ?_, ?_, h.dnd, ?_, ?_, ?_, h.tkl, ?_, ?_, ?_, ?_, ?_, ?_⟩
  · rw [List.nodup_append]
    exact ⟨h.snd, by simp, fun a ha b hb => by rw [List.mem_singleton] at hb; rintro rfl; exact hi (hb ▸ ha)⟩
  · intro s hs
    rcases List.mem_append.1 hs with h1 | h1
    · exact h.slt s h1
    · rw [List.mem_singleton.1 h1]; exact hn
  · intro a
    simp only [List.mem_append, List.mem_singleton, h.mem a]
    constructor
    · rintro ((h1 | h1) | h1)
      · exact Or.inl (Or.inl h1)
      · exact Or.inr h1
      · exact Or.inl (Or.inr h1)
    · rintro ((h1 | h1) | h1)
      · exact Or.inl (Or.inl h1)
      · exact Or.inr h1
      · exact Or.inl (Or.inr h1)
  · intro a ha
    rcases List.mem_append.1 ha with h1 | h1
    · exact h.off a h1
    · rw [List.mem_singleton.1 h1]; exact fun hd => hi (hD i hd)
  · rw [List.pairwise_append]
    refine ⟨?_, List.pairwise_singleton _ _, fun a ha b hb => ?_⟩
    · have := List.Pairwise.and_mem.1 h.rise
      exact this.imp fun {a b} ⟨h1, h2, h3⟩ => by rw [idx_old (hP a h1), idx_old (hP b h2)]; exact h3
    · rw [List.mem_singleton.1 hb, idx_old (hP a ha), idx_new hi]
      exact idx_lt (hP a ha)
  · rw [List.pairwise_append]
    exact ⟨h.way, List.pairwise_singleton _ _, fun a ha b hb => by rw [List.mem_singleton.1 hb]; exact hw a ha⟩
  · intro a ha
    exact h.tkn a fun h1 => ha (List.mem_append_left _ h1)
  · intro a ha j hj hjt
    rcases List.mem_append.1 ha with h1 | h1
    · exact List.mem_append_left _ (h.took a h1 j hj hjt)
    · rw [List.mem_singleton] at h1
      subst h1
      rw [h.tkn a hi] at hjt
      omega
  · exact fun d hd k hk => List.mem_append_left _ (h.done d hd k hk)
  · intro a ha w hw2 hlt
    rcases List.mem_append.1 ha with h1 | h1
    · rw [idx_old (hP a h1), idx_old (hD w hw2)] at hlt
      exact h.underP a h1 w hw2 hlt
    · rw [List.mem_singleton.1 h1, idx_new hi, idx_old (hD w hw2)] at hlt
      have := idx_lt (hD w hw2)
      omega
  · intro D1 a D2 he w hw2 hlt
    have ha : a ∈ D := by rw [he]; simp
    have hwD : w ∈ D := by rw [he]; exact List.mem_append_left _ hw2
    rw [idx_old (hD a ha), idx_old (hD w hwD)] at hlt
    exact h.under D1 a D2 he w hw2 hlt
  · intro D1 f D2 he x hx k hk hle
    have hf : f ∈ D := by rw [he]; simp
    have hxD : x ∈ D := by
      rw [he]
      rcases List.mem_append.1 hx with h1 | h1
      · exact List.mem_append_left _ h1
      · rw [List.mem_singleton.1 h1]; simp
    rw [idx_old (hD f hf), idx_old (hnd x hxD k hk)] at hle
    exact h.shut D1 f D2 he x hx k hk hle

/-- The next link of the path's end is taken: where it leads to was found. -/
theorem St.take {nx : Nat → List Nat} {n : Nat} {S P D : List Nat} {tk : Nat → Nat} (h : St nx n S P D tk) {i : Nat} (hi : i ∈ S) (ht : tk i < (nx i).length) (hs : (nx i)[tk i] ∈ S) : St nx n S P D (fun a => if a = i then tk i + 1 else tk a) where
  snd := h.snd
  slt := h.slt
  mem := h.mem
  dnd := h.dnd
  off := h.off
  rise := h.rise
  way := h.way
  tkl := fun a => by
    split
    · rename_i e; subst e; omega
    · exact h.tkl a
  tkn := fun a ha => by
    have : a ≠ i := fun e => ha (e ▸ hi)
    rw [if_neg this]
    exact h.tkn a ha
  took := fun a ha j hj hjt => by
    by_cases e : a = i
    · subst e
      rw [if_pos rfl] at hjt
      rcases Nat.lt_or_ge j (tk a) with h1 | h1
      · exact h.took a ha j hj h1
      · have : j = tk a := by omega
        subst this
        exact hs
    · rw [if_neg e] at hjt
      exact h.took a ha j hj hjt
  done := h.done
  underP := h.underP
  under := h.under
  shut := h.shut

/-- All links of the path's end were taken: it is left. -/
theorem St.pop {nx : Nat → List Nat} {n : Nat} {S P D : List Nat} {tk : Nat → Nat} {i : Nat} (h : St nx n S (P ++ [i]) D tk) (ht : tk i = (nx i).length) : St nx n S P (D ++ [i]) tk := by
  have hiP : i ∈ P ++ [i] := by simp
  have hiS : i ∈ S := (h.mem i).2 (Or.inl hiP)
  have hall : ∀ k ∈ nx i, k ∈ S := fun k hk => by
    obtain ⟨j, hj, rfl⟩ := List.getElem_of_mem hk
    exact h.took i hiP j hj (by omega)
  have hr := List.pairwise_append.1 h.rise
  have hwy := List.pairwise_append.1 h.way
  have hdone : ∀ d ∈ D ++ [i], ∀ k ∈ nx d, k ∈ S := fun d hd k hk => by
    rcases List.mem_append.1 hd with h1 | h1
    · exact h.done d h1 k hk
    · rw [List.mem_singleton] at h1
      subst h1
      exact hall k hk
  refine ⟨h.snd, h.slt, ?_, ?_, ?_, hr.1, hwy.1, h.tkl, h.tkn, fun a ha => h.took a (List.mem_append_left _ ha), hdone, ?_, ?_, ?_⟩
  · intro a
    rw [h.mem a, List.mem_append, List.mem_append]
    constructor
    · rintro ((h1 | h1) | h1)
      · exact Or.inl h1
      · exact Or.inr (Or.inr h1)
      · exact Or.inr (Or.inl h1)
    · rintro (h1 | h1 | h1)
      · exact Or.inl (Or.inl h1)
      · exact Or.inr h1
      · exact Or.inl (Or.inr h1)
  · rw [List.nodup_append]
    exact ⟨h.dnd, by simp, fun a ha b hb => by rw [List.mem_singleton] at hb; rintro rfl; exact h.off i hiP (hb ▸ ha)⟩
  · intro a ha hd
    rcases List.mem_append.1 hd with h1 | h1
    · exact h.off a (List.mem_append_left _ ha) h1
    · rw [List.mem_singleton] at h1
      subst h1
      have := hr.2.2 a ha a (by simp)
      omega
  · intro a ha w hw hlt
    rcases List.mem_append.1 hw with h1 | h1
    · exact h.underP a (List.mem_append_left _ ha) w h1 hlt
    · rw [List.mem_singleton.1 h1]
      exact hwy.2.2 a ha i (by simp)
  · intro D1 a D2 he w hw hlt
    rcases List.eq_nil_or_concat D2 with h0 | ⟨D3, z, h0⟩
    · subst h0
      have hh := List.append_inj' he rfl
      injection hh.2 with h3
      rw [hh.1] at h
      subst h3
      exact h.underP i hiP w (hh.1 ▸ hw) hlt
    · subst h0
      have e2 : D ++ [i] = (D1 ++ a :: D3) ++ [z] := by rw [he]; simp
      have hh := List.append_inj' e2 rfl
      exact h.under D1 a D3 hh.1 w hw hlt
  · intro D1 f D2 he x hx k hk hle
    rcases List.eq_nil_or_concat D2 with h0 | ⟨D3, z, h0⟩
    · subst h0
      have hh := List.append_inj' he rfl
      injection hh.2 with h3
      subst h3
      have hxD : x ∈ D ++ [i] := by rw [hh.1]; exact hx
      have hkS := hdone x hxD k hk
      rw [← hh.1]
      rcases (h.mem k).1 hkS with h4 | h4
      · rcases List.mem_append.1 h4 with h5 | h5
        · have := hr.2.2 k h5 i (by simp)
          omega
        · exact List.mem_append_right _ h5
      · exact List.mem_append_left _ h4
    · subst h0
      have e2 : D ++ [i] = (D1 ++ f :: D3) ++ [z] := by rw [he]; simp
      have hh := List.append_inj' e2 rfl
      exact h.shut D1 f D3 hh.1 x hx k hk hle

/-- Where the path is empty and all nodes are found, the walk has left all. -/
theorem St.end_ {nx : Nat → List Nat} {n : Nat} {S D : List Nat} {tk : Nat → Nat} (h : St nx n S [] D tk) (ha : ∀ i, i < n → i ∈ S) : Left nx n (fun i => S.idxOf i) D where
  nodup := h.dnd
  all := fun i => ⟨fun hi => by
    rcases (h.mem i).1 (ha i hi) with h1 | h1
    · cases h1
    · exact h1, fun hi => h.slt i ((h.mem i).2 (Or.inr hi))⟩
  inj := fun i hi j _ e => idx_inj ((h.mem i).2 (Or.inr hi)) e
  shut := fun D1 f D2 he x hx _ k hk hle => h.shut D1 f D2 he x hx k hk hle
  under := h.under

end Go.Proofs.Ytahaflapkdjmhaa.Gr
