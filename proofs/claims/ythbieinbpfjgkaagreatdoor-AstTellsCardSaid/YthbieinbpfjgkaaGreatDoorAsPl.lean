/-
  How long an expression's print is. No machine here. Conditions: sound parts, none a cast, names of at most 200 bytes, types of at most 60 nodes.
-/
import Derived.Test.YthbieinbpfjgkaaGreatDoorAsPp
import Derived.Test.YthbieinbpfjgkaaGreatDoorMA16
import Derived.Lib.ItoaLen
namespace Go.Proofs.YthbieinbpfjgkaaGreatDoor.E
open Go

theorem tyPL {t : List L.Nd} (hp : plain t = true) (hS : Short t) (h60 : t.length ≤ 60) : (L.tyP t).length ≤ 18000 := by
  obtain ⟨x, ks, rfl, hl, -, hok, -⟩ := (L.rightL_iff _).1 ((Bool.and_eq_true _ _).mp hp).1
  rw [L.tyP_eq hok]
  have := prT_len (p := false) hok hS
  simp at h60
  omega

theorem snd14 {p : Pt} (h : sound p = true) (k : p.kind = 14) : plain p.t = true ∧ plain p.u = true ∧ p.name = ⟨#[]⟩ ∧ p.bind = ⟨#[]⟩ ∧ p.many = 0 := by
  unfold sound at h
  simp only [k, Int.reduceEq, if_true, if_false, only, Bool.and_eq_true, decide_eq_true_eq, List.length_nil, List.length_eq_zero_iff] at h
  obtain ⟨a, b, -, c, d, e, -⟩ := h
  exact ⟨a, b, c, d, e⟩

theorem plain_ne {t : List L.Nd} (h : plain t = true) : t ≠ [] := by
  rintro rfl
  cases h

theorem plain14 {x : Pt} (h : Pr1 x) (k : x.kind = 2 ∨ x.kind = 4 ∨ x.kind = 5 ∨ x.kind = 12 ∨ x.kind = 13) : (L.tyP x.t).length ≤ 18000 := by
  have hp : plain x.t = true := by
    rcases k with k | k | k | k | k
    · exact (snd2 h.so (Or.inl k)).2.1
    · exact (snd2 h.so (Or.inr k)).2.1
    · exact (snd5 h.so k).2.2.1
    · exact (snd12 h.so k).2.1
    · exact (snd13 h.so k).1
  exact tyPL hp h.st h.lt

theorem first_len {x : Pt} (h : Pr1 x) : (firstP x).length ≤ 36500 := by
  have hkb := kind_bound h.so
  have n1 : x.name.data.toList.length ≤ 200 := by have := h.nm; simpa using this
  have n2 : x.bind.data.toList.length ≤ 200 := by have := h.bd; simpa using this
  have n3 : x.label.data.toList.length ≤ 200 := by have := h.lb; simpa using this
  have hk : x.kind = 0 ∨ x.kind = 1 ∨ x.kind = 2 ∨ x.kind = 3 ∨ x.kind = 4 ∨ x.kind = 5 ∨ x.kind = 6 ∨ x.kind = 7 ∨ x.kind = 8 ∨ x.kind = 9 ∨ x.kind = 10 ∨ x.kind = 11 ∨ x.kind = 12 ∨ x.kind = 13 ∨ x.kind = 14 := by omega
  rcases hk with k | k | k | k | k | k | k | k | k | k | k | k | k | k | k
  · obtain ⟨n, ht, -, -, -, -, -, hl⟩ := snd0 h.so k
    obtain ⟨-, e⟩ := lit_form k ht
    rw [pr_leaf (Or.inl k)] at e
    rw [e]
    split
    · split <;> simp
    · split
      · have := X.G.quoteF_len x.name.data.toList.length x.name.data.toList
        simp only [X.G.quoteL, List.length_append, List.length_cons, List.length_nil]
        omega
      · split
        · simp
        · have hs := h.so
          unfold sound litOK at hs
          rw [if_pos k, ht] at hs
          simp only at hs
          have hb : 0 ≤ x.num ∧ x.num ≤ 999999999999999999 := by
            rcases hl with q | q | q | q
            · obtain ⟨k1, -⟩ := q
              rw [if_pos k1] at hs
              simp only [Bool.and_eq_true, decide_eq_true_eq] at hs
              exact ⟨hs.2.1, hs.2.2.1⟩
            · omega
            · omega
            · omega
          have := Lib.itoa_length_le x.num (by omega) (by omega)
          omega
  · unfold firstP
    simp only [k, Int.reduceEq, if_true, if_false]
    omega
  · have := plain14 h (by omega)
    unfold firstP typedP
    simp only [k, Int.reduceEq, if_true, if_false, List.length_append, List.length_cons, List.length_nil]
    omega
  · unfold firstP
    simp [k]
  · have := plain14 h (by omega)
    unfold firstP typedP
    simp only [k, Int.reduceEq, if_true, if_false, or_false, List.length_append, List.length_cons, List.length_nil]
    omega
  · have := plain14 h (by omega)
    have := tyPL (snd5 h.so k).2.2.2.1 h.su h.lu
    unfold firstP typedP
    simp only [k, Int.reduceEq, if_true, if_false, or_false, List.length_append, List.length_cons, List.length_nil]
    omega
  · unfold firstP
    simp [k]
  · unfold firstP
    simp [k]
  · unfold firstP
    simp only [k, Int.reduceEq, if_true, if_false, or_false, List.length_append, List.length_cons, List.length_nil]
    omega
  · unfold firstP
    simp [k]
  · unfold firstP
    simp [k]
  · unfold firstP
    simp [k]
  · unfold firstP
    simp only [k, Int.reduceEq, if_true, if_false, or_false, List.length_append, List.length_cons, List.length_nil]
    omega
  · unfold firstP
    simp [k]
  · unfold firstP
    simp [k]

theorem last_len {x : Pt} (h : Pr1 x) : (lastP x).length ≤ 36500 := by
  have n1 : x.name.data.toList.length ≤ 200 := by have := h.nm; simpa using this
  unfold lastP
  split
  · simp
  split
  · simp
  split
  · simp
  split
  · simp only [List.length_append, List.length_cons, List.length_nil]; omega
  split
  · rename_i k
    have := plain14 h (by omega)
    simp only [List.length_append, List.length_cons, List.length_nil]; omega
  split
  · rename_i k
    have := plain14 h (by omega)
    simp only [List.length_append, List.length_cons, List.length_nil]; omega
  split
  · rename_i k
    have h1 := tyPL (snd14 h.so k).1 h.st h.lt
    have h2 := tyPL (snd14 h.so k).2.1 h.su h.lu
    simp only [List.length_append, List.length_cons, List.length_nil]; omega
  · simp

theorem betw_len {x : Pt} (h : x.name.size ≤ 200) (k : Nat) : (betwP x k).length ≤ 300 := by
  have n1 : x.name.data.toList.length ≤ 200 := by simpa using h
  unfold betwP
  repeat' split
  all_goals (simp only [List.length_append, List.length_cons, List.length_nil]; try omega)

theorem prs_lenE : ∀ (f : Fo) (x : Pt) (k : Nat), (∀ z ∈ f.flat, Pr1 z) → x.name.size ≤ 200 → (f.pr x k).length ≤ f.flat.length * 74000
  | .nil, _, _, _, _ => by simp [Fo.pr]
  | .cons c kc q, x, k, h, hx => by
    have hc := h c (by simp [Fo.flat])
    have h1 := prs_lenE kc c 0 (fun z hz => h z (by simp [Fo.flat, hz])) hc.nm
    have h2 := prs_lenE q x (k + 1) (fun z hz => h z (by simp [Fo.flat, hz])) hx
    have h3 := first_len hc
    have h4 := last_len hc
    have h5 := betw_len hx k
    have n3 : c.label.data.toList.length ≤ 200 := by have := hc.lb; simpa using this
    have h6 : (if 0 < k then betwP x k else []).length ≤ 300 := by
      split
      · exact h5
      · simp
    have h7 : (if x.kind = 10 then c.label.data.toList ++ [32, 61, 32] else []).length ≤ 203 := by
      split
      · simp only [List.length_append, List.length_cons, List.length_nil]; omega
      · simp
    rw [Fo.pr_cons, prT_def]
    simp only [Fo.flat, List.length_append, List.length_cons]
    omega

theorem eprT_len {x : Pt} {ks : Fo} (h : ∀ z ∈ x :: ks.flat, Pr1 z) (hl : ks.flat.length + 1 ≤ 120) : (prT x ks).length ≤ 9000000 := by
  have hx := h x (by simp)
  have h1 := prs_lenE ks x 0 (fun z hz => h z (by simp [hz])) hx.nm
  have h3 := first_len hx
  have h4 := last_len hx
  rw [prT_def]
  simp only [List.length_append]
  omega

end Go.Proofs.YthbieinbpfjgkaaGreatDoor.E
