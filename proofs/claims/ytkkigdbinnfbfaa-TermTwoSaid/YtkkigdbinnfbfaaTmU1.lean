/-
  What term's Put makes, as plain lists: how long it is. No conditions but those that each lemma names.
-/
import Derived.Test.YtkkigdbinnfbfaaTmE4
import Derived.Test.YtkkigdbinnfbfaaTmP
namespace Go.Proofs.Ytkkigdbinnfbfaa.L
open Go
/-- What is made of a node and of what was made of its children, where u, with the children more, is put for n. -/
def putJ (n : Int) (u : List Nd) (more : List (List Nd)) (x : Nd) (kl : List (List Nd)) : List Nd :=
  if x.kind = 8 ∧ x.n = n then setName u x.name
  else ⟨x.kind, x.name, x.n + ((extL n kl more).length - (kl.length : Int))⟩ :: (extL n kl more).flatten
abbrev putJ' (n : Int) (u : List Nd) (more : List (List Nd)) : Unit → Nd → List (List Nd) → Unit × List Nd := fun _ x kl => ((), putJ n u more x kl)
def putK (n : Int) (u : List Nd) (more : List (List Nd)) (f : Fo) : List (List Nd) := (foldF (putJ' n u more) () f).2
theorem putK_nil (n : Int) (u : List Nd) (more : List (List Nd)) : putK n u more .nil = [] := rfl
theorem putK_cons (n : Int) (u : List Nd) (more : List (List Nd)) (x : Nd) (ks r : Fo) : putK n u more (.cons x ks r) = putJ n u more x (putK n u more ks) :: putK n u more r := rfl
theorem putK_len (n : Int) (u : List Nd) (more : List (List Nd)) : ∀ f : Fo, (putK n u more f).length = f.count
  | .nil => rfl
  | .cons x ks r => by rw [putK_cons, List.length_cons, putK_len n u more r]; rfl
theorem putJ_ne {n : Int} {u : List Nd} (hu : u ≠ []) (more : List (List Nd)) (x : Nd) (kl : List (List Nd)) : putJ n u more x kl ≠ [] := by
  unfold putJ
  split
  · intro e
    have := congrArg List.length e
    rw [setName_length] at this
    exact hu (List.eq_nil_of_length_eq_zero (by simpa using this))
  · simp
theorem putK_ne {n : Int} {u : List Nd} (hu : u ≠ []) (more : List (List Nd)) : ∀ (f : Fo), ∀ l ∈ putK n u more f, l ≠ []
  | .nil, _, h => by cases h
  | .cons x ks r, l, h => by
    rw [putK_cons] at h
    rcases List.mem_cons.1 h with rfl | h
    · exact putJ_ne hu more x _
    · exact putK_ne hu more r l h
theorem mergeL_nil (a : List (List Nd)) : mergeL a [] = a := by cases a <;> simp [mergeL]
theorem mergeL_length : ∀ a b : List (List Nd), (mergeL a b).length = a.length + b.length
  | [], b => by simp [mergeL]
  | x :: a, [] => by simp [mergeL]
  | x :: a, y :: b => by
    rw [mergeL]
    split
    · rw [List.length_cons, mergeL_length]; simp; omega
    · rw [List.length_cons, mergeL_length]; simp; omega
termination_by a b => a.length + b.length
theorem mergeL_flat : ∀ a b : List (List Nd), (mergeL a b).flatten.length = a.flatten.length + b.flatten.length
  | [], b => by simp [mergeL]
  | x :: a, [] => by simp [mergeL]
  | x :: a, y :: b => by
    rw [mergeL]
    split
    · rw [List.flatten_cons, List.length_append, mergeL_flat]; simp; omega
    · rw [List.flatten_cons, List.length_append, mergeL_flat]; simp; omega
termination_by a b => a.length + b.length
theorem mergeL_mem : ∀ {a b : List (List Nd)} {t : List Nd}, t ∈ mergeL a b ↔ t ∈ a ∨ t ∈ b
  | [], b, t => by simp [mergeL]
  | x :: a, [], t => by simp [mergeL]
  | x :: a, y :: b, t => by
    rw [mergeL]
    split
    · rw [List.mem_cons, mergeL_mem]
      simp only [List.mem_cons]
      exact ⟨by rintro (h | (h | h) | h) <;> simp [h], by rintro ((h | h) | (h | h)) <;> simp [h]⟩
    · rw [List.mem_cons, mergeL_mem]
      simp only [List.mem_cons]
      exact ⟨by rintro (h | h | (h | h)) <;> simp [h], by rintro ((h | h) | (h | h)) <;> simp [h]⟩
termination_by a b => a.length + b.length
theorem openB_snoc (n : Int) (a : List (List Nd)) (l : List Nd) : openB n (a ++ [l]) = decide (hd0 l = ⟨9, ⟨#[]⟩, n⟩) := by simp [openB]
theorem openB_nil (n : Int) : openB n [] = false := rfl
theorem extL_nil (n : Int) (more : List (List Nd)) : extL n [] more = [] := rfl
theorem extL_le (n : Int) (kl more : List (List Nd)) : (extL n kl more).length ≤ kl.length + more.length := by
  unfold extL
  split
  · rw [mergeL_length]; simp
  · omega
/-- What is dropped is one node at most. -/
theorem extL_flat_ge {n : Int} {kl more : List (List Nd)} (h1 : ∀ l ∈ kl, hd0 l = ⟨9, ⟨#[]⟩, n⟩ → l.length ≤ 1) : kl.flatten.length ≤ (extL n kl more).flatten.length + 1 := by
  unfold extL
  split
  · rename_i ho
    rw [mergeL_flat]
    rcases kl.eq_nil_or_concat with rfl | ⟨init, t, rfl⟩
    · simp
    · rw [List.concat_eq_append] at *
      rw [openB_snoc] at ho
      have := h1 t (by simp) (by simpa using ho)
      rw [List.dropLast_concat, List.flatten_append, List.length_append]
      simp
      omega
  · omega

/-- How much longer a node becomes. -/
def gain (n : Int) (ul : Nat) (x : Nd) : Int := (if varN x = true ∧ x.n = n then (ul : Int) - 1 else 0) - (if x = ⟨9, ⟨#[]⟩, n⟩ then 1 else 0)
def gains (n : Int) (ul : Nat) (t : List Nd) : Int := (t.map (gain n ul)).sum
def sizeL (n : Int) (ul : Nat) (t : List Nd) : Int := t.length + gains n ul t
theorem gains_nil (n : Int) (ul : Nat) : gains n ul [] = 0 := rfl
theorem gains_cons (n : Int) (ul : Nat) (x : Nd) (t : List Nd) : gains n ul (x :: t) = gain n ul x + gains n ul t := by simp [gains]
theorem gains_append (n : Int) (ul : Nat) (a b : List Nd) : gains n ul (a ++ b) = gains n ul a + gains n ul b := by simp [gains]
/-- A Tail has no label. -/
def TailOk (t : List Nd) : Prop := ∀ x ∈ t, x.kind = 9 → x.name = ⟨#[]⟩
theorem empty_of {s : ByteArray} (h : s.size = 0) : s = ⟨#[]⟩ := ByteArray.ext (Array.eq_empty_of_size_eq_zero h)
theorem stand_tailOk {x : Nd} : ∀ (f : Fo) (k : Nat) (b : ByteArray), Fo.stand x k b f = true → ∀ l ∈ f.tops1, ∀ y ∈ l, y.kind = 9 → y.name = ⟨#[]⟩
  | .nil, _, _, _, _, h => by cases h
  | .cons y ks r, k, b, h, l, hl => by
    simp only [Fo.stand, Bool.and_eq_true] at h
    simp only [Fo.tops1, List.mem_cons] at hl
    rcases hl with rfl | hl
    · intro z hz h9
      rw [List.mem_singleton] at hz
      subst hz
      have hm := h.1
      unfold mayStand at hm
      by_cases h5 : x.kind = 5
      · rw [if_pos h5] at hm
        simp [bare, h9] at hm
      · rw [if_neg h5, if_pos h9] at hm
        simp only [Bool.and_eq_true, decide_eq_true_eq] at hm
        exact empty_of hm.1
    · exact stand_tailOk r _ _ h.2 l hl
theorem tailOk_row : ∀ (f : Fo), f.ok = true → (∀ l ∈ f.tops1, ∀ y ∈ l, y.kind = 9 → y.name = ⟨#[]⟩) → TailOk f.flat
  | .nil, _, _, x, hx => by cases hx
  | .cons y ks r, h, ht, x, hx => by
    simp only [Fo.ok, Bool.and_eq_true, decide_eq_true_eq] at h
    obtain ⟨⟨⟨⟨hn, hm⟩, hs⟩, hk⟩, hr⟩ := h
    simp only [Fo.flat, List.mem_cons, List.mem_append] at hx
    rcases hx with rfl | hx | hx
    · exact ht [x] (by simp [Fo.tops1]) x (by simp)
    · exact tailOk_row ks hk (stand_tailOk ks _ _ hs) x hx
    · exact tailOk_row r hr (fun l hl => ht l (by simp [Fo.tops1, hl])) x hx
/-- Which children a row ends with. -/
theorem putJ_hd {n : Int} {u : List Nd} (hu : u ≠ []) (hu9 : (hd0 u).kind ≠ 9) (more : List (List Nd)) (x : Nd) (kl : List (List Nd)) (hk : x.kind = 9 → kl = [] ∧ x.name = ⟨#[]⟩) : hd0 (putJ n u more x kl) = ⟨9, ⟨#[]⟩, n⟩ ↔ x = ⟨9, ⟨#[]⟩, n⟩ := by
  unfold putJ
  split
  · rename_i h8
    cases u with
    | nil => exact absurd rfl hu
    | cons y r =>
      simp only [setName, hd0, List.headD_cons] at hu9 ⊢
      constructor
      · intro e; exact absurd (congrArg Nd.kind e) hu9
      · intro e; rw [e] at h8; simp at h8
  · simp only [hd0, List.headD_cons]
    constructor
    · intro e
      have h9 : x.kind = 9 := congrArg Nd.kind e
      obtain ⟨rfl, hn⟩ := hk h9
      have e3 := congrArg Nd.n e
      simp only [extL_nil, List.length_nil] at e3
      cases x
      simp only at h9 hn e3 ⊢
      rw [h9, hn]
      congr
      omega
    · intro e
      obtain ⟨rfl, hn⟩ := hk (by rw [e])
      rw [e]
      simp [extL_nil]
theorem putK_open {n : Int} {u : List Nd} (hu : u ≠ []) (hu9 : (hd0 u).kind ≠ 9) (more : List (List Nd)) : ∀ (f : Fo), f.ok = true → (∀ l ∈ f.tops1, ∀ y ∈ l, y.kind = 9 → y.name = ⟨#[]⟩) → openB n (putK n u more f) = openB n f.tops1
  | .nil, _, _ => rfl
  | .cons y ks r, h, ht => by
    have ir := putK_open (n := n) hu hu9 more r
    simp only [Fo.ok, Bool.and_eq_true, decide_eq_true_eq] at h
    obtain ⟨⟨⟨⟨hn, hm⟩, hs⟩, hk⟩, hr⟩ := h
    rw [putK_cons]
    cases r with
    | nil =>
      have := putJ_hd (n := n) hu hu9 more y (putK n u more ks) (fun h9 => ⟨by rw [kids_none hm (Or.inr h9)]; rfl, ht [y] (by simp [Fo.tops1]) y (by simp) h9⟩)
      rw [putK_nil, show [putJ n u more y (putK n u more ks)] = [] ++ [putJ n u more y (putK n u more ks)] from rfl, openB_snoc]
      rw [show (Fo.cons y ks Fo.nil).tops1 = [] ++ [[y]] from rfl, openB_snoc, Bool.eq_iff_iff]
      simpa [hd0] using this
    | cons z zk r =>
      have hr' := ir hr (fun l hl => ht l (by simp only [Fo.tops1, List.mem_cons] at hl ⊢; exact Or.inr hl))
      have e1 : ∀ (a b : List Nd) (c : List (List Nd)), openB n (a :: b :: c) = openB n (b :: c) := fun a b c => by simp [openB]
      rw [putK_cons] at hr' ⊢
      simp only [Fo.tops1] at hr' ⊢
      rw [e1, e1]
      exact hr'
theorem putJ_tail {n : Int} {u : List Nd} (hu : u ≠ []) (hu9 : (hd0 u).kind ≠ 9) (more : List (List Nd)) {x : Nd} {kl : List (List Nd)} (hk : x.kind = 9 → kl = []) (h : (hd0 (putJ n u more x kl)).kind = 9) : (putJ n u more x kl).length = 1 := by
  unfold putJ at h ⊢
  split at h
  · cases u with
    | nil => exact absurd rfl hu
    | cons y r => exact absurd h hu9
  · rename_i h8
    rw [if_neg h8]
    rw [hk h]
    rfl
theorem putK_tail {n : Int} {u : List Nd} (hu : u ≠ []) (hu9 : (hd0 u).kind ≠ 9) (more : List (List Nd)) : ∀ (f : Fo), f.ok = true → ∀ l ∈ putK n u more f, (hd0 l).kind = 9 → l.length = 1
  | .nil, _, l, h, _ => by cases h
  | .cons y ks r, h, l, hl, h9 => by
    simp only [Fo.ok, Bool.and_eq_true, decide_eq_true_eq] at h
    obtain ⟨⟨⟨⟨hn, hm⟩, hs⟩, hk⟩, hr⟩ := h
    rw [putK_cons] at hl
    rcases List.mem_cons.1 hl with rfl | hl
    · exact putJ_tail hu hu9 more (fun g => by rw [kids_none hm (Or.inr g)]; rfl) h9
    · exact putK_tail hu hu9 more r hr l hl h9
theorem rows_flat_len (f : Fo) : f.rows.flatten.length = f.flat.length := by rw [rows_flat]
/-- How long it is. -/
theorem putK_size {n : Int} {u : Nd} {uk : Fo} (hu9 : u.kind ≠ 9) : ∀ (f : Fo), f.ok = true → f.ends = true → (∀ l ∈ f.tops1, ∀ y ∈ l, y.kind = 9 → y.name = ⟨#[]⟩) →
    ((putK n (u :: uk.flat) uk.rows f).flatten.length : Int) = f.flat.length + gains n (uk.flat.length + 1) f.flat + (if openB n f.tops1 = true then 1 - (uk.flat.length : Int) else 0)
  | .nil, _, _, _ => rfl
  | .cons y ks r, h, he, ht => by
    have h' := h
    simp only [Fo.ok, Bool.and_eq_true, decide_eq_true_eq] at h
    obtain ⟨⟨⟨⟨hn, hm⟩, hs⟩, hk⟩, hr⟩ := h
    simp only [Fo.ends, Bool.and_eq_true, Bool.or_eq_true, Bool.not_eq_true', decide_eq_false_iff_not, decide_eq_true_eq] at he
    have htr : ∀ l ∈ r.tops1, ∀ z ∈ l, z.kind = 9 → z.name = ⟨#[]⟩ := fun l hl => ht l (by simp [Fo.tops1, hl])
    have htk := stand_tailOk ks _ _ hs
    have ik := putK_size (u := u) (uk := uk) (n := n) hu9 ks hk (kids_ends hm hs) htk
    have ir := putK_size (u := u) (uk := uk) (n := n) hu9 r hr he.2 htr
    have hopen := putK_open (n := n) (u := u :: uk.flat) (by simp) (by simpa [hd0] using hu9) uk.rows ks hk htk
    rw [putK_cons, List.flatten_cons, List.length_append]
    simp only [Fo.flat, List.length_cons, List.length_append, gains_cons, gains_append]
    push_cast
    rw [ir]
    -- the tree itself
    have hself : ((putJ n (u :: uk.flat) uk.rows y (putK n (u :: uk.flat) uk.rows ks)).length : Int) = 1 + ks.flat.length + (gain n (uk.flat.length + 1) y + gains n (uk.flat.length + 1) ks.flat) + (if y = ⟨9, ⟨#[]⟩, n⟩ then 1 - (uk.flat.length : Int) else 0) := by
      unfold putJ
      by_cases h8 : y.kind = 8 ∧ y.n = n
      · obtain rfl := kids_none hm (Or.inl h8.1)
        have e9 : ¬ y = ⟨9, ⟨#[]⟩, n⟩ := fun e => by rw [e] at h8; simp at h8
        rw [if_pos h8, setName_length, if_neg e9]
        unfold gain
        rw [if_pos ⟨by simp [varN, h8.1], h8.2⟩, if_neg e9]
        simp [Fo.flat, gains_nil]
        omega
      · rw [if_neg h8]
        have hg : gain n (uk.flat.length + 1) y + (if y = ⟨9, ⟨#[]⟩, n⟩ then 1 - (uk.flat.length : Int) else 0) = 0 := by
          unfold gain
          by_cases e9 : y = ⟨9, ⟨#[]⟩, n⟩
          · rw [if_pos ⟨by rw [e9]; rfl, by rw [e9]⟩, if_pos e9, if_pos e9]
            push_cast
            omega
          · rw [if_neg e9, if_neg e9, if_neg]
            · omega
            · rintro ⟨g1, g2⟩
              simp only [varN, Bool.or_eq_true, decide_eq_true_eq] at g1
              rcases g1 with g1 | g1
              · exact h8 ⟨g1, g2⟩
              · apply e9
                have := ht [y] (by simp [Fo.tops1]) y (by simp) g1
                cases y
                simp only at this g1 g2 ⊢
                rw [this, g1, g2]
        rw [List.length_cons]
        have hext : ((extL n (putK n (u :: uk.flat) uk.rows ks) uk.rows).flatten.length : Int) = ks.flat.length + gains n (uk.flat.length + 1) ks.flat := by
          unfold extL
          rw [hopen]
          by_cases ho : openB n ks.tops1 = true
          · rw [if_pos ho]
            rw [if_pos ho] at ik
            have ho2 := hopen.trans ho
            rcases (putK n (u :: uk.flat) uk.rows ks).eq_nil_or_concat with e | ⟨init, t, e⟩
            · rw [e] at ho2; cases ho2
            · rw [List.concat_eq_append] at e
              rw [e] at ik ho2 ⊢
              rw [openB_snoc] at ho2
              have hcnt := putK_len n (u :: uk.flat) uk.rows ks
              have hlt : t.length = 1 := by
                refine putK_tail (n := n) (u := u :: uk.flat) (by simp) (by simpa [hd0] using hu9) uk.rows ks hk t (by rw [e]; simp) ?_
                have ho3 : hd0 t = ⟨9, ⟨#[]⟩, n⟩ := by simpa using ho2
                rw [ho3]
              rw [mergeL_flat, List.dropLast_concat, rows_flat_len]
              rw [List.flatten_append, List.length_append] at ik
              simp only [List.flatten_cons, List.flatten_nil, List.append_nil] at ik
              push_cast at ik ⊢
              omega
          · rw [if_neg ho]
            rw [if_neg ho] at ik
            omega
        push_cast
        rw [hext]
        omega
    rw [hself]
    cases r with
    | nil =>
      have e1 : openB n (Fo.cons y ks Fo.nil).tops1 = decide (y = ⟨9, ⟨#[]⟩, n⟩) := by
        rw [show (Fo.cons y ks Fo.nil).tops1 = [] ++ [[y]] from rfl, openB_snoc]
        simp [hd0]
      rw [e1]
      simp only [Fo.tops1, openB_nil, Fo.flat, List.length_nil, gains_nil, decide_eq_true_eq]
      simp
      omega
    | cons z zk r =>
      have e1 : openB n (Fo.cons y ks (Fo.cons z zk r)).tops1 = openB n (Fo.cons z zk r).tops1 := by simp [Fo.tops1, openB]
      have h9 : ¬ y = ⟨9, ⟨#[]⟩, n⟩ := fun e => by
        rcases he.1 with g | g
        · rw [e] at g; simp at g
        · simp [Fo.count] at g
      rw [e1, if_neg h9]
      omega
/-- Of a type. -/
theorem put_size {n : Int} {u : Nd} {uk : Fo} (hu9 : u.kind ≠ 9) {x : Nd} {ks : Fo} (h : (Fo.cons x ks .nil).ok = true) (hx9 : x.kind ≠ 9) : ((putK n (u :: uk.flat) uk.rows (.cons x ks .nil)).flatten.length : Int) = sizeL n (uk.flat.length + 1) (x :: ks.flat) := by
  have e1 : openB n (Fo.cons x ks Fo.nil).tops1 = false := by
    rw [show (Fo.cons x ks Fo.nil).tops1 = [] ++ [[x]] from rfl, openB_snoc]
    refine decide_eq_false fun e => hx9 ?_
    exact congrArg Nd.kind e
  rw [putK_size hu9 _ h (by simp [Fo.ends, hx9]) (fun l hl y hy h9 => by
    simp only [Fo.tops1, List.mem_cons, List.not_mem_nil, or_false] at hl
    subst hl
    rw [List.mem_singleton] at hy
    subst hy
    exact absurd h9 hx9), e1]
  simp [Fo.flat, sizeL]
end Go.Proofs.Ytkkigdbinnfbfaa.L
