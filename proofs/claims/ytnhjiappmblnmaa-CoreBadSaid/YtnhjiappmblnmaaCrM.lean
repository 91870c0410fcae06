/-
  Plain lists, no program: sets, whether a set fits, what it is shrunk and grown to. No conditions but those that each lemma names.
-/
import Derived.Lib.Strings
namespace Go.Proofs.Ytnhjiappmblnmaa.Cr
open Go

/-- Is all of a set in another one? -/
def subB (b s : List Int) : Bool := b.all fun x => decide (x ∈ s)
theorem subB_iff (b s : List Int) : subB b s = true ↔ ∀ x ∈ b, x ∈ s := by unfold subB; rw [List.all_eq_true]; simp
/-- Has a set none of some sets in it? -/
def fitsB (bad : List (List Int)) (s : List Int) : Bool := bad.all fun b => !subB b s
theorem fitsB_iff (bad : List (List Int)) (s : List Int) : fitsB bad s = true ↔ ∀ b ∈ bad, ¬ ∀ x ∈ b, x ∈ s := by
  unfold fitsB
  rw [List.all_eq_true]
  constructor
  · intro h b hb g
    have := h b hb
    rw [(subB_iff b s).2 g] at this
    cases this
  · intro h b hb
    cases e : subB b s
    · rfl
    · exact absurd ((subB_iff b s).1 e) (h b hb)
theorem fitsB_mono {bad : List (List Int)} {s t : List Int} (h : ∀ x ∈ s, x ∈ t) (ht : fitsB bad t = true) : fitsB bad s = true := by
  rw [fitsB_iff] at ht ⊢
  exact fun b hb g => ht b hb fun x hx => h x (g x hx)
theorem fitsB_false_mono {bad : List (List Int)} {s t : List Int} (h : ∀ x ∈ s, x ∈ t) (ht : fitsB bad s = false) : fitsB bad t = false := by
  cases e : fitsB bad t
  · rfl
  · rw [fitsB_mono h e] at ht; cases ht
theorem fitsB_congr {bad : List (List Int)} {s t : List Int} (h : ∀ x, x ∈ s ↔ x ∈ t) : fitsB bad s = fitsB bad t := by
  rw [Bool.eq_iff_iff]
  exact ⟨fitsB_mono fun x hx => (h x).2 hx, fitsB_mono fun x hx => (h x).1 hx⟩
theorem fitsB_bad {bad bad' : List (List Int)} (h : ∀ b, b ∈ bad ↔ b ∈ bad') (s : List Int) : fitsB bad s = fitsB bad' s := by
  rw [Bool.eq_iff_iff, fitsB_iff, fitsB_iff]
  exact ⟨fun g b hb => g b ((h b).2 hb), fun g b hb => g b ((h b).1 hb)⟩
theorem fitsB_snoc (bad : List (List Int)) (m s : List Int) : fitsB (bad ++ [m]) s = (fitsB bad s && !subB m s) := by
  unfold fitsB
  rw [List.all_append]
  simp
theorem fitsB_nil (s : List Int) : fitsB [] s = true := rfl

/-- A set: numbers that rise. -/
def isSet (s : List Int) : Prop := s.Pairwise (· < ·)
theorem isSet.nodup {s : List Int} (h : isSet s) : s.Nodup := h.imp fun h => by omega
/-- Is it a set? -/
def setB (s : List Int) : Bool := decide (s.Pairwise (· < ·))
theorem setB_iff (s : List Int) : setB s = true ↔ isSet s := by unfold setB isSet; simp
/-- Sets of the same numbers are the same. -/
theorem isSet.one : ∀ {a b : List Int}, isSet a → isSet b → (∀ j, j ∈ a ↔ j ∈ b) → a = b
  | [], [], _, _, _ => rfl
  | [], x :: b, _, _, h => by have := (h x).2 (by simp); cases this
  | x :: a, [], _, _, h => by have := (h x).1 (by simp); cases this
  | x :: a, y :: b, ha, hb, h => by
    unfold isSet at ha hb
    rw [List.pairwise_cons] at ha hb
    have e : x = y := by
      have h1 := (h x).1 (by simp)
      have h2 := (h y).2 (by simp)
      rcases List.mem_cons.1 h1 with h1 | h1
      · exact h1
      · rcases List.mem_cons.1 h2 with h2 | h2
        · exact h2.symm
        · have := ha.1 y h2; have := hb.1 x h1; omega
    subst e
    congr 1
    refine isSet.one ha.2 hb.2 fun j => ?_
    have h1 := h j
    simp only [List.mem_cons] at h1
    constructor
    · intro hj
      have h2 := ha.1 j hj
      rcases h1.1 (Or.inr hj) with h3 | h3
      · omega
      · exact h3
    · intro hj
      have h2 := hb.1 j hj
      rcases h1.2 (Or.inr hj) with h3 | h3
      · omega
      · exact h3

/-- A set without a number. -/
def withoutL (s : List Int) (n : Int) : List Int := s.filter fun x => !decide (x = n)
theorem mem_without (s : List Int) (n x : Int) : x ∈ withoutL s n ↔ x ∈ s ∧ x ≠ n := by unfold withoutL; simp [List.mem_filter]
theorem without_set {s : List Int} (h : isSet s) (n : Int) : isSet (withoutL s n) := List.Pairwise.filter _ h
theorem without_mid {l r : List Int} {n : Int} (h : (l ++ n :: r).Nodup) : withoutL (l ++ n :: r) n = l ++ r := by
  unfold withoutL
  have h1 : ∀ x ∈ l, x ≠ n := fun x hx e => by
    subst e
    have := List.nodup_append.1 h
    exact this.2.2 x hx x (by simp) rfl
  have h2 : ∀ x ∈ r, x ≠ n := fun x hx e => by
    subst e
    have := (List.nodup_append.1 h).2.1
    exact (List.nodup_cons.1 this).1 hx
  rw [List.filter_append, List.filter_cons, if_neg (by simp)]
  rw [List.filter_eq_self.2 fun x hx => by simp [h1 x hx], List.filter_eq_self.2 fun x hx => by simp [h2 x hx]]
/-- A number put into a set. -/
def insS (n : Int) : List Int → List Int
  | [] => [n]
  | x :: r => if n < x then n :: x :: r else x :: insS n r
theorem mem_insS (n x : Int) : ∀ s : List Int, x ∈ insS n s ↔ x = n ∨ x ∈ s
  | [] => by simp [insS]
  | y :: r => by
    unfold insS
    by_cases h : n < y
    · simp [h]
    · simp only [h, if_false, List.mem_cons, mem_insS n x r]
      constructor
      · rintro (h | h | h)
        · exact Or.inr (Or.inl h)
        · exact Or.inl h
        · exact Or.inr (Or.inr h)
      · rintro (h | h | h)
        · exact Or.inr (Or.inl h)
        · exact Or.inl h
        · exact Or.inr (Or.inr h)
theorem insS_set (n : Int) : ∀ {s : List Int}, isSet s → n ∉ s → isSet (insS n s)
  | [], _, _ => by simp [insS, isSet]
  | y :: r, h, hn => by
    unfold isSet at h
    rw [List.pairwise_cons] at h
    simp only [List.mem_cons, not_or] at hn
    unfold insS isSet
    by_cases g : n < y
    · simp only [g, if_true, List.pairwise_cons, List.mem_cons]
      refine ⟨fun a ha => ?_, h.1, h.2⟩
      rcases ha with rfl | ha
      · exact g
      · have := h.1 a ha; omega
    · simp only [g, if_false, List.pairwise_cons]
      refine ⟨fun a ha => ?_, insS_set n h.2 hn.2⟩
      rw [mem_insS] at ha
      rcases ha with rfl | ha
      · omega
      · exact h.1 a ha
theorem insS_len (n : Int) : ∀ s : List Int, (insS n s).length = s.length + 1
  | [] => rfl
  | y :: r => by
    unfold insS
    by_cases g : n < y
    · simp [g]
    · simp [g, insS_len n r]
/-- A set with a number. -/
def withL (s : List Int) (n : Int) : List Int := if n ∈ s then s else insS n s
theorem mem_with (s : List Int) (n x : Int) : x ∈ withL s n ↔ x = n ∨ x ∈ s := by
  unfold withL
  by_cases h : n ∈ s
  · rw [if_pos h]
    exact ⟨Or.inr, fun g => g.elim (fun e => e ▸ h) id⟩
  · rw [if_neg h, mem_insS]
theorem with_set {s : List Int} (h : isSet s) (n : Int) : isSet (withL s n) := by
  unfold withL
  by_cases g : n ∈ s
  · rw [if_pos g]; exact h
  · rw [if_neg g]; exact insS_set n h g
theorem with_len (s : List Int) (n : Int) : (withL s n).length = s.length + if n ∈ s then 0 else 1 := by
  unfold withL
  by_cases g : n ∈ s <;> simp [g, insS_len]
theorem with_mem {s : List Int} {n : Int} (h : n ∈ s) : withL s n = s := if_pos h

/-! ### Shrink -/
/-- Each number of a set, from the least one on, is struck if the rest still does not fit. -/
def shrR (bad : List (List Int)) : List Int → List Int → List Int
  | l, [] => l
  | l, n :: r => if fitsB bad (l ++ r) = true then shrR bad (l ++ [n]) r else shrR bad l r
theorem shr_part (bad : List (List Int)) : ∀ (r l : List Int), (shrR bad l r).Sublist (l ++ r)
  | [], l => by simp [shrR]
  | n :: r, l => by
    unfold shrR
    by_cases h : fitsB bad (l ++ r) = true
    · rw [if_pos h]
      have := shr_part bad r (l ++ [n])
      simpa using this
    · rw [if_neg h]
      exact (shr_part bad r l).trans (List.Sublist.append (List.Sublist.refl l) (List.sublist_cons_self n r))
theorem shr_unfit (bad : List (List Int)) : ∀ (r l : List Int), fitsB bad (l ++ r) = false → fitsB bad (shrR bad l r) = false
  | [], l, h => by simpa [shrR] using h
  | n :: r, l, h => by
    unfold shrR
    by_cases g : fitsB bad (l ++ r) = true
    · rw [if_pos g]
      exact shr_unfit bad r (l ++ [n]) (by simpa using h)
    · rw [if_neg g]
      exact shr_unfit bad r l (by simpa using g)
theorem shr_least (bad : List (List Int)) : ∀ (r l : List Int), (l ++ r).Nodup → (∀ n ∈ l, fitsB bad (withoutL (l ++ r) n) = true) → ∀ n ∈ shrR bad l r, fitsB bad (withoutL (shrR bad l r) n) = true
  | [], l, _, h => by simpa [shrR] using h
  | n :: r, l, hd, h => by
    unfold shrR
    by_cases g : fitsB bad (l ++ r) = true
    · rw [if_pos g]
      refine shr_least bad r (l ++ [n]) (by simpa using hd) fun m hm => ?_
      rw [List.append_assoc, List.singleton_append]
      rw [List.mem_append, List.mem_singleton] at hm
      rcases hm with hm | rfl
      · exact h m hm
      · rw [without_mid hd]; exact g
    · rw [if_neg g]
      refine shr_least bad r l (hd.sublist (List.Sublist.append (List.Sublist.refl l) (List.sublist_cons_self n r))) fun m hm => fitsB_mono (fun x hx => ?_) (h m hm)
      rw [mem_without] at hx ⊢
      refine ⟨?_, hx.2⟩
      have := hx.1
      simp only [List.mem_append, List.mem_cons] at this ⊢
      rcases this with h | h
      · exact Or.inl h
      · exact Or.inr (Or.inr h)
theorem shr_again (bad : List (List Int)) : ∀ (r l : List Int), (l ++ r).Nodup → (∀ n ∈ r, fitsB bad (withoutL (l ++ r) n) = true) → shrR bad l r = l ++ r
  | [], l, _, _ => by simp [shrR]
  | n :: r, l, hd, h => by
    unfold shrR
    have g := h n (by simp)
    rw [without_mid hd] at g
    rw [if_pos g, shr_again bad r (l ++ [n]) (by simpa using hd) fun m hm => by simpa using h m (by simp [hm])]
    simp
theorem shr_bad {bad bad' : List (List Int)} (h : ∀ b, b ∈ bad ↔ b ∈ bad') : ∀ (r l : List Int), shrR bad l r = shrR bad' l r
  | [], _ => rfl
  | n :: r, l => by
    unfold shrR
    rw [fitsB_bad h, shr_bad h r, shr_bad h r]
/-- What a set is shrunk to: nothing, if it fits. -/
def shrinkL (s : List Int) (bad : List (List Int)) : List Int := if fitsB bad s = true then [] else shrR bad [] s
theorem shrinkL_no {s : List Int} {bad : List (List Int)} (h : fitsB bad s = true) : shrinkL s bad = [] := if_pos h
theorem shrinkL_yes {s : List Int} {bad : List (List Int)} (h : fitsB bad s = false) : shrinkL s bad = shrR bad [] s := if_neg (by simp [h])
theorem shrinkL_len (s : List Int) (bad : List (List Int)) : (shrinkL s bad).length ≤ s.length := by
  cases h : fitsB bad s
  · rw [shrinkL_yes h]; exact (shr_part bad s []).length_le
  · rw [shrinkL_no h]; simp
theorem shrinkL_sub (s : List Int) (bad : List (List Int)) : (shrinkL s bad).Sublist s := by
  cases h : fitsB bad s
  · rw [shrinkL_yes h]; exact shr_part bad s []
  · rw [shrinkL_no h]; exact List.nil_sublist s
theorem shrinkL_set {s : List Int} (h : isSet s) (bad : List (List Int)) : isSet (shrinkL s bad) := List.Pairwise.sublist (shrinkL_sub s bad) h
theorem shrinkL_unfit {s : List Int} {bad : List (List Int)} (h : fitsB bad s = false) : fitsB bad (shrinkL s bad) = false := by
  rw [shrinkL_yes h]; exact shr_unfit bad s [] (by simpa using h)
theorem shrinkL_min {s : List Int} {bad : List (List Int)} (hs : isSet s) : ∀ n ∈ shrinkL s bad, fitsB bad (withoutL (shrinkL s bad) n) = true := by
  cases h : fitsB bad s
  · rw [shrinkL_yes h]; exact shr_least bad s [] hs.nodup (by simp)
  · rw [shrinkL_no h]; simp
theorem shrinkL_again {s : List Int} {bad : List (List Int)} (hs : isSet s) (h : fitsB bad s = false) : shrinkL (shrinkL s bad) bad = shrinkL s bad := by
  rw [shrinkL_yes (shrinkL_unfit h)]
  exact shr_again bad _ [] (shrinkL_set hs bad).nodup (by simpa using shrinkL_min hs)
theorem shrinkL_bad {bad bad' : List (List Int)} (h : ∀ b, b ∈ bad ↔ b ∈ bad') (s : List Int) : shrinkL s bad = shrinkL s bad' := by
  unfold shrinkL
  rw [fitsB_bad h, shr_bad h]
/-- What is shrunk is a bad set. -/
theorem shrinkL_one {s : List Int} {bad : List (List Int)} (hs : isSet s) (hb : ∀ b ∈ bad, isSet b) (h : fitsB bad s = false) : shrinkL s bad ∈ bad := by
  have hu := shrinkL_unfit h
  obtain ⟨b, hbm, hsub⟩ : ∃ b ∈ bad, ∀ x ∈ b, x ∈ shrinkL s bad := by
    have : ¬ (∀ b ∈ bad, ¬ ∀ x ∈ b, x ∈ shrinkL s bad) := fun g => by rw [(fitsB_iff _ _).2 g] at hu; cases hu
    simpa using this
  have : b = shrinkL s bad := by
    refine isSet.one (hb b hbm) (shrinkL_set hs bad) fun j => ⟨hsub j, fun hj => ?_⟩
    refine Classical.byContradiction fun hn => ?_
    have := shrinkL_min (bad := bad) hs j hj
    exact (fitsB_iff _ _).1 this b hbm fun x hx => (mem_without _ _ _).2 ⟨hsub x hx, fun e => hn (e ▸ hx)⟩
  exact this ▸ hbm

/-! ### Grow -/
/-- Each number of all that a set lacks, from the least one on, is put in if it still fits then. -/
def growR (bad : List (List Int)) : List Int → List Int → List Int
  | c, [] => c
  | c, n :: r => if fitsB bad (withL c n) = true then growR bad (withL c n) r else growR bad c r
theorem grow_has (bad : List (List Int)) : ∀ (r c : List Int), ∀ x ∈ c, x ∈ growR bad c r
  | [], c, x, h => h
  | n :: r, c, x, h => by
    unfold growR
    by_cases g : fitsB bad (withL c n) = true
    · rw [if_pos g]; exact grow_has bad r _ x ((mem_with _ _ _).2 (Or.inr h))
    · rw [if_neg g]; exact grow_has bad r c x h
theorem grow_from (bad : List (List Int)) : ∀ (r c : List Int), ∀ x ∈ growR bad c r, x ∈ c ∨ x ∈ r
  | [], c, x, h => Or.inl h
  | n :: r, c, x, h => by
    unfold growR at h
    by_cases g : fitsB bad (withL c n) = true
    · rw [if_pos g] at h
      rcases grow_from bad r _ x h with h | h
      · rcases (mem_with _ _ _).1 h with h | h
        · exact Or.inr (by simp [h])
        · exact Or.inl h
      · exact Or.inr (by simp [h])
    · rw [if_neg g] at h
      rcases grow_from bad r _ x h with h | h
      · exact Or.inl h
      · exact Or.inr (by simp [h])
theorem grow_fits (bad : List (List Int)) : ∀ (r c : List Int), fitsB bad c = true → fitsB bad (growR bad c r) = true
  | [], c, h => h
  | n :: r, c, h => by
    unfold growR
    by_cases g : fitsB bad (withL c n) = true
    · rw [if_pos g]; exact grow_fits bad r _ g
    · rw [if_neg g]; exact grow_fits bad r c h
theorem grow_set (bad : List (List Int)) : ∀ (r c : List Int), isSet c → isSet (growR bad c r)
  | [], c, h => h
  | n :: r, c, h => by
    unfold growR
    by_cases g : fitsB bad (withL c n) = true
    · rw [if_pos g]; exact grow_set bad r _ (with_set h n)
    · rw [if_neg g]; exact grow_set bad r c h
theorem grow_len (bad : List (List Int)) : ∀ (r c : List Int), (growR bad c r).length ≤ c.length + r.length
  | [], c => by simp [growR]
  | n :: r, c => by
    unfold growR
    by_cases g : fitsB bad (withL c n) = true
    · rw [if_pos g]
      have := grow_len bad r (withL c n)
      have h2 := with_len c n
      simp only [List.length_cons]
      by_cases e : n ∈ c
      · rw [if_pos e] at h2; omega
      · rw [if_neg e] at h2; omega
    · rw [if_neg g]
      have := grow_len bad r c
      simp only [List.length_cons]
      omega
theorem with_sub {c d : List Int} (h : ∀ x ∈ c, x ∈ d) (n : Int) : ∀ x ∈ withL c n, x ∈ withL d n := fun x hx => by
  rw [mem_with] at hx ⊢
  exact hx.imp id (h x)
theorem grow_most (bad : List (List Int)) : ∀ (r c : List Int), ∀ n ∈ r, n ∉ growR bad c r → fitsB bad (withL (growR bad c r) n) = false
  | m :: r, c, n, hn, hx => by
    have key : fitsB bad (withL c m) = false → growR bad c (m :: r) = growR bad c r := fun g => by
      show (if fitsB bad (withL c m) = true then _ else _) = _
      rw [if_neg (by simp [g])]
    have key2 : fitsB bad (withL c m) = true → growR bad c (m :: r) = growR bad (withL c m) r := fun g => by
      show (if fitsB bad (withL c m) = true then _ else _) = _
      rw [if_pos g]
    cases g : fitsB bad (withL c m)
    · rw [key g] at hx ⊢
      rcases List.mem_cons.1 hn with rfl | hn
      · exact fitsB_false_mono (with_sub (grow_has bad r c) n) g
      · exact grow_most bad r c n hn hx
    · rw [key2 g] at hx ⊢
      rcases List.mem_cons.1 hn with rfl | hn
      · exact absurd (grow_has bad r _ n ((mem_with _ _ _).2 (Or.inl rfl))) hx
      · exact grow_most bad r _ n hn hx
theorem grow_again (bad : List (List Int)) : ∀ (r c : List Int), fitsB bad c = true → (∀ n ∈ r, n ∉ c → fitsB bad (withL c n) = false) → growR bad c r = c
  | [], c, _, _ => rfl
  | n :: r, c, hc, h => by
    unfold growR
    by_cases e : n ∈ c
    · rw [with_mem e, if_pos hc]
      exact grow_again bad r c hc fun m hm => h m (by simp [hm])
    · rw [if_neg (by simp [h n (by simp) e])]
      exact grow_again bad r c hc fun m hm => h m (by simp [hm])
theorem grow_bad {bad bad' : List (List Int)} (h : ∀ b, b ∈ bad ↔ b ∈ bad') : ∀ (r c : List Int), growR bad c r = growR bad' c r
  | [], _ => rfl
  | n :: r, c => by
    unfold growR
    rw [fitsB_bad h, grow_bad h r, grow_bad h r]
/-- What a set is grown to: nothing, if it does not fit. -/
def growL (s all : List Int) (bad : List (List Int)) : List Int := if fitsB bad s = true then growR bad s all else []
theorem growL_yes {s all : List Int} {bad : List (List Int)} (h : fitsB bad s = true) : growL s all bad = growR bad s all := if_pos h
theorem growL_no {s all : List Int} {bad : List (List Int)} (h : fitsB bad s = false) : growL s all bad = [] := if_neg (by simp [h])
theorem growL_len (s all : List Int) (bad : List (List Int)) : (growL s all bad).length ≤ s.length + all.length := by
  cases h : fitsB bad s
  · rw [growL_no h]; simp
  · rw [growL_yes h]; exact grow_len bad all s
theorem growL_set {s : List Int} (hs : isSet s) (all : List Int) (bad : List (List Int)) : isSet (growL s all bad) := by
  cases h : fitsB bad s
  · rw [growL_no h]; exact List.Pairwise.nil
  · rw [growL_yes h]; exact grow_set bad all s hs
theorem growL_bad {bad bad' : List (List Int)} (h : ∀ b, b ∈ bad ↔ b ∈ bad') (s all : List Int) : growL s all bad = growL s all bad' := by
  unfold growL
  rw [fitsB_bad h, grow_bad h]
theorem growR_nil : ∀ (r c : List Int), ∀ x, x ∈ growR [] c r ↔ x ∈ c ∨ x ∈ r
  | [], c, x => by simp [growR]
  | n :: r, c, x => by
    unfold growR
    rw [if_pos (fitsB_nil _), growR_nil r, mem_with, List.mem_cons]
    constructor
    · rintro ((h | h) | h)
      · exact Or.inr (Or.inl h)
      · exact Or.inl h
      · exact Or.inr (Or.inr h)
    · rintro (h | h | h)
      · exact Or.inl (Or.inr h)
      · exact Or.inl (Or.inl h)
      · exact Or.inr h
/-- Least: a set does not fit, but does without any of its numbers. -/
def leastB (s : List Int) (bad : List (List Int)) : Bool := !fitsB bad s && s.all fun n => fitsB bad (withoutL s n)
/-- Most: a set fits, but with no number of all more. -/
def mostB (s all : List Int) (bad : List (List Int)) : Bool := fitsB bad s && all.all fun n => decide (n ∈ s) || !fitsB bad (withL s n)
theorem shrinkL_leastB {s : List Int} {bad : List (List Int)} (hs : isSet s) (h : fitsB bad s = false) : leastB (shrinkL s bad) bad = true := by
  unfold leastB
  rw [shrinkL_unfit h, Bool.and_eq_true, List.all_eq_true]
  exact ⟨rfl, shrinkL_min hs⟩
theorem growL_mostB {s all : List Int} {bad : List (List Int)} (h : fitsB bad s = true) : mostB (growL s all bad) all bad = true := by
  rw [growL_yes h]
  unfold mostB
  rw [grow_fits bad all s h, Bool.and_eq_true, List.all_eq_true]
  refine ⟨rfl, fun n hn => ?_⟩
  by_cases e : n ∈ growR bad s all
  · simp [e]
  · rw [grow_most bad all s n hn e]; simp
theorem growL_again {s all : List Int} {bad : List (List Int)} (h : fitsB bad s = true) : growL (growL s all bad) all bad = growL s all bad := by
  rw [growL_yes h, growL_yes (grow_fits bad all s h)]
  exact grow_again bad all _ (grow_fits bad all s h) fun n hn e => grow_most bad all s n hn e
/-- What was left out is in what it is shrunk to, put in. -/
theorem left_out {a : List Int} {bad : List (List Int)} {n : Int} (h : fitsB bad a = true) (hn : fitsB bad (withL a n) = false) : n ∈ shrinkL (withL a n) bad := by
  refine Classical.byContradiction fun g => ?_
  have hu := shrinkL_unfit hn
  rw [fitsB_mono (fun x hx => ?_) h] at hu
  · cases hu
  · rcases (mem_with _ _ _).1 ((shrinkL_sub _ bad).subset hx) with e | e
    · exact absurd (e ▸ hx) g
    · exact e
end Go.Proofs.Ytnhjiappmblnmaa.Cr
