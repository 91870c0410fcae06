/-
  A module more, of a new name, that imports nothing: the others come in the order in which they came. No program.
-/
import Derived.Test.YtahaflapkdjmhaaGrZb
namespace Go.Proofs.Ytahaflapkdjmhaa.Gr

theorem find_app_ne {s : ByteArray} {z : Md} (h : z.name ≠ s) : ∀ (l : List Md) (k : Nat), find s (l ++ [z]) k = find s l k
  | [], k => by simp [find, h]
  | m :: l, k => by
    by_cases e : m.name = s
    · rw [List.cons_append, find, if_pos e, find, if_pos e]
    · rw [List.cons_append, find, if_neg e, find, if_neg e, find_app_ne h l (k + 1)]
theorem find_app_in {s : ByteArray} {z : Md} : ∀ (l : List Md) (k : Nat), (∃ m ∈ l, m.name = s) → find s (l ++ [z]) k = find s l k
  | [], k, h => by obtain ⟨m, hm, _⟩ := h; cases hm
  | m :: l, k, h => by
    by_cases e : m.name = s
    · rw [List.cons_append, find, if_pos e, find, if_pos e]
    · rw [List.cons_append, find, if_neg e, find, if_neg e]
      refine find_app_in l (k + 1) ?_
      obtain ⟨x, hx, hn⟩ := h
      rcases List.mem_cons.1 hx with rfl | hx
      · exact absurd hn e
      · exact ⟨x, hx, hn⟩
theorem find_app_new {s : ByteArray} {z : Md} (e : z.name = s) : ∀ (l : List Md) (k : Nat), (∀ m ∈ l, m.name ≠ s) → find s (l ++ [z]) k = ((k + l.length : Nat) : Int)
  | [], k, _ => by simp [find, e]
  | m :: l, k, h => by
    rw [List.cons_append, find, if_neg (h m (by simp)), find_app_new e l (k + 1) (fun m hm => h m (by simp [hm])), List.length_cons]
    congr 1; omega
theorem firstP_app {p q : Nat → Md → Bool} {z : Md} : ∀ (l : List Md) (k : Nat), (∀ (i : Nat) (h : i < l.length), p (k + i) l[i] = q (k + i) l[i]) → p (k + l.length) z = false → firstP p (l ++ [z]) k = firstP q l k
  | [], k, _, h => by
    have h : p k z = false := h
    simp [firstP, h]
  | m :: l, k, h, hz => by
    have h0 : p k m = q k m := h 0 (by simp)
    have h1 := firstP_app (p := p) (q := q) (z := z) l (k + 1) (fun i hi => by
      have := h (i + 1) (by simpa using hi)
      rw [Nat.add_assoc, Nat.add_comm 1 i]
      exact this) (by
      rw [List.length_cons] at hz
      rwa [Nat.add_assoc, Nat.add_comm 1])
    rw [List.cons_append, firstP, h0, h1]; rfl

section
variable {l : List Md} {s : ByteArray}
theorem again_more (hn : ∀ m ∈ l, m.name ≠ s) : againL (l ++ [⟨s, []⟩]) = againL l := by
  unfold againL
  refine firstP_app l 0 (fun i hi => ?_) ?_
  · simp only [againP]
    rw [find_app_in l 0 ⟨_, List.getElem_mem hi, rfl⟩]
  · simp only [againP, decide_eq_false_iff_not]
    rw [find_app_new (z := ⟨s, []⟩) rfl l 0 hn]
    omega
theorem lost_more (h : lostL l < 0) : lostL (l ++ [⟨s, []⟩]) < 0 := by
  rw [lost_iff] at *
  intro m hm t ht
  rcases List.mem_append.1 hm with h1 | h1
  · obtain ⟨m', h2, h3⟩ := h m h1 t ht
    exact ⟨m', List.mem_append_left _ h2, h3⟩
  · rw [List.mem_singleton] at h1
    subst h1
    cases ht
theorem more_at {i : Nat} (hi : i < l.length) : ∃ h : i < (l ++ [(⟨s, []⟩ : Md)]).length, (l ++ [(⟨s, []⟩ : Md)])[i] = l[i] := ⟨by simp; omega, List.getElem_append_left hi⟩
theorem nm_more {i : Nat} (hi : i < l.length) : nm (l ++ [⟨s, []⟩]) i = nm l i := by
  obtain ⟨h, e⟩ := more_at (s := s) hi
  rw [nm_at h, nm_at hi, e]
theorem ltP_more {a b : Nat} (ha : a < l.length) (hb : b < l.length) : ltP (l ++ [⟨s, []⟩]) a b ↔ ltP l a b := by
  unfold ltP nlt
  rw [nm_more ha, nm_more hb]
theorem nx_more (h : lostL l < 0) {i : Nat} (hi : i < l.length) : nxL (l ++ [⟨s, []⟩]) i = nxL l i := by
  obtain ⟨h1, e⟩ := more_at (s := s) hi
  rw [nxL_at h1, nxL_at hi, e]
  have key : ∀ is : List ByteArray, (∀ t ∈ is, ∃ m ∈ l, m.name = t) → is.filterMap (atN (l ++ [⟨s, []⟩])) = is.filterMap (atN l) := by
    intro is
    induction is with
    | nil => intro _; rfl
    | cons t is ih =>
      intro h2
      have e2 : atN (l ++ [⟨s, []⟩]) t = atN l t := by
        unfold atN
        rw [find_app_in l 0 (h2 t (by simp))]
      rw [List.filterMap_cons, List.filterMap_cons, e2, ih fun x hx => h2 x (by simp [hx])]
  exact key _ fun t ht => (lost_iff.1 h) _ (List.getElem_mem hi) t ht
theorem nx_new : nxL (l ++ [⟨s, []⟩]) l.length = [] := by
  rw [nxL_at (by simp : l.length < (l ++ [(⟨s, []⟩ : Md)]).length)]
  simp
theorem rch_more (h : lostL l < 0) {i j : Nat} (hr : Rch (nxL (l ++ [⟨s, []⟩])) i j) : i < l.length → Rch (nxL l) i j := by
  induction hr with
  | refl => exact fun _ => .refl _
  | step h1 _ ih =>
    intro hi
    rw [nx_more h hi] at h1
    exact .step h1 (ih (nxL_lt l _ hi _ h1))
theorem rch_less (h : lostL l < 0) {i j : Nat} (hr : Rch (nxL l) i j) : i < l.length → Rch (nxL (l ++ [⟨s, []⟩])) i j := by
  induction hr with
  | refl => exact fun _ => .refl _
  | step h1 _ ih =>
    intro hi
    have h2 := h1
    rw [← nx_more (s := s) h hi] at h2
    exact .step h2 (ih (nxL_lt l _ hi _ h1))
theorem cyc_more (h : lostL l < 0) {i : Nat} (hi : i < l.length) : Cyc (nxL (l ++ [⟨s, []⟩])) i ↔ Cyc (nxL l) i := by
  constructor
  · rintro ⟨k, hk, hr⟩
    rw [nx_more h hi] at hk
    exact ⟨k, hk, rch_more h hr (nxL_lt l _ hi _ hk)⟩
  · rintro ⟨k, hk, hr⟩
    refine ⟨k, by rw [nx_more h hi]; exact hk, rch_less h hr (nxL_lt l _ hi _ hk)⟩
theorem cyc_new : ¬ Cyc (nxL (l ++ [⟨s, []⟩])) l.length := by
  rintro ⟨k, hk, -⟩
  rw [nx_new] at hk; cases hk
theorem cyc_any (h : lostL l < 0) {w : Nat} : (w < (l ++ [(⟨s, []⟩ : Md)]).length ∧ Cyc (nxL (l ++ [⟨s, []⟩])) w) ↔ (w < l.length ∧ Cyc (nxL l) w) := by
  rw [List.length_append, List.length_singleton]
  constructor
  · rintro ⟨h1, h2⟩
    have h3 : w < l.length := by
      rcases Nat.lt_or_ge w l.length with h4 | h4
      · exact h4
      · have : w = l.length := by omega
        subst this
        exact absurd h2 cyc_new
    exact ⟨h3, (cyc_more h h3).1 h2⟩
  · rintro ⟨h1, h2⟩
    exact ⟨by omega, (cyc_more h h1).2 h2⟩

/-- All but the new one. -/
def butN (n : Nat) (b : List Nat) : List Nat := b.filter fun k => decide (k ≠ n)
theorem butN_snoc (n : Nat) (b : List Nat) (k : Nat) : butN n (b ++ [k]) = if k = n then butN n b else butN n b ++ [k] := by
  unfold butN
  rw [List.filter_append]
  by_cases h : k = n <;> simp [h]
theorem mem_butN {n k : Nat} {b : List Nat} : k ∈ butN n b ↔ k ∈ b ∧ k ≠ n := by simp [butN]
theorem greedy_more (h : lostL l < 0) {b : List Nat} (hg : Greedy (ltP (l ++ [⟨s, []⟩])) (nxL (l ++ [⟨s, []⟩])) (l.length + 1) b) : Greedy (ltP l) (nxL l) l.length (butN l.length b) := by
  induction hg with
  | nil => exact .nil
  | @snoc out i g m ih =>
    rw [butN_snoc]
    by_cases e : i = l.length
    · rw [if_pos e]; exact ih
    · rw [if_neg e]
      have hi : i < l.length := by have := m.lt_; omega
      refine .snoc ih ⟨hi, ⟨fun hm => m.so.1 (mem_butN.1 hm).1, fun k hk => ?_⟩, fun j hj hm hne => ?_⟩
      · have hk2 := nxL_lt l i hi k hk
        rw [← nx_more (s := s) h hi] at hk
        exact mem_butN.2 ⟨m.so.2 k hk, by omega⟩
      · refine (ltP_more hi hj).1 (m.le j (by omega) ⟨fun hx => hm.1 (mem_butN.2 ⟨hx, by omega⟩), fun k hk => ?_⟩ hne)
        rw [nx_more h hj] at hk
        exact (mem_butN.1 (hm.2 k hk)).1
theorem butN_len {n : Nat} {b : List Nat} (hd : b.Nodup) (hlt : ∀ i ∈ b, i < n + 1) (hl : b.length = n + 1) : (butN n b).length = n := by
  have h1 : (butN n b).length ≤ n := nodup_le n _ (hd.filter _) fun x hx => by
    have h2 := mem_butN.1 hx
    have := hlt x h2.1
    omega
  have h2 : ∀ b : List Nat, b.Nodup → b.length ≤ (butN n b).length + 1 := by
    intro b
    induction b with
    | nil => intro _; simp
    | cons x b ih =>
      intro hd
      rw [List.nodup_cons] at hd
      by_cases e : x = n
      · subst e
        have : butN x (x :: b) = b := by
          unfold butN
          rw [List.filter_cons_of_neg (by simp), List.filter_eq_self]
          intro a ha
          simp only [decide_eq_true_eq]
          intro e; subst e; exact hd.1 ha
        rw [this]; simp
      · have : butN n (x :: b) = x :: butN n b := by
          unfold butN
          rw [List.filter_cons_of_pos (by simpa using e)]
        rw [this, List.length_cons, List.length_cons]
        have := ih hd.2
        omega
  have := h2 b hd
  omega
/-- What Order says of l and of it with a module more, of a new name, that imports nothing. -/
theorem OrderAns.more (hn : ∀ m ∈ l, m.name ≠ s) {a b : List Nat} {x y e f : Int} (h : OrderAns l a x e) (g : OrderAns (l ++ [⟨s, []⟩]) b y f) :
    (e = 6 → f ≠ 7) ∧ (e ≠ 6 → e = f ∧ (e ≠ 0 → x = y) ∧ (e = 0 → b.length = l.length + 1 ∧ butN l.length b = a)) ∧ (e = 0 ∨ e = 6 ∨ e = 7 ∨ e = 8) := by
  have hA := again_more hn
  cases h with
  | again h1 h2 h3 h4 =>
    cases g with
    | again g1 g2 g3 g4 => exact ⟨fun h => by omega, fun _ => ⟨by omega, fun _ => by omega, fun h => by omega⟩, by omega⟩
    | lost g0 | cycle m g0 | order g0 => omega
  | lost h0 h1 h2 h3 h4 =>
    refine ⟨fun _ e => ?_, fun h => absurd h4 h, by omega⟩
    cases g with
    | again g1 => omega
    | lost g0 g1 g2 g3 g4 | cycle m g0 g1 gm g2 g3 g4 | order g0 g1 gg gl gc g3 g4 => omega
  | cycle m h0 h1 hm h2 h3 h4 =>
    have hL := lost_more (s := s) h1
    obtain ⟨⟨h5, h6⟩, h7⟩ := hm.so m rfl
    cases g with
    | again g1 => omega
    | lost g0 g1 => omega
    | order g0 g1 gg gl gc => exact absurd ((cyc_more (s := s) h1 h5).2 h6) (gc m (by simp; omega))
    | cycle m' g0 g1 gm g2 g3 g4 =>
      obtain ⟨g5, g7⟩ := gm.so m' rfl
      have g6 := (cyc_any (s := s) h1).1 g5
      have e : m = m' := Classical.byContradiction fun hne => by
        have q1 := h7 m' g6 (fun e => hne e.symm)
        have q2 := g7 m ((cyc_any (s := s) h1).2 ⟨h5, h6⟩) hne
        exact ltP_asym _ _ q1 ((ltP_more (s := s) g6.1 h5).1 q2)
      subst e
      exact ⟨fun h => by omega, fun _ => ⟨by omega, fun _ => by omega, fun h => by omega⟩, by omega⟩
  | order h0 h1 hg hl hc h3 h4 =>
    have hL := lost_more (s := s) h1
    cases g with
    | again g1 => omega
    | lost g0 g1 => omega
    | cycle m' g0 g1 gm =>
      obtain ⟨g5, -⟩ := gm.so m' rfl
      have g6 := (cyc_any (s := s) h1).1 g5
      exact absurd g6.2 (hc _ g6.1)
    | order g0 g1 gg gl gc g3 g4 =>
      have hlen : (l ++ [(⟨s, []⟩ : Md)]).length = l.length + 1 := by simp
      rw [hlen] at gg gl
      refine ⟨fun h => by omega, fun _ => ⟨by omega, fun h => absurd h4 h, fun _ => ⟨gl, ?_⟩⟩, by omega⟩
      refine Greedy.one ltP_asym (greedy_more h1 gg) hg ?_
      rw [hl]
      exact butN_len gg.ord.2.1 gg.ord.2.2 gl
end

end Go.Proofs.Ytahaflapkdjmhaa.Gr
