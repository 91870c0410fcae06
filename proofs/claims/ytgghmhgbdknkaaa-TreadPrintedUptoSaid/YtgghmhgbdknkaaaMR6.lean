/-
  The texts TrJ, TrK, TrL, one behind the other. Conditions: those that each of them names.
-/
import Derived.Test.YtgghmhgbdknkaaaMR1
import Derived.Test.YtgghmhgbdknkaaaM6
section
/-
  Plain lists: how many nodes an arrow and a row have, how deep they are, and that a row's nodes are those that ty.Row makes. No conditions but those that each lemma names.
-/
namespace Go.Proofs.Ytgghmhgbdknkaaa.T
open Go

theorem order_perm (ss : List ByteArray) : (order ss).Perm (List.range ss.length) := List.mergeSort_perm _ _

theorem order_sorted (ss : List ByteArray) : (order ss).Pairwise fun i j => ¬ Lib.compareBytes (L.labL ss j) (L.labL ss i) < 0 := by
  have h := List.pairwise_mergeSort (le := fun i j => decide (¬ Lib.compareBytes (L.labL ss j) (L.labL ss i) < 0))
    (fun a b c h1 h2 => by
      simp only [decide_eq_true_eq] at h1 h2 ⊢
      exact L.cB_ntrans h2 h1)
    (fun a b => by
      simp only [Bool.or_eq_true, decide_eq_true_eq]
      have := L.cB_anti (L.labL ss a) (L.labL ss b)
      omega) (List.range ss.length)
  exact h.imp (fun h => by simpa using h)

theorem order_rise {ss : List ByteArray} (hn : ss.Nodup) : L.Rise ss (order ss) := by
  have hp := order_perm ss
  have hs := order_sorted ss
  have hnd : (order ss).Nodup := hp.nodup_iff.2 List.nodup_range
  unfold L.Rise
  rw [List.pairwise_iff_getElem] at hs ⊢
  intro i j hi hj hij
  have h1 := hs i j hi hj hij
  have h2 := L.cB_anti (L.labL ss (order ss)[i]) (L.labL ss (order ss)[j])
  rcases Int.lt_or_le (Lib.compareBytes (L.labL ss (order ss)[i]) (L.labL ss (order ss)[j])) 0 with h3 | h3
  · exact h3
  · exfalso
    have e := L.cB_zero (show Lib.compareBytes (L.labL ss (order ss)[i]) (L.labL ss (order ss)[j]) = 0 by omega)
    have hi' : (order ss)[i] < ss.length := List.mem_range.1 (hp.mem_iff.1 (List.getElem_mem hi))
    have hj' : (order ss)[j] < ss.length := List.mem_range.1 (hp.mem_iff.1 (List.getElem_mem hj))
    rw [labL_some hi', labL_some hj'] at e
    have e2 := L.ba_eq e
    have e3 := (List.getElem_inj hn).1 e2
    have e4 := (List.getElem_inj hnd).1 e3
    omega

theorem foOf_flat : ∀ r : List Tr, (foOf r).flat = r.flatMap Tr.flat
  | [] => rfl
  | t :: r => by simp [foOf, L.Fo.flat, foOf_flat r, Tr.flat]

theorem foOf_deep_le (d : Nat) : ∀ r : List Tr, (foOf r).deep ≤ d ↔ ∀ t ∈ r, t.deep ≤ d
  | [] => by simp [foOf, L.Fo.deep]
  | t :: r => by
    rw [show (foOf (t :: r)).deep = max (t.2.deep + 1) (foOf r).deep from rfl]
    simp only [List.mem_cons, forall_eq_or_imp]
    rw [← foOf_deep_le d r]
    unfold Tr.deep
    omega

theorem arrT_nodes (a b : Tr) : (arrT a b).nodes = 1 + a.nodes + b.nodes := by
  simp only [arrT, Tr.nodes, L.Fo.flat, List.length_cons, List.length_append, List.append_nil]
  omega
theorem arrT_deep (a b : Tr) : (arrT a b).deep = max a.deep b.deep + 1 := by
  simp only [arrT, Tr.deep, L.Fo.deep]
  omega

/-- A row's nodes are what Row makes of its labels and types. -/
theorem rowT_flat (kind : Int) (l : List (ByteArray × Tr)) (ts : List (Value × List L.Nd)) (ht : ts.map (·.2) = l.map (fun p => p.2.flat)) :
    (rowT kind l).flat = ⟨kind, ⟨#[]⟩, (ts.length : Int)⟩ :: rowsL (l.map (·.1)) ts (order (l.map (·.1))) := by
  have hlen : ts.length = l.length := by have := congrArg List.length ht; simpa using this
  unfold rowT Tr.flat
  rw [foOf_flat, hlen]
  congr 1
  unfold rowsL
  rw [List.flatMap_map]
  have hp := order_perm (l.map (·.1))
  have hm : ∀ i ∈ order (l.map (·.1)), i < l.length := fun i hi => by have := hp.mem_iff.1 hi; simpa using this
  clear hp
  generalize order (l.map (·.1)) = ks at *
  induction ks with
  | nil => rfl
  | cons i r ih =>
    simp only [List.flatMap_cons]
    rw [ih (fun j hj => hm j (by simp [hj]))]
    have hi := hm i (by simp)
    congr 1
    have h1 : (ts.getD i (.nilFunc, [])).2 = (l[i]).2.flat := by
      have := congrArg (fun x => x[i]?) ht
      simp only [List.getElem?_map] at this
      have h2 : i < ts.length := by omega
      rw [List.getElem?_eq_getElem h2, List.getElem?_eq_getElem hi] at this
      simp only [Option.map_some, Option.some.injEq] at this
      simp [List.getD, h2, this]
    rw [h1]
    simp [List.getD, hi, named, Tr.flat, L.setName]

theorem sum_perm {f : Nat → Nat} {a b : List Nat} (h : a.Perm b) : (a.map f).sum = (b.map f).sum := by
  induction h with
  | nil => rfl
  | cons x _ ih => simp [ih]
  | swap x y l => simp; omega
  | trans _ _ h1 h2 => exact h1.trans h2

theorem map_range {α : Type} (l : List α) (d : α) : (List.range l.length).map (fun i => l.getD i d) = l := by
  apply List.ext_getElem
  · simp
  · intro i h1 h2
    simp [List.getD, h2]

theorem flat_len : ∀ r : List Tr, (r.flatMap Tr.flat).length = (r.map Tr.nodes).sum
  | [] => rfl
  | t :: r => by
    simp only [List.flatMap_cons, List.length_append, List.map_cons, List.sum_cons, flat_len r, Tr.flat, Tr.nodes, List.length_cons]

theorem named_nodes (p : ByteArray × Tr) : (named p).nodes = p.2.nodes := rfl
theorem named_deep (p : ByteArray × Tr) : (named p).deep = p.2.deep := rfl

theorem rowT_nodes (kind : Int) (l : List (ByteArray × Tr)) : (rowT kind l).nodes = 1 + (l.map fun p => p.2.nodes).sum := by
  have hp := order_perm (l.map (·.1))
  rw [List.length_map] at hp
  have h1 := sum_perm (f := fun i => (l.getD i (e0, (⟨0, e0, 0⟩, .nil))).2.nodes) hp
  have h2 := congrArg (fun x : List (ByteArray × Tr) => (x.map fun p => p.2.nodes).sum) (map_range l (e0, ((⟨0, e0, 0⟩ : L.Nd), L.Fo.nil)))
  simp only [List.map_map, Function.comp_def] at h2
  show (foOf _).flat.length + 1 = _
  rw [foOf_flat, flat_len, List.map_map]
  simp only [Function.comp_def, named_nodes]
  rw [h1, h2]
  omega

/-- The greatest of some numbers, 0 if there are none. -/
def maxD (l : List Nat) : Nat := l.foldl max 0
theorem foldl_max_le (d : Nat) : ∀ (l : List Nat) (a : Nat), l.foldl max a ≤ d ↔ a ≤ d ∧ ∀ x ∈ l, x ≤ d
  | [], a => by simp
  | x :: l, a => by
    rw [List.foldl_cons, foldl_max_le d l (max a x)]
    simp only [List.mem_cons, forall_eq_or_imp]
    rw [Nat.max_le]
    exact and_assoc

theorem rowT_deep (kind : Int) (l : List (ByteArray × Tr)) : (rowT kind l).deep = maxD (l.map fun p => p.2.deep) + 1 := by
  have hp := order_perm (l.map (·.1))
  rw [List.length_map] at hp
  have key : ∀ d, (foOf ((order (l.map (·.1))).map fun i => named (l.getD i (e0, (⟨0, e0, 0⟩, .nil))))).deep ≤ d ↔ maxD (l.map fun p => p.2.deep) ≤ d := by
    intro d
    rw [foOf_deep_le, maxD, foldl_max_le]
    constructor
    · intro h
      refine ⟨Nat.zero_le _, fun x hx => ?_⟩
      obtain ⟨p, hp1, rfl⟩ := List.mem_map.1 hx
      obtain ⟨i, hi, rfl⟩ := List.getElem_of_mem hp1
      have := h (named (l.getD i (e0, (⟨0, e0, 0⟩, .nil)))) (List.mem_map.2 ⟨i, hp.mem_iff.2 (List.mem_range.2 hi), rfl⟩)
      rw [named_deep] at this
      simpa [List.getD, hi] using this
    · rintro ⟨-, h⟩ t ht
      obtain ⟨i, hi, rfl⟩ := List.mem_map.1 ht
      have hi' : i < l.length := List.mem_range.1 (hp.mem_iff.1 hi)
      rw [named_deep]
      have := h _ (List.mem_map.2 ⟨l[i], List.getElem_mem hi', rfl⟩)
      simpa [List.getD, hi'] using this
  show (foOf _).deep + 1 = _
  have h1 := (key _).1 (Nat.le_refl _)
  have h2 := (key _).2 (Nat.le_refl _)
  omega

end Go.Proofs.Ytgghmhgbdknkaaa.T
end

section
/-
  Plain lists: what is read is a tree such as it may be, of no more nodes than tokens, with as many sites as it is told. No conditions but those that each lemma names.
-/
namespace Go.Proofs.Ytgghmhgbdknkaaa.T
open Go

theorem bare_mk {k n : Int} (h : k ≠ 9) : L.bare (⟨k, e0, n⟩ : L.Nd) = true := by
  show (decide ((⟨#[]⟩ : ByteArray).size = 0) && decide (k ≠ 9)) = true
  rw [decide_eq_true h]
  rfl

theorem leafT_ok {k n : Int} (h : (k = 0 ∧ 0 ≤ n) ∨ (1 ≤ k ∧ k ≤ 4 ∧ n = 0)) : (L.Fo.cons (leafT k n).1 (leafT k n).2 .nil).ok = true ∧ L.bare (leafT k n).1 = true := by
  have hb : L.bare (leafT k n).1 = true := bare_mk (by omega)
  refine ⟨?_, hb⟩
  have hn : L.numbered (⟨k, e0, n⟩ : L.Nd) = true := by
    unfold L.numbered
    rcases h with ⟨rfl, h⟩ | ⟨h1, h2, rfl⟩
    · simp [h]
    · rcases (by omega : k = 1 ∨ k = 2 ∨ k = 3 ∨ k = 4) with rfl | rfl | rfl | rfl <;> rfl
  have hm : L.many (⟨k, e0, n⟩ : L.Nd) = 0 := by
    unfold L.many
    rw [if_neg (by simp only; omega), if_neg (by simp only; omega)]
  simp only [leafT, L.Fo.ok, hn, hm, L.Fo.count, L.Fo.stand]
  rfl

theorem arrT_ok {a b : Tr} (ha : (L.Fo.cons a.1 a.2 .nil).ok = true) (hb : (L.Fo.cons b.1 b.2 .nil).ok = true) (ba : L.bare a.1 = true) (bb : L.bare b.1 = true) : (L.Fo.cons (arrT a b).1 (arrT a b).2 .nil).ok = true ∧ L.bare (arrT a b).1 = true := by
  refine ⟨?_, bare_mk (by decide)⟩
  simp only [L.Fo.ok, Bool.and_true, Bool.and_eq_true] at ha hb
  simp only [arrT, L.Fo.ok, Bool.and_true, Bool.and_eq_true]
  exact ⟨⟨⟨rfl, rfl⟩, by simp [L.Fo.stand, L.mayStand, ba, bb]⟩, ha, hb⟩

/-- Rising labels may stand under a row. -/
theorem stand_rise (x : L.Nd) (hx : x.kind = 6 ∨ x.kind = 7) : ∀ (r : List Tr) (k : Nat) (b : ByteArray), (∀ t ∈ r, L.isLabel x.kind t.1.name = true ∧ t.1.kind ≠ 9) → (∀ t ∈ r, Lib.compareBytes b.data.toList t.1.name.data.toList < 0) → r.Pairwise (fun t u => Lib.compareBytes t.1.name.data.toList u.1.name.data.toList < 0) →
    L.Fo.stand x k b (foOf r) = true
  | [], _, _, _, _, _ => rfl
  | t :: r, k, b, h1, h2, h3 => by
    obtain ⟨h4, h5⟩ := List.pairwise_cons.1 h3
    have ih := stand_rise x hx r (k + 1) t.1.name (fun u hu => h1 u (by simp [hu])) h4 h5
    have h6 := h1 t (by simp)
    have h7 := h2 t (by simp)
    have hx5 : ¬ x.kind = 5 := by omega
    simp only [foOf, L.Fo.stand, ih, Bool.and_true, L.mayStand, if_neg hx5, if_neg h6.2, h6.1, Bool.true_and, L.ltB_iff, decide_eq_true_eq]
    exact h7

theorem foOf_ok : ∀ r : List Tr, (∀ t ∈ r, (L.Fo.cons t.1 t.2 .nil).ok = true) → (foOf r).ok = true
  | [], _ => rfl
  | t :: r, h => by
    have h1 := h t (by simp)
    have h2 := foOf_ok r (fun u hu => h u (by simp [hu]))
    simp only [L.Fo.ok, Bool.and_true, Bool.and_eq_true] at h1
    simp only [foOf, L.Fo.ok, Bool.and_eq_true]
    exact ⟨h1, h2⟩

theorem foOf_count : ∀ r : List Tr, (foOf r).count = r.length
  | [] => rfl
  | _ :: r => by simp [foOf, L.Fo.count, foOf_count r]

theorem named_ok {p : ByteArray × Tr} (h : (L.Fo.cons p.2.1 p.2.2 .nil).ok = true) : (L.Fo.cons (named p).1 (named p).2 .nil).ok = true := by
  have hst : ∀ (y : L.Nd) (s : ByteArray) (f : L.Fo) (k : Nat) (b : ByteArray), L.Fo.stand { y with name := s } k b f = L.Fo.stand y k b f := by
    intro y s f
    induction f with
    | nil => intro k b; rfl
    | cons z kz r _ ih => intro k b; simp only [L.Fo.stand, ih]; rfl
  simp only [named, L.Fo.ok, hst] at h ⊢
  exact h

theorem rowT_ok {kind : Int} {l : List (ByteArray × Tr)} (hk : kind = 6 ∨ kind = 7) (hl : l.length ≤ 50) (h7 : kind = 7 → 0 < l.length) (hlab : ∀ p ∈ l, L.isLabel kind p.1 = true) (hnd : (l.map (·.1)).Nodup)
    (hok : ∀ p ∈ l, (L.Fo.cons p.2.1 p.2.2 .nil).ok = true ∧ L.bare p.2.1 = true) : (L.Fo.cons (rowT kind l).1 (rowT kind l).2 .nil).ok = true ∧ L.bare (rowT kind l).1 = true := by
  refine ⟨?_, bare_mk (by omega)⟩
  have hp := order_perm (l.map (·.1))
  have hr := order_rise hnd
  rw [List.length_map] at hp
  have hlt : ∀ i ∈ order (l.map (·.1)), i < l.length := fun i hi => List.mem_range.1 (hp.mem_iff.1 hi)
  have hmem : ∀ t ∈ (order (l.map (·.1))).map fun i => named (l.getD i (e0, (⟨0, e0, 0⟩, .nil))), ∃ p ∈ l, t = named p := fun t ht => by
    obtain ⟨i, hi, rfl⟩ := List.mem_map.1 ht
    have hi' := hlt i hi
    exact ⟨l[i], List.getElem_mem hi', by simp [List.getD, hi']⟩
  have hlen : ((order (l.map (·.1))).map fun i => named (l.getD i (e0, (⟨0, e0, 0⟩, .nil)))).length = l.length := by rw [List.length_map, hp.length_eq, List.length_range]
  have hnum : L.numbered (⟨kind, e0, (l.length : Int)⟩ : L.Nd) = true := by
    unfold L.numbered
    rcases hk with rfl | rfl
    · simp; omega
    · have := h7 rfl
      simp; omega
  have hmany : L.many (⟨kind, e0, (l.length : Int)⟩ : L.Nd) = (l.length : Int) := by
    unfold L.many
    rw [if_neg (by simp only; omega), if_pos (by simpa using hk)]
  have hrise : ((order (l.map (·.1))).map fun i => named (l.getD i (e0, (⟨0, e0, 0⟩, .nil)))).Pairwise (fun t u => Lib.compareBytes t.1.name.data.toList u.1.name.data.toList < 0) := by
    rw [List.pairwise_map]
    unfold L.Rise at hr
    refine List.Pairwise.imp_of_mem (fun {a b} ha hb hab => ?_) hr
    have ha' := hlt a ha
    have hb' := hlt b hb
    simpa [named, L.labL, List.getD, ha', hb'] using hab
  simp only [rowT, L.Fo.ok, Bool.and_true, Bool.and_eq_true]
  refine ⟨⟨⟨hnum, ?_⟩, ?_⟩, foOf_ok _ (fun t ht => ?_)⟩
  · apply decide_eq_true
    rw [foOf_count, hlen]
    exact hmany
  · refine stand_rise _ hk _ 0 _ (fun t ht => ?_) (fun t ht => ?_) hrise
    · obtain ⟨p, hp1, rfl⟩ := hmem t ht
      refine ⟨hlab p hp1, ?_⟩
      have := (hok p hp1).2
      simp only [L.bare, Bool.and_eq_true, decide_eq_true_eq] at this
      exact this.2
    · obtain ⟨p, hp1, rfl⟩ := hmem t ht
      refine L.cB_nil (fun h0 => ?_)
      have h1 := hlab p hp1
      have h2 : p.1.size = 0 := by
        have := congrArg List.length h0
        simpa [named] using this
      simp [L.isLabel, nameB, h2] at h1
  · obtain ⟨p, hp1, rfl⟩ := hmem t ht
    exact named_ok (hok p hp1).1

end Go.Proofs.Ytgghmhgbdknkaaa.T
end

section
/-
  Plain lists: what typeF reads: a tree such as it may be, plain, of no more nodes than tokens; the places and the sites go on. Condition: the next site's number is not negative.
-/
namespace Go.Proofs.Ytgghmhgbdknkaaa.T
open Go

/-- How the sites go on. -/
def Went (s s' : S) (n : Nat) : Prop := ∃ new : List Si, s'.sites = s.sites ++ new ∧ s'.site = s.site + (new.length : Int) ∧ new.length ≤ n

theorem Went.refl (s : S) (p : Nat) (n : Nat) : Went s ⟨p, s.site, s.sites⟩ n := ⟨[], by simp, by simp, by simp⟩
theorem Went.trans {a b c : S} {n m : Nat} (h : Went a b n) (k : Went b c m) : Went a c (n + m) := by
  obtain ⟨x, h1, h2, h3⟩ := h
  obtain ⟨y, k1, k2, k3⟩ := k
  exact ⟨x ++ y, by rw [k1, h1, List.append_assoc], by rw [k2, h2]; simp only [List.length_append]; omega, by simp only [List.length_append]; omega⟩
theorem Went.mono {a b : S} {n m : Nat} (h : Went a b n) (hn : n ≤ m) : Went a b m := by
  obtain ⟨x, h1, h2, h3⟩ := h
  exact ⟨x, h1, h2, by omega⟩
theorem Went.site {a b : S} {n : Nat} (h : Went a b n) (h0 : 0 ≤ a.site) : 0 ≤ b.site := by
  obtain ⟨x, _, h2, _⟩ := h
  omega

structure Got (l : List Tk) (s s' : S) (t : Tr) : Prop where
  ok : (L.Fo.cons t.1 t.2 .nil).ok = true
  bare : L.bare t.1 = true
  plain : ∀ z ∈ t.flat, z.kind ≠ 8 ∧ z.kind ≠ 9
  lt : s.pl < s'.pl
  le : s'.pl ≤ l.length
  nodes : t.nodes + s.pl ≤ s'.pl
  went : Went s s' (s'.pl - s.pl)

def GoodP (l : List Tk) (A : P) : Prop := ∀ s, 0 ≤ s.site → ∀ t s', A s = .ok t s' → Got l s s' t

theorem isSign_lt {l : List Tk} {p : Nat} {k : ByteArray} (h : isSign l p k = true) : p < l.length := by
  unfold isSign at h
  rcases Nat.lt_or_ge p l.length with h1 | h1
  · exact h1
  · rw [List.getElem?_eq_none h1] at h; cases h

theorem take_ok {l : List Tk} {s s' : S} {k : ByteArray} {u : Unit} (h : take l s k = .ok u s') : s' = ⟨s.pl + 1, s.site, s.sites⟩ ∧ s.pl < l.length := by
  unfold take at h
  split at h
  · rename_i hs
    injection h with _ h2
    exact ⟨h2.symm, isSign_lt hs⟩
  · cases h

theorem bind_ok {α β : Type} {r : R α} {f : α → S → R β} {b : β} {s' : S} (h : r.bind f = .ok b s') : ∃ a s1, r = .ok a s1 ∧ f a s1 = .ok b s' := by
  cases r with
  | ok a s1 => exact ⟨a, s1, rfl, h⟩
  | bad p e => cases h

theorem isLab_ok {l : List Tk} {kind : Int} {p : Nat} {t : ByteArray} (h : isLab l kind p = some t) : L.isLabel kind t = true ∧ p < l.length := by
  unfold isLab at h
  rcases Nat.lt_or_ge p l.length with h1 | h1
  · rw [List.getElem?_eq_getElem h1] at h
    simp only at h
    by_cases hh : (decide (l[p].kind = (if kind = 6 then 1 else 2)) && L.isLabel kind l[p].text) = true
    · rw [if_pos hh] at h
      injection h with h
      subst h
      simp only [Bool.and_eq_true] at hh
      exact ⟨hh.2, h1⟩
    · rw [if_neg hh] at h; cases h
  · rw [List.getElem?_eq_none h1] at h; cases h

/-- The rows' items that are right. -/
structure Items (kind : Int) (l : List (ByteArray × Tr)) : Prop where
  lab : ∀ p ∈ l, L.isLabel kind p.1 = true
  nd : (l.map (·.1)).Nodup
  ok : ∀ p ∈ l, (L.Fo.cons p.2.1 p.2.2 .nil).ok = true ∧ L.bare p.2.1 = true
  plain : ∀ p ∈ l, ∀ z ∈ p.2.flat, z.kind ≠ 8 ∧ z.kind ≠ 9

theorem rowF_got {l : List Tk} {A : P} (hA : GoodP l A) {kind : Int} : ∀ (n : Nat) (acc : List (ByteArray × Tr)) (s : S) (t : Tr) (s' : S), acc.length + n = 50 → Items kind acc → 0 ≤ s.site → rowF l A kind n acc s = .ok t s' →
    ∃ its, t = rowT kind its ∧ acc.length < its.length ∧ its.length ≤ 50 ∧ Items kind its ∧ s.pl < s'.pl ∧ s'.pl ≤ l.length ∧ (its.map fun p => p.2.nodes).sum + s.pl ≤ s'.pl + (acc.map fun p => p.2.nodes).sum ∧ Went s s' (s'.pl - s.pl) := by
  intro n
  induction n with
  | zero =>
    intro acc s t s' _ _ _ h
    unfold rowF at h
    split at h
    · cases h
    · split at h <;> cases h
  | succ n ih =>
    intro acc s t s' hn hI h0 h
    unfold rowF at h
    split at h
    · cases h
    · rename_i lb hlb
      split at h
      · cases h
      · rename_i hnew
        obtain ⟨hl1, hl2⟩ := isLab_ok hlb
        obtain ⟨u, s1, h1, h⟩ := bind_ok h
        obtain ⟨rfl, h1l⟩ := take_ok h1
        obtain ⟨x, s2, h2, h⟩ := bind_ok h
        have g := hA _ (by exact h0) x s2 h2
        have hI2 : Items kind (acc ++ [(lb, x)]) := by
          refine ⟨fun p hp => ?_, ?_, fun p hp => ?_, fun p hp => ?_⟩
          · rcases List.mem_append.1 hp with hp | hp
            · exact hI.lab p hp
            · rw [List.mem_singleton.1 hp]; exact hl1
          · rw [List.map_append, List.nodup_append]
            refine ⟨hI.nd, by simp, fun a ha b hb => ?_⟩
            simp only [List.map_cons, List.map_nil, List.mem_singleton] at hb
            subst hb
            rintro rfl
            obtain ⟨p, hp, rfl⟩ := List.mem_map.1 ha
            exact hnew (List.any_eq_true.2 ⟨p, hp, by simp⟩)
          · rcases List.mem_append.1 hp with hp | hp
            · exact hI.ok p hp
            · rw [List.mem_singleton.1 hp]; exact ⟨g.ok, g.bare⟩
          · rcases List.mem_append.1 hp with hp | hp
            · exact hI.plain p hp
            · rw [List.mem_singleton.1 hp]; exact g.plain
        have hw1 : Went s s2 (s2.pl - s.pl) := (g.went).mono (by have := g.lt; simp only at this ⊢; omega)
        have glt := g.lt
        have gn := g.nodes
        simp only at glt gn
        split at h
        · obtain ⟨its, e1, e2, e3, e4, e5, e6, e7, e8⟩ := ih _ _ _ _ (by rw [List.length_append]; simp only [List.length_cons, List.length_nil]; omega) hI2 (by exact g.went.site h0) h
          rw [List.length_append] at e2
          simp only [List.length_cons, List.length_nil] at e2
          simp only [List.map_append, List.map_cons, List.map_nil, List.sum_append, List.sum_cons, List.sum_nil] at e7
          simp only at e5 e7
          refine ⟨its, e1, by omega, e3, e4, by omega, e6, by omega, ?_⟩
          have h8 : Went s2 s' (s'.pl - (s2.pl + 1)) := e8
          exact (hw1.trans h8).mono (by omega)
        · obtain ⟨u, s3, h3, h⟩ := bind_ok h
          obtain ⟨rfl, h3l⟩ := take_ok h3
          injection h with h4 h5
          subst h5
          refine ⟨_, h4.symm, by simp, by rw [List.length_append]; simp only [List.length_cons, List.length_nil]; omega, hI2, by simp only; omega, by simp only; omega, ?_, ?_⟩
          · simp only [List.map_append, List.map_cons, List.map_nil, List.sum_append, List.sum_cons, List.sum_nil]
            omega
          · exact (hw1.trans (Went.refl s2 (s2.pl + 1) 0)).mono (by simp only; omega)

theorem leafT_got {l : List Tk} {s s' : S} {k n : Int} (h : (k = 0 ∧ 0 ≤ n) ∨ (1 ≤ k ∧ k ≤ 4 ∧ n = 0)) (hl : s.pl < l.length) (hp : s'.pl = s.pl + 1) (hw : Went s s' 1) : Got l s s' (leafT k n) where
  ok := (leafT_ok h).1
  bare := (leafT_ok h).2
  plain := fun z hz => by
    simp only [Tr.flat, leafT, L.Fo.flat, List.mem_singleton] at hz
    subst hz
    simp only
    omega
  lt := by omega
  le := by omega
  nodes := by simp only [Tr.nodes, leafT, L.Fo.flat, List.length_nil]; omega
  went := hw.mono (by omega)

theorem rowT_plain {kind : Int} (hk : kind = 6 ∨ kind = 7) {l : List (ByteArray × Tr)} (h : ∀ p ∈ l, ∀ z ∈ p.2.flat, z.kind ≠ 8 ∧ z.kind ≠ 9) : ∀ z ∈ (rowT kind l).flat, z.kind ≠ 8 ∧ z.kind ≠ 9 := by
  intro z hz
  have hp := order_perm (l.map (·.1))
  rw [List.length_map] at hp
  simp only [rowT, Tr.flat, List.mem_cons] at hz
  rcases hz with rfl | hz
  · simp only; omega
  · rw [foOf_flat] at hz
    obtain ⟨t, ht, hz⟩ := List.mem_flatMap.1 hz
    obtain ⟨i, hi, rfl⟩ := List.mem_map.1 ht
    have hi' : i < l.length := List.mem_range.1 (hp.mem_iff.1 hi)
    have hg : l.getD i (e0, (⟨0, e0, 0⟩, .nil)) = l[i] := by simp [List.getD, hi']
    rw [hg] at hz
    have hm := h _ (List.getElem_mem hi')
    simp only [named, Tr.flat, List.mem_cons] at hz
    rcases hz with rfl | hz
    · exact hm (l[i]).2.1 (by simp [Tr.flat])
    · exact hm z (by simp [Tr.flat, hz])

theorem operF_got {l : List Tk} {A : Option P} (hA : ∀ B, A = some B → GoodP l B) : GoodP l (operF l A) := by
  intro s h0 t s' h
  unfold operF at h
  split at h
  · cases h
  · rename_i tk htk
    have hl : s.pl < l.length := by
      rcases Nat.lt_or_ge s.pl l.length with h1 | h1
      · exact h1
      · rw [List.getElem?_eq_none h1] at htk; cases htk
    split at h
    · injection h with h1 h2
      subst h1 h2
      exact leafT_got (Or.inl ⟨rfl, h0⟩) hl rfl ⟨[⟨tk.fr, tk.to⟩], rfl, rfl, Nat.le_refl _⟩
    · split at h
      · split at h
        · cases h
        · rename_i B
          obtain ⟨x, s1, h1, h⟩ := bind_ok h
          obtain ⟨u, s2, h2, h⟩ := bind_ok h
          obtain ⟨rfl, h2l⟩ := take_ok h2
          injection h with h3 h4
          subst h3 h4
          have g := hA B rfl _ (by exact h0) x s1 h1
          have glt := g.lt
          have gn := g.nodes
          simp only at glt gn
          exact ⟨g.ok, g.bare, g.plain, by simp only; omega, by simp only; omega, by simp only; omega, ((g.went).trans (Went.refl s1 (s1.pl + 1) 0)).mono (by simp only; omega)⟩
      · split at h
        · split at h
          · cases h
          · rename_i B
            split at h
            · rename_i hr
              have hr2 := isSign_lt hr
              injection h with h1 h2
              subst h1 h2
              obtain ⟨k1, k2⟩ := rowT_ok (kind := 6) (l := []) (Or.inl rfl) (by simp) (by simp) (by simp) (by simp) (by simp)
              exact ⟨k1, k2, rowT_plain (Or.inl rfl) (by simp), by simp only; omega, by simp only; omega, by rw [rowT_nodes]; simp; omega, (Went.refl s _ 0).mono (by omega)⟩
            · obtain ⟨its, e1, e2, e3, e4, e5, e6, e7, e8⟩ := rowF_got (hA B rfl) 50 [] _ t s' rfl ⟨by simp, by simp, by simp, by simp⟩ (by exact h0) h
              subst e1
              simp only [List.map_nil, List.sum_nil] at e5 e7
              obtain ⟨k1, k2⟩ := rowT_ok (kind := 6) (Or.inl rfl) e3 (fun h => by omega) e4.lab e4.nd e4.ok
              have h8 : Went s s' (s'.pl - (s.pl + 1)) := e8
              exact ⟨k1, k2, rowT_plain (Or.inl rfl) e4.plain, by omega, e6, by rw [rowT_nodes]; omega, h8.mono (by omega)⟩
        · split at h
          · split at h
            · cases h
            · rename_i B
              obtain ⟨its, e1, e2, e3, e4, e5, e6, e7, e8⟩ := rowF_got (hA B rfl) 50 [] _ t s' rfl ⟨by simp, by simp, by simp, by simp⟩ (by exact h0) h
              subst e1
              simp only [List.map_nil, List.sum_nil, List.length_nil] at e2 e5 e7
              obtain ⟨k1, k2⟩ := rowT_ok (kind := 7) (Or.inr rfl) e3 (fun _ => e2) e4.lab e4.nd e4.ok
              have h8 : Went s s' (s'.pl - (s.pl + 1)) := e8
              exact ⟨k1, k2, rowT_plain (Or.inr rfl) e4.plain, by omega, e6, by rw [rowT_nodes]; omega, h8.mono (by omega)⟩
          · split at h
            · cases h
            · rename_i hb
              injection h with h1 h2
              subst h1 h2
              have hb4 : T.baseK tk ≤ 4 := by
                unfold baseK
                repeat' split
                all_goals omega
              have hb1 : T.baseK tk ≠ 0 := by
                unfold baseK
                repeat' split
                all_goals omega
              exact leafT_got (Or.inr ⟨by omega, hb4, rfl⟩) hl rfl ((Went.refl s _ 0).mono (by omega))

theorem wholeF_got {l : List Tk} {A : Option P} (hA : ∀ B, A = some B → GoodP l B) : GoodP l (wholeF l A) := by
  intro s h0 t s' h
  unfold wholeF at h
  obtain ⟨a, s1, h1, h⟩ := bind_ok h
  have g := operF_got hA s h0 a s1 h1
  split at h
  · cases A with
    | none => cases h
    | some B =>
      simp only at h
      obtain ⟨b, s2, h2, h⟩ := bind_ok h
      injection h with h3 h4
      subst h3 h4
      have k := hA B rfl _ (by exact g.went.site h0) b s2 h2
      obtain ⟨o1, o2⟩ := arrT_ok g.ok k.ok g.bare k.bare
      have glt := g.lt
      have gn := g.nodes
      have klt := k.lt
      have kn := k.nodes
      simp only at klt kn
      refine ⟨o1, o2, fun z hz => ?_, by omega, k.le, by rw [arrT_nodes]; omega, ?_⟩
      · simp only [arrT, Tr.flat, L.Fo.flat, List.append_nil, List.mem_cons, List.mem_append] at hz
        rcases hz with rfl | rfl | hz | rfl | hz
        · simp only; omega
        · exact g.plain _ (by simp [Tr.flat])
        · exact g.plain z (by simp [Tr.flat, hz])
        · exact k.plain _ (by simp [Tr.flat])
        · exact k.plain z (by simp [Tr.flat, hz])
      · have h8 : Went s1 s2 (s2.pl - (s1.pl + 1)) := k.went
        exact (g.went.trans h8).mono (by omega)
  · injection h with h3 h4
    subst h3 h4
    exact g

/-- What typeF reads is such a tree. -/
theorem typeF_got (l : List Tk) : ∀ d : Nat, GoodP l (typeF l d)
  | 0 => wholeF_got (fun B h => by cases h)
  | d + 1 => wholeF_got (fun B h => by
    injection h with h
    subst h
    exact typeF_got l d)

end Go.Proofs.Ytgghmhgbdknkaaa.T
end
