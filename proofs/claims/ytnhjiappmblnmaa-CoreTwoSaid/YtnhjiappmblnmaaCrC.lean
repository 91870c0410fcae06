/-
  What core's trial has in memory; the walks of its closures. Conditions: at most 1000 bad sets.
-/
import Derived.Test.YtnhjiappmblnmaaCrA
import Derived.Maps.OwnRows
import Derived.Maps.GroupsBeside
import Derived.Maps.Views
namespace Go.Proofs.Ytnhjiappmblnmaa.Cr
open Go
/-- The places of the sets that have a number. -/
def holdN (bad : List (List Int)) (x : Int) : List Nat := (List.range bad.length).filter fun i => decide (x ∈ (bad[i]?).getD [])
/-- How many of a set's numbers another one lacks. -/
def lackN (b S : List Int) : Int := (b.countP fun x => !decide (x ∈ S) : Nat)
def lacks (bad : List (List Int)) (S : List Int) : List Int := bad.map fun b => lackN b S
/-- Numbers changed by as much at some places. -/
def chg (d : Int) : List Int → List Nat → List Int
  | L, [] => L
  | L, p :: ps => chg d (L.set p ((L[p]?).getD 0 + d)) ps
theorem chg_snoc (d : Int) : ∀ (ps : List Nat) (L : List Int) (p : Nat), chg d L (ps ++ [p]) = (chg d L ps).set p (((chg d L ps)[p]?).getD 0 + d)
  | [], _, _ => rfl
  | q :: ps, L, p => by simp only [List.cons_append, chg]; exact chg_snoc d ps _ p
theorem chg_len (d : Int) : ∀ (ps : List Nat) (L : List Int), (chg d L ps).length = L.length
  | [], _ => rfl
  | p :: ps, L => by rw [chg, chg_len d ps]; simp
theorem chg_at (d : Int) : ∀ (ps : List Nat) (L : List Int), ps.Nodup → (∀ p ∈ ps, p < L.length) → ∀ i, (chg d L ps)[i]? = if i ∈ ps then some ((L[i]?).getD 0 + d) else L[i]?
  | [], L, _, _, i => by simp [chg]
  | p :: ps, L, hn, hl, i => by
    rw [List.nodup_cons] at hn
    rw [chg, chg_at d ps _ hn.2 (fun q hq => by simpa using hl q (by simp [hq])) i]
    have hp := hl p (by simp)
    by_cases e : i = p
    · subst e
      rw [if_neg hn.1, if_pos (by simp)]
      simp [hp]
    · have e2 : ¬ p = i := fun h => e h.symm
      by_cases g : i ∈ ps
      · rw [if_pos g, if_pos (by simp [g])]
        simp [e2]
      · rw [if_neg g, if_neg (by simp [g, e])]
        simp [e2]
theorem holdN_lt {bad : List (List Int)} {x : Int} : ∀ p ∈ holdN bad x, p < bad.length := fun p hp => by
  unfold holdN at hp
  rw [List.mem_filter, List.mem_range] at hp
  exact hp.1
theorem holdN_nodup (bad : List (List Int)) (x : Int) : (holdN bad x).Nodup := List.Pairwise.filter _ List.nodup_range
theorem holdN_len (bad : List (List Int)) (x : Int) : (holdN bad x).length ≤ bad.length := by
  unfold holdN
  refine Nat.le_trans (List.length_filter_le _ _) ?_
  simp
theorem holdN_mem (bad : List (List Int)) (x : Int) (i : Nat) : i ∈ holdN bad x ↔ ∃ h : i < bad.length, x ∈ bad[i] := by
  unfold holdN
  rw [List.mem_filter, List.mem_range]
  constructor
  · rintro ⟨h, g⟩
    exact ⟨h, by simpa [h] using g⟩
  · rintro ⟨h, g⟩
    exact ⟨h, by simpa [h] using g⟩
theorem countP_one (p q : Int → Bool) (n : Int) (h : ∀ x, x ≠ n → p x = q x) : ∀ b : List Int, b.Nodup → (b.countP p : Int) = b.countP q + if n ∈ b then ((if p n = true then 1 else 0) - (if q n = true then 1 else 0)) else 0
  | [], _ => by simp
  | x :: b, hb => by
    rw [List.nodup_cons] at hb
    have ih := countP_one p q n h b hb.2
    rw [List.countP_cons, List.countP_cons]
    by_cases e : x = n
    · subst e
      rw [if_neg hb.1] at ih
      have hm : x ∈ x :: b := by simp
      rw [if_pos hm]
      have ih2 : b.countP p = b.countP q := by omega
      rw [ih2]
      cases p x <;> cases q x <;> simp <;> omega
    · have e2 : ¬ n = x := fun h => e h.symm
      have g := h x e
      rw [g]
      by_cases hm : n ∈ b
      · rw [if_pos hm] at ih
        have hm2 : n ∈ x :: b := by simp [hm]
        rw [if_pos hm2]
        omega
      · rw [if_neg hm] at ih
        have hm2 : ¬ n ∈ x :: b := by simp [hm, e2]
        rw [if_neg hm2]
        omega
/-- A number more. -/
theorem lackN_cons {b S : List Int} {n : Int} (hb : b.Nodup) (hn : n ∉ S) : lackN b (n :: S) = lackN b S + if n ∈ b then -1 else 0 := by
  unfold lackN
  rw [countP_one (fun x => !decide (x ∈ n :: S)) (fun x => !decide (x ∈ S)) n (fun x hx => by simp [hx]) b hb]
  simp [hn]
/-- A number less. -/
theorem lackN_without {b S : List Int} {n : Int} (hb : b.Nodup) (hn : n ∈ S) : lackN b (withoutL S n) = lackN b S + if n ∈ b then 1 else 0 := by
  unfold lackN
  rw [countP_one (fun x => !decide (x ∈ withoutL S n)) (fun x => !decide (x ∈ S)) n (fun x hx => by simp [mem_without, hx]) b hb]
  simp [hn, mem_without]
theorem lacks_chg {bad : List (List Int)} {S T : List Int} {n d : Int} (h : ∀ b ∈ bad, lackN b T = lackN b S + if n ∈ b then d else 0) : lacks bad T = chg d (lacks bad S) (holdN bad n) := by
  apply List.ext_getElem?
  intro i
  rw [chg_at d _ _ (holdN_nodup bad n) (fun p hp => by simpa [lacks] using holdN_lt p hp)]
  unfold lacks
  by_cases hi : i < bad.length
  · have hb := h bad[i] (List.getElem_mem hi)
    by_cases g : n ∈ bad[i]
    · rw [if_pos ((holdN_mem _ _ _).2 ⟨hi, g⟩)]
      rw [if_pos g] at hb
      simp [hi, hb]
    · rw [if_neg fun k => g ((holdN_mem _ _ _).1 k).2]
      rw [if_neg g] at hb
      simp [hi, hb]
  · rw [if_neg fun k => hi ((holdN_mem _ _ _).1 k).1]
    simp [hi]
theorem lackN_zero (b S : List Int) : lackN b S = 0 ↔ ∀ x ∈ b, x ∈ S := by
  unfold lackN
  rw [show (0 : Int) = ((0 : Nat) : Int) from rfl, Int.natCast_inj, List.countP_eq_zero]
  simp
/-- How many lack none. -/
def zeros (L : List Int) : Nat := L.countP fun x => decide (x = 0)
theorem zeros_le (L : List Int) : zeros L ≤ L.length := List.countP_le_length
theorem zeros_lacks (bad : List (List Int)) (S : List Int) : (zeros (lacks bad S) = 0) ↔ fitsB bad S = true := by
  unfold zeros lacks
  rw [List.countP_eq_zero, fitsB_iff]
  simp only [List.mem_map, decide_eq_true_eq]
  constructor
  · intro h b hb g
    exact h _ ⟨b, hb, rfl⟩ ((lackN_zero _ _).2 g)
  · rintro h _ ⟨b, hb, rfl⟩ g
    exact h b hb ((lackN_zero _ _).1 g)
theorem zeros_set (L : List Int) (p : Nat) (hp : p < L.length) (y : Int) : (zeros (L.set p y) : Int) = zeros L - (if L[p] = 0 then 1 else 0) + if y = 0 then 1 else 0 := by
  have key : ∀ (L : List Int) (p : Nat) (hp : p < L.length), (zeros (L.set p y) : Int) + (if L[p] = 0 then 1 else 0) = zeros L + if y = 0 then 1 else 0 := by
    intro L
    induction L with
    | nil => intro p hp; simp at hp
    | cons a L ih =>
      intro p hp
      cases p with
      | zero =>
        unfold zeros
        rw [List.set_cons_zero, List.countP_cons, List.countP_cons]
        simp only [List.getElem_cons_zero, decide_eq_true_eq]
        by_cases h1 : a = 0 <;> by_cases h2 : y = 0 <;> simp [h1, h2] <;> omega
      | succ p =>
        have := ih p (by simpa using hp)
        unfold zeros at this ⊢
        rw [List.set_cons_succ, List.countP_cons, List.countP_cons]
        simp only [List.getElem_cons_succ]
        omega
  have := key L p hp
  omega
/-- Numbers that are not far from 0. -/
def Near (K : Int) (L : List Int) : Prop := ∀ x ∈ L, -K ≤ x ∧ x ≤ K
theorem Near.set {K : Int} {L : List Int} (h : Near K L) {p : Nat} (hp : p < L.length) {d : Int} (hd : -1 ≤ d ∧ d ≤ 1) : Near (K + 1) (L.set p (L[p] + d)) := fun x hx => by
  rcases List.mem_or_eq_of_mem_set hx with hx | rfl
  · have := h x hx; omega
  · have := h L[p] (List.getElem_mem hp); omega
theorem lacks_near {bad : List (List Int)} (h : ∀ b ∈ bad, b.length ≤ 1000) (S : List Int) : Near 1000 (lacks bad S) := fun x hx => by
  unfold lacks at hx
  rw [List.mem_map] at hx
  obtain ⟨b, hb, rfl⟩ := hx
  unfold lackN
  have h1 : (b.countP fun x => !decide (x ∈ S)) ≤ b.length := List.countP_le_length
  have := h b hb
  omega
end Go.Proofs.Ytnhjiappmblnmaa.Cr
namespace Go.Proofs.Ytnhjiappmblnmaa
open Go.RowKit Go.Maps Go.ChangeMaps Go.ChangeShapes

def natZ (l : List Nat) : List Int := l.map fun k : Nat => (k : Int)
/-- D tells of each number where it stands. -/
def HoldD (D : DataW Unit) (f : Int → List Nat) : Prop := ∀ x : Int, (D.atKey (.int .i64 x) .nil = .nil ∧ f x = []) ∨ D.atKey (.int .i64 x) .nil = .slice (lits .i64 (natZ (f x))) []
theorem lits_inj : ∀ {a b : List Int}, (lits .i64 a : List (DataW Unit)) = lits .i64 b → a = b
  | [], [], _ => rfl
  | [], _ :: _, h => by simp [lits] at h
  | _ :: _, [], h => by simp [lits] at h
  | x :: a, y :: b, h => by
    simp only [lits, List.map_cons, List.cons.injEq, DataW.lit.injEq, Lit.int.injEq, true_and] at h
    rw [h.1, lits_inj h.2]
theorem HoldD.nil : HoldD (.map []) (fun _ => []) := fun _ => Or.inl ⟨rfl, rfl⟩
theorem HoldD.read {D : DataW Unit} {f : Int → List Nat} (h : HoldD D f) {x : Int} {v : Value} {zs : List Int} {w : World} {B : Nat} {e : TypeId} (hd : D.atKey (.int .i64 x) .nil = rowDatum .i64 v zs) (ho : w.ownsInts B e .i64 v zs) : zs = natZ (f x) := by
  rcases ho.datum (H := Unit) with ⟨e1, e2⟩ | e1
  · rw [e1] at hd
    rcases h x with ⟨-, g⟩ | g
    · rw [e2, g]; rfl
    · rw [g] at hd; cases hd
  · rw [e1] at hd
    rcases h x with ⟨g1, g⟩ | g
    · rw [g1] at hd; cases hd
    · rw [g] at hd
      simp only [DataW.slice.injEq, and_true] at hd
      exact (lits_inj hd).symm
theorem HoldD.put {D : DataW Unit} {f : Int → List Nat} (hm : IsMap D) (h : HoldD D f) {x : Int} {v : Value} {zs : List Int} {w : World} {B : Nat} {e : TypeId} (ho : w.ownsInts B e .i64 v zs) (hne : zs ≠ []) {g : Int → List Nat} (hx : natZ (g x) = zs) (hg : ∀ y, y ≠ x → g y = f y) : HoldD (D.put (.int .i64 x) (rowDatum .i64 v zs)) g := fun y => by
  by_cases e : y = x
  · subst e
    rw [atKey_put_same hm (show WideAt.IsKeyLit (.int .i64 y) from trivial), ho.datum_pos hne, hx]
    exact Or.inr rfl
  · rw [atKey_put_other (fun k => by simp only [Lit.int.injEq, true_and] at k; exact e k), hg y e]
    exact h y
theorem groups_isMap {w : World} {P : Program} {k : TypeId} {base : Nat} {e : TypeId} {q : IntKind} {b n : Nat} {D : DataW Unit} (h : w.ownsGroups P k base e q b n D) : IsMap D := by
  obtain ⟨es, clock, -, -, -, rfl, -⟩ := h
  exact ⟨_, rfl⟩
/-- What other blocks hold is all one. -/
theorem groups_fr {Q : Nat → Prop} {w w' : World} {P : Program} {k : TypeId} {base : Nat} {e : TypeId} {q : IntKind} {b n : Nat} {D : DataW Unit} (h : w.ownsGroups P k base e q b n D) (hf : Fr Q w w') (hb' : ¬ Q b)
    (hrow : ∀ es clock, w.heap[b]? = some (.map es clock) → ∀ x ∈ es.toList, ∀ g, x.val.ownBlock = some g → base ≤ g → ¬ Q g) : w'.ownsGroups P k base e q b n D := by
  obtain ⟨es, clock, hb, F, hs, rfl, hbb, hlen, hap⟩ := h
  have keep : ∀ x ∈ es.toList, ∀ zs, w.ownsInts base e q x.val zs → w'.ownsInts base e q x.val zs := fun x hx zs ho =>
    ⟨row_kept ho.1 fun g hg => hf.block g (World.ownsRow.lt ho.1 g hg).2 (hrow es clock hb x hx g hg (World.ownsRow.lt ho.1 g hg).1), ho.2⟩
  have hst : ∀ x ∈ es.toList, ∀ z, rowElem (H := Unit) w base e q x.val = some z → rowElem w' base e q x.val = some z := fun x hx z hz => by
    obtain ⟨zs, ho, rfl⟩ := rowElem_inv hz
    exact rowElem_mk (keep x hx zs ho)
  obtain ⟨F1, hmap, _⟩ := F.stay hst
  refine ⟨es, clock, hf.heap hb hb', F1, hs, by rw [hmap], hbb, fun x hx zs ho => ?_, hap⟩
  obtain ⟨y, hy⟩ := F.reads x hx
  obtain ⟨z, hz, _⟩ := WideElems.rd_val hy
  obtain ⟨zs0, ho0, _⟩ := rowElem_inv hz
  rw [ho.unique (keep x hx zs0 ho0)]
  exact hlen x hx zs0 ho0

/-- What a trial has in memory: s + 1 the map, s + 2 its box, s + 3 what each bad set lacks, s + 4 its box, s + 5 how many lack none, fb the closure that changes; c: the number in s + 5. -/
structure TrC (w : World) (s fb M1 : Nat) (bad : List (List Int)) (L : List Int) (c : Int) : Prop where
  map : ∃ (n : Nat) (D : DataW Unit), n ≤ 2000000 ∧ w.ownsGroups Try.prog 3 (s + 6) 3 .i64 (s + 1) n D ∧ HoldD D (Cr.holdN bad) ∧ w.Shuns (s + 1) (fun g => M1 ≤ g)
  box : w.heap[s + 2]? = some (.cells #[.map (some (s + 1))] 44 (0, 0))
  row : w.heap[s + 3]? = some (.cells (L.map (Value.int .i64)).toArray 3 (0, 0))
  lbox : w.heap[s + 4]? = some (.cells #[.slice (some ⟨s + 3, 0, none⟩) L.length L.length] 22 (0, 0))
  cbox : w.heap[s + 5]? = some (.cells #[.int .i64 c] 3 (0, 0))
  fbox : w.heap[fb]? = some (.cells #[.func (.func 33) #[] #[.pointer (some ⟨s + 2, 0, none⟩), .pointer (some ⟨s + 4, 0, none⟩), .pointer (some ⟨s + 5, 0, none⟩)]] 45 (0, 0))
  lo : s + 6 ≤ fb
  hi : fb < M1
  len : L.length = bad.length

theorem TrC.fr {Q : Nat → Prop} {w w' : World} {s fb M1 : Nat} {bad : List (List Int)} {L : List Int} {c : Int} (h : TrC w s fb M1 bad L c) (hf : Fr Q w w') (hq : ∀ i, Q i → i ≤ s ∨ M1 ≤ i) : TrC w' s fb M1 bad L c := by
  have hlo := h.lo
  have hhi := h.hi
  have no : ∀ i, s < i ∧ i < M1 → ¬ Q i := fun i hi g => by have := hq i g; omega
  refine ⟨?_, hf.heap h.box (no _ (by omega)), hf.heap h.row (no _ (by omega)), hf.heap h.lbox (no _ (by omega)), hf.heap h.cbox (no _ (by omega)), hf.heap h.fbox (no _ (by omega)), hlo, hhi, h.len⟩
  obtain ⟨n, D, h1, h2, h3, h4⟩ := h.map
  refine ⟨n, D, h1, groups_fr h2 hf (no _ (by omega)) (fun es clock hb x hx g hg hlo2 => no g ?_), h3, fun es clock hb x hx g hg => ?_⟩
  · have := h4 es clock hb x hx g hg; omega
  · obtain ⟨es0, clock0, hb0, -⟩ := h2
    have e := hf.heap hb0 (no _ (by omega))
    rw [hb] at e
    cases e
    exact h4 es clock hb0 x hx g hg
theorem map_keep {w w' : World} {s fb M1 b : Nat} {bad : List (List Int)} {L : List Int} {c : Int} (h : TrC w s fb M1 bad L c) (hf : Fr (fun i => i = b) w w') (hb1 : s + 1 < b) (hb2 : b < s + 6) :
    ∃ (n : Nat) (D : DataW Unit), n ≤ 2000000 ∧ w'.ownsGroups Try.prog 3 (s + 6) 3 .i64 (s + 1) n D ∧ HoldD D (Cr.holdN bad) ∧ w'.Shuns (s + 1) (fun g => M1 ≤ g) := by
  obtain ⟨n, D, h1, h2, h3, h4⟩ := h.map
  refine ⟨n, D, h1, groups_fr h2 hf (by omega) (fun es clock hb x hx g hg hlo => by omega), h3, fun es clock hb x hx g hg => ?_⟩
  obtain ⟨es0, clock0, hb0, -⟩ := h2
  have e := hf.heap hb0 (by omega)
  rw [hb] at e
  cases e
  exact h4 es clock hb0 x hx g hg
theorem TrC.setC {w : World} {s fb M1 : Nat} {bad : List (List Int)} {L : List Int} {c : Int} (h : TrC w s fb M1 bad L c) (c' : Int) : TrC (w.setCell ⟨s + 5, 0, none⟩ (.int .i64 c')) s fb M1 bad L c' := by
  have hf : Fr (fun i => i = s + 5) w (w.setCell ⟨s + 5, 0, none⟩ (.int .i64 c')) := Fr.setCell w _ _ rfl
  have hlo := h.lo
  refine ⟨map_keep h hf (by omega) (by omega), hf.heap h.box (by omega), hf.heap h.row (by omega), hf.heap h.lbox (by omega), ?_, hf.heap h.fbox (by omega), hlo, h.hi, h.len⟩
  exact (heap_setCell_same w _ 0 _ _ _ h.cbox).trans rfl
theorem TrC.setL {w : World} {s fb M1 : Nat} {bad : List (List Int)} {L : List Int} {c : Int} (h : TrC w s fb M1 bad L c) (p : Nat) (y : Int) : TrC (w.setCell ⟨s + 3, p, none⟩ (.int .i64 y)) s fb M1 bad (L.set p y) c := by
  have hf : Fr (fun i => i = s + 3) w (w.setCell ⟨s + 3, p, none⟩ (.int .i64 y)) := Fr.setCell w _ _ rfl
  have hlo := h.lo
  refine ⟨map_keep h hf (by omega) (by omega), hf.heap h.box (by omega), ?_, ?_, hf.heap h.cbox (by omega), hf.heap h.fbox (by omega), hlo, h.hi, by rw [List.length_set]; exact h.len⟩
  · rw [heap_setCell_same w _ p _ _ _ h.row]
    simp [List.map_set]
  · rw [List.length_set]; exact hf.heap h.lbox (by omega)

/-- The rows lie below the world's end. -/
theorem groups_shun {w : World} {P : Program} {k : TypeId} {base : Nat} {e : TypeId} {q : IntKind} {b n : Nat} {D : DataW Unit} (h : w.ownsGroups P k base e q b n D) (M : Nat) (hM : w.heap.size ≤ M) : w.Shuns b (fun g => M ≤ g) := fun es clock hb x hx g hg hN => by
  obtain ⟨es0, clock0, hb0, F, -⟩ := h
  rw [hb] at hb0
  cases hb0
  obtain ⟨y, hy⟩ := F.reads x hx
  obtain ⟨z, hz, _⟩ := WideElems.rd_val hy
  obtain ⟨zs0, ho0, _⟩ := rowElem_inv hz
  have := (World.ownsRow.lt ho0.1 g hg).2
  omega
theorem law_int : Keyed Try.prog 3 := int_keyed Try.underlying3
theorem zero_ints (w : World) : (zeroValue 22).run Try.prog w = .ok (.slice none 0 0) w := by kernel_rfl

def ChgPost (s fb M1 : Nat) (bad : List (List Int)) (L : List Int) (w : World) (e : Ending) (w' : World) : Prop := e = .returned (.tuple #[]) ∧ TrC w' s fb M1 bad L (Cr.zeros L) ∧ Fr (fun i => i = s + 3 ∨ i = s + 5) w w'

set_option maxHeartbeats 4000000 in
set_option maxRecDepth 100000 in
theorem change_any {s fb M1 : Nat} {bad : List (List Int)} {L : List Int} {w : World} (h : TrC w s fb M1 bad L (Cr.zeros L)) (hn : bad.length ≤ 1000) (hL : Cr.Near 1000 L) (n d : Int) (hd : d = 1 ∨ d = -1) (hz : InZ n) :
    Calls Try.prog 33 #[.int .i64 n, .int .i64 d, .pointer (some ⟨s + 2, 0, none⟩), .pointer (some ⟨s + 4, 0, none⟩), .pointer (some ⟨s + 5, 0, none⟩)] w (ChgPost s fb M1 bad (Cr.chg d L (Cr.holdN bad n)) w) := by
  obtain ⟨nD, D, hD1, hD2, hD3, hD4⟩ := h.map
  have hkey : keyOf Try.prog 3 (.int .i64 n) = some (.int .i64 n) := keyOf_int_mk Try.underlying3 hz
  obtain ⟨v, zs, hrun, hat, hoi, hzl, -⟩ := hD2.at law_int Try.underlying44 (zero_ints w) (by unfold maxLen; omega) hkey
  obtain ⟨ps, hps⟩ : ∃ ps, Cr.holdN bad n = ps := ⟨_, rfl⟩
  have hzs : zs = natZ ps := by rw [← hps]; exact hD3.read hat hoi
  subst hzs
  have HPL := hid (show ∀ p ∈ ps, p < bad.length from fun p hp => Cr.holdN_lt p (hps ▸ hp))
  have hpl : ps.length ≤ 1000 := by rw [← hps]; exact Nat.le_trans (Cr.holdN_len bad n) hn
  rw [hps]
  have HO := hid (show OwnZ (s + 6) v (natZ ps) w from hoi.1)
  have HN := hid hL
  have HT := hid h
  have c2 : w.cell? ⟨s + 2, 0, none⟩ = some (.map (some (s + 1))) := (heap_cell h.box 0).trans rfl
  have hdd : -1 ≤ d ∧ d ≤ 1 := by omega
  have HDD := hid hd
  have hnl : (natZ ps).length = ps.length := by simp [natZ]
  obtain ⟨A, cap, rfl, hc1, hc2⟩ := (show OwnZ (s + 6) v (natZ ps) w from hoi.1).val
  rw [hnl] at hrun HO hc1
  unfold maxLen at hc2
  have HLEN := hid h.len
  clear hD2 hD3 hD4 hat hoi hzl hps hnl h hL hd
  go_enter Try.func33, Try.ntmps33
  go_wp2_with fail
  clear c2 hrun
  go_loopw [13] (fun v13 wr => ∃ (j : Nat) (Lj : List Int), v13 = .int .i64 j ∧ j ≤ ps.length ∧ Hid (Lj = Cr.chg d L (ps.take j)) ∧ Hid (TrC wr s fb M1 bad Lj (Cr.zeros Lj)) ∧ Hid (OwnZ (s + 6) (.slice A ps.length cap) (natZ ps) wr) ∧ Hid (Fr (fun i => i = s + 3 ∨ i = s + 5) w wr) ∧ Hid (Cr.Near (1000 + j) Lj)) (fun v13 _ => ps.length - (intOf v13).toNat)
  case atStart => exact ⟨0, L, rfl, by omega, hid rfl, HT, HO, hid (Fr.refl _ _), hid (by simpa using HN.out)⟩
  case round =>
    obtain ⟨j, Lj, rfl, hj, hE, hT, hO, hF, hNe⟩ := hrel
    obtain ⟨wo, hwo⟩ : ∃ wo : World, wo = wr := ⟨_, rfl⟩
    subst hwo
    by_cases hlt : j < ps.length
    · have hjz : (j : Int) < (ps.length : Int) := by omega
      have hp := HPL.out ps[j] (List.getElem_mem hlt)
      have htk : ps.take (j + 1) = ps.take j ++ [ps[j]] := List.take_succ_eq_append_getElem hlt
      have hr := (hO.out.rdz fun z hz => by
        unfold natZ at hz
        rw [List.mem_map] at hz
        obtain ⟨k, hk, rfl⟩ := hz
        have := HPL.out k hk
        exact WalkArith.wf_i64 (by omega))
      obtain ⟨b, o, rfl, -, c0⟩ := hr.atv (Below.refl _ _) (k := j) (by simpa [natZ] using hlt)
      have e0 : (natZ ps)[j]'(by simpa [natZ] using hlt) = ((ps[j] : Nat) : Int) := by simp [natZ]
      rw [e0] at c0
      obtain ⟨p, hpp⟩ : ∃ p, ps[j] = p := ⟨_, rfl⟩
      rw [hpp] at hp htk c0
      have hlen := hT.out.len
      have hpL : p < Lj.length := by omega
      have hpz : (p : Int) < (Lj.length : Int) := by omega
      obtain ⟨x, hx⟩ : ∃ x, Lj[p] = x := ⟨_, rfl⟩
      have hnx := hNe.out Lj[p] (List.getElem_mem hpL)
      rw [hx] at hnx
      have HE2 := hid (show Lj.set p (x + d) = Cr.chg d L (ps.take (j + 1)) by
        rw [htk, Cr.chg_snoc, ← hE.out, List.getElem?_eq_getElem hpL, hx]
        rfl)
      have HZ := hid (Cr.zeros_set Lj p hpL (x + d))
      rw [hx] at HZ
      have HN2 := hid (hNe.out.set hpL hdd)
      rw [hx] at HN2
      have c4 : wo.cell? ⟨s + 4, 0, none⟩ = some (.slice (some ⟨s + 3, 0, none⟩) Lj.length Lj.length) := (heap_cell hT.out.lbox 0).trans rfl
      have c3 : wo.cell? ⟨s + 3, p, none⟩ = some (.int .i64 x) := (heap_cell hT.out.row p).trans (by simp [hpL, hx])
      have f3 : wo.frozen? ⟨s + 3, p, none⟩ = false := heap_free hT.out.row p
      have c5 : wo.cell? ⟨s + 5, 0, none⟩ = some (.int .i64 (Cr.zeros Lj : Nat)) := (heap_cell hT.out.cbox 0).trans rfl
      have f5 : wo.frozen? ⟨s + 5, 0, none⟩ = false := heap_free hT.out.cbox 0
      have hzl := Cr.zeros_le Lj
      obtain ⟨m, hm⟩ : ∃ m, Lj.length = m := ⟨_, rfl⟩
      rw [hm] at c4 hpz hzl
      have hmm : m ≤ 1000 := by omega
      obtain ⟨c, hc⟩ : ∃ c, Cr.zeros Lj = c := ⟨_, rfl⟩
      rw [hc] at c5 hzl HZ
      have HT2 := hid (show TrC wo s fb M1 bad Lj c from hc ▸ hT.out)
      clear hpp htk hlen hpL hx hr e0 hm hc hE hT hNe hp
      obtain ⟨hd1, hd2⟩ := hdd
      obtain ⟨hx1, hx2⟩ := hnx
      have hP5 : ∀ (W : World) (u : Value), Fr (fun i => i = s + 3 ∨ i = s + 5) W (W.setCell ⟨s + 5, 0, none⟩ u) := fun W u => Fr.setCell W _ u (Or.inr rfl)
      have hP3 : ∀ (W : World) (u : Value), Fr (fun i => i = s + 3 ∨ i = s + 5) W (W.setCell ⟨s + 3, p, none⟩ u) := fun W u => Fr.setCell W _ u (Or.inl rfl)
      have HP5 := hid hP5
      have HP3 := hid hP3
      have HOF := hid (show ∀ W, Fr (fun i => i = s + 3 ∨ i = s + 5) wo W → OwnZ (s + 6) (.slice (some ⟨b, o, none⟩) ps.length cap) (natZ ps) W from fun W g => hO.out.fr g fun q hq e => by have := (hO.out.lt q hq).1; omega)
      clear hP5 hP3
      by_cases hx0 : x = 0
      · subst hx0
        have hdv := HDD.out
        have hc1 : 1 ≤ c := by have := HZ.out; rw [if_pos rfl, if_neg (by omega)] at this; omega
        have hx1 : ((0 : Int) == 0) = true := by decide
        have hy1 : (d == 0) = false := by simp; omega
        have HE3 := hid (show (Cr.zeros (Lj.set p d) : Int) = (c : Int) - 1 by
          have := HZ.out
          rw [if_pos rfl, if_neg (by omega), Int.zero_add] at this
          omega)
        rw [Int.zero_add] at HE2 HN2
        clear hdv
        go_wp2_with fail
        go_roundw
        case rel => exact ⟨j + 1, Lj.set p d, by go_num, by omega, HE2, hid (by rw [HE3.out]; exact (HT2.out.setC _).setL p d), hid (HOF.out _ ((HP5.out _ _).trans (HP3.out _ _))), hid (hF.out.trans ((HP5.out _ _).trans (HP3.out _ _))), hid (by have := HN2.out; rw [show (1000 : Int) + ((j + 1 : Nat) : Int) = 1000 + (j : Int) + 1 by omega]; exact this)⟩
        case measure => simp [intOf]; omega
      · have hx1 : (x == 0) = false := by simpa using hx0
        by_cases hy0 : x + d = 0
        · have hy1 : (x + d == 0) = true := by simpa using hy0
          have HE3 := hid (show (Cr.zeros (Lj.set p (x + d)) : Int) = (c : Int) + 1 by
            have := HZ.out
            rw [if_neg hx0, if_pos hy0] at this
            omega)
          clear hy0 hx0
          go_wp2_with fail
          go_roundw
          case rel => exact ⟨j + 1, Lj.set p (x + d), by go_num, by omega, HE2, hid (by rw [HE3.out]; exact (HT2.out.setL p (x + d)).setC _), hid (HOF.out _ ((HP3.out _ _).trans (HP5.out _ _))), hid (hF.out.trans ((HP3.out _ _).trans (HP5.out _ _))), hid (by have := HN2.out; rw [show (1000 : Int) + ((j + 1 : Nat) : Int) = 1000 + (j : Int) + 1 by omega]; exact this)⟩
          case measure => simp [intOf]; omega
        · have hy1 : (x + d == 0) = false := by simpa using hy0
          have HE3 := hid (show (Cr.zeros (Lj.set p (x + d)) : Int) = (c : Int) by
            have := HZ.out
            rw [if_neg hx0, if_neg hy0] at this
            omega)
          clear hy0 hx0
          go_wp2_with fail
          go_roundw
          case rel => exact ⟨j + 1, Lj.set p (x + d), by go_num, by omega, HE2, hid (by rw [HE3.out]; exact HT2.out.setL p (x + d)), hid (HOF.out _ (HP3.out _ _)), hid (hF.out.trans (HP3.out _ _)), hid (by have := HN2.out; rw [show (1000 : Int) + ((j + 1 : Nat) : Int) = 1000 + (j : Int) + 1 by omega]; exact this)⟩
          case measure => simp [intOf]; omega
    · have hjz : ¬ (j : Int) < (ps.length : Int) := by omega
      have HE : Hid (ChgPost s fb M1 bad (Cr.chg d L ps) w (.returned (.tuple #[])) wo) := hid (by
        have e := hE.out
        rw [List.take_of_length_le (by omega)] at e
        exact ⟨rfl, e ▸ hT.out, hF.out⟩)
      clear hE hT hO hF hNe
      go_wp2_with fail
      go_end0
      exact HE.out

theorem enters33 : ∀ args w, (callFunc 33 args).run Try.prog w = .ok (.enter 33 args) w := enters_of Try.func33 (by kernel_rfl) rfl
/-- What a trial has in memory, of the set S. -/
def Tr (w : World) (s fb M1 : Nat) (bad : List (List Int)) (S : List Int) : Prop := TrC w s fb M1 bad (Cr.lacks bad S) (Cr.zeros (Cr.lacks bad S))
/-- Few sets of few numbers, each once. -/
structure Cr.Few (bad : List (List Int)) : Prop where
  n : bad.length ≤ 1000
  len : ∀ b ∈ bad, b.length ≤ 1000
  nodup : ∀ b ∈ bad, b.Nodup
def MovePost (s fb M1 : Nat) (bad : List (List Int)) (S : List Int) (w : World) (e : Ending) (w' : World) : Prop := e = .returned (.tuple #[]) ∧ Tr w' s fb M1 bad S ∧ Fr (fun i => i = s + 3 ∨ i = s + 5) w w'

set_option maxHeartbeats 1000000 in
theorem put_any {s fb M1 : Nat} {bad : List (List Int)} {S : List Int} {w : World} (h : Tr w s fb M1 bad S) (hb : Cr.Few bad) (n : Int) (hz : InZ n) (hn : n ∉ S) :
    Calls Try.prog 34 #[.int .i64 n, .pointer (some ⟨fb, 0, none⟩)] w (MovePost s fb M1 bad (n :: S) w) := by
  have H := change_any h hb.n (Cr.lacks_near hb.len S) n (-1) (Or.inr rfl) hz
  rw [← Cr.lacks_chg (T := n :: S) (fun b hb' => Cr.lackN_cons (hb.nodup b hb') hn)] at H
  have HC := hid H
  have cf : w.cell? ⟨fb, 0, none⟩ = some (.func (.func 33) #[] #[.pointer (some ⟨s + 2, 0, none⟩), .pointer (some ⟨s + 4, 0, none⟩), .pointer (some ⟨s + 5, 0, none⟩)]) := (heap_cell h.fbox 0).trans rfl
  clear h H hb hn hz
  go_enter Try.func34, Try.ntmps34
  go_wp2_with fail
  refine (HC.out).mono ?_
  rintro e w' ⟨rfl, h1, h2⟩
  have HE := hid (show MovePost s fb M1 bad (n :: S) w (.returned (.tuple #[])) w' from ⟨rfl, h1, h2⟩)
  clear h1 h2 HC
  go_wp2_with fail
  go_end0
  exact HE.out
set_option maxHeartbeats 1000000 in
theorem take_any {s fb M1 : Nat} {bad : List (List Int)} {S : List Int} {w : World} (h : Tr w s fb M1 bad S) (hb : Cr.Few bad) (n : Int) (hz : InZ n) (hn : n ∈ S) :
    Calls Try.prog 35 #[.int .i64 n, .pointer (some ⟨fb, 0, none⟩)] w (MovePost s fb M1 bad (Cr.withoutL S n) w) := by
  have H := change_any h hb.n (Cr.lacks_near hb.len S) n 1 (Or.inl rfl) hz
  rw [← Cr.lacks_chg (T := Cr.withoutL S n) (fun b hb' => Cr.lackN_without (hb.nodup b hb') hn)] at H
  have HC := hid H
  have cf : w.cell? ⟨fb, 0, none⟩ = some (.func (.func 33) #[] #[.pointer (some ⟨s + 2, 0, none⟩), .pointer (some ⟨s + 4, 0, none⟩), .pointer (some ⟨s + 5, 0, none⟩)]) := (heap_cell h.fbox 0).trans rfl
  clear h H hb hn hz
  go_enter Try.func35, Try.ntmps35
  go_wp2_with fail
  refine (HC.out).mono ?_
  rintro e w' ⟨rfl, h1, h2⟩
  have HE := hid (show MovePost s fb M1 bad (Cr.withoutL S n) w (.returned (.tuple #[])) w' from ⟨rfl, h1, h2⟩)
  clear h1 h2 HC
  go_wp2_with fail
  go_end0
  exact HE.out
set_option maxHeartbeats 1000000 in
theorem fits_any {s fb M1 : Nat} {bad : List (List Int)} {S : List Int} {w : World} (h : Tr w s fb M1 bad S) :
    Calls Try.prog 36 #[.pointer (some ⟨s + 5, 0, none⟩)] w fun e w' => e = .returned (.bool (Cr.fitsB bad S)) ∧ w = w' := by
  have c5 : w.cell? ⟨s + 5, 0, none⟩ = some (.int .i64 (Cr.zeros (Cr.lacks bad S) : Nat)) := (heap_cell h.cbox 0).trans rfl
  have hz := Cr.zeros_lacks bad S
  obtain ⟨c, hc⟩ : ∃ c, Cr.zeros (Cr.lacks bad S) = c := ⟨_, rfl⟩
  rw [hc] at c5 hz
  clear h hc
  cases hf : Cr.fitsB bad S with
  | true =>
    have hc0 : c = 0 := hz.2 hf
    subst hc0
    clear hz hf
    go_enter Try.func36, Try.ntmps36
    go_wp2_with fail
    go_ret
    exact ⟨rfl, rfl⟩
  | false =>
    have hc0 : ((c : Int) == 0) = false := by
      have : ¬ c = 0 := fun e => by rw [hz.1 e] at hf; cases hf
      simp; omega
    clear hz hf
    go_enter Try.func36, Try.ntmps36
    go_wp2_with fail
    go_ret
    exact ⟨rfl, rfl⟩
end Go.Proofs.Ytnhjiappmblnmaa
