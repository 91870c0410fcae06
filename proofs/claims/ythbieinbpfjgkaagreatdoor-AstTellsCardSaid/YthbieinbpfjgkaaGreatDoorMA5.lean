/-
  The texts AsF, AsFc, AsG, AsH, AsI, one behind the other. Conditions: those that each of them names.
-/
import Derived.Test.YthbieinbpfjgkaaGreatDoorMA3
import Derived.Test.YthbieinbpfjgkaaGreatDoorM2
import Derived.Lib.SlicesCompact
import Derived.Test.YthbieinbpfjgkaaGreatDoorMA4
import Derived.Lib.OwnKind
import Derived.Deep.CutRange
import Derived.Maps.AppendAt
import Derived.Deep.RegionLaw
section
/-
  Plain lists, no program: the free names of a row of trees, as ast.Free's closure finds them and as the document does; a strictly rising row of texts is one only. No conditions.
-/
namespace Go.Proofs.YthbieinbpfjgkaaGreatDoor.E
open Go

/-- What a part binds in its child k. -/
def bindsL (x : Pt) (k : Nat) : List ByteArray :=
  if x.kind = 2 ∨ x.kind = 8 ∨ (x.kind = 4 ∧ k = 1) then [x.bind]
  else if x.kind = 5 ∧ k = 0 then [x.name, x.bind]
  else if x.kind = 5 ∧ k = 1 then [x.name]
  else []

/-- A part's own name, where that is free. -/
def ownN (x : Pt) (bs : List ByteArray) : List ByteArray := if x.kind = 1 ∧ Lib.containsS bs x.name = false then [x.name] else []

/-- The free names of the children of x from number k on. -/
def Fo.free : Fo → Pt → Nat → List ByteArray → List ByteArray
  | .nil, _, _, _ => []
  | .cons y ks r, x, k, bs => (ownN y (bs ++ bindsL x k) ++ ks.free y 0 (bs ++ bindsL x k)) ++ r.free x (k + 1) bs

theorem Fo.count_le : ∀ f : Fo, f.count ≤ f.flat.length
  | .nil => by simp [Fo.count]
  | .cons x ks r => by
    have := Fo.count_le r
    simp only [Fo.count, Fo.flat, List.length_cons, List.length_append]
    omega

/-- The free names of a tree, as they stand. -/
def freeT (x : Pt) (ks : Fo) (bs : List ByteArray) : List ByteArray := ownN x bs ++ ks.free x 0 bs

theorem Fo.free_cons (y : Pt) (ks r : Fo) (x : Pt) (k : Nat) (bs : List ByteArray) : (Fo.cons y ks r).free x k bs = freeT y ks (bs ++ bindsL x k) ++ r.free x (k + 1) bs := rfl

theorem containsS_mem (l : List ByteArray) (x : ByteArray) : Lib.containsS l x = true ↔ x ∈ l := Lib.containsS_iff l x

theorem ownN_congr (x : Pt) {a b : List ByteArray} (h : ∀ s, s ∈ a ↔ s ∈ b) : ownN x a = ownN x b := by
  unfold ownN
  have : Lib.containsS a x.name = Lib.containsS b x.name := by
    rw [Bool.eq_iff_iff, containsS_mem, containsS_mem]
    exact h _
  rw [this]

/-- Only which names are bound counts. -/
theorem Fo.free_congr (f : Fo) : ∀ (x : Pt) (k : Nat) {a b : List ByteArray}, (∀ s, s ∈ a ↔ s ∈ b) → f.free x k a = f.free x k b := by
  induction f with
  | nil => intro x k a b h; rfl
  | cons y ks r ih1 ih2 =>
    intro x k a b h
    have h2 : ∀ s, s ∈ a ++ bindsL x k ↔ s ∈ b ++ bindsL x k := fun s => by simp [h s]
    simp only [Fo.free]
    rw [ownN_congr y h2, ih1 y 0 h2, ih2 x (k + 1) h]

theorem bindsL_length (x : Pt) (k : Nat) : (bindsL x k).length ≤ 2 := by
  unfold bindsL
  split
  · simp
  · split
    · simp
    · split <;> simp

theorem Fo.free_length (f : Fo) : ∀ (x : Pt) (k : Nat) (bs : List ByteArray), (f.free x k bs).length ≤ f.flat.length := by
  induction f with
  | nil => intro x k bs; simp [Fo.free, Fo.flat]
  | cons y ks r ih1 ih2 =>
    intro x k bs
    have h1 := ih1 y 0 (bs ++ bindsL x k)
    have h2 := ih2 x (k + 1) bs
    have h3 : (ownN y (bs ++ bindsL x k)).length ≤ 1 := by unfold ownN; split <;> simp
    simp only [Fo.free, Fo.flat, List.length_append, List.length_cons]
    omega

/-- Each free name is a name of the row's. -/
theorem Fo.free_mem (f : Fo) : ∀ (x : Pt) (k : Nat) (bs : List ByteArray) (s : ByteArray), s ∈ f.free x k bs → ∃ y ∈ f.flat, y.kind = 1 ∧ y.name = s := by
  induction f with
  | nil => intro x k bs s h; simp [Fo.free] at h
  | cons y ks r ih1 ih2 =>
    intro x k bs s h
    simp only [Fo.free, List.mem_append] at h
    rcases h with (h | h) | h
    · unfold ownN at h
      split at h
      · rename_i hk
        rw [List.mem_singleton] at h
        exact ⟨y, by simp [Fo.flat], hk.1, h.symm⟩
      · simp at h
    · obtain ⟨z, hz, h2⟩ := ih1 _ _ _ _ h
      exact ⟨z, by simp [Fo.flat, hz], h2⟩
    · obtain ⟨z, hz, h2⟩ := ih2 _ _ _ _ h
      exact ⟨z, by simp [Fo.flat, hz], h2⟩

/-- Strictly rising. -/
def Asc (l : List ByteArray) : Prop := l.Pairwise fun a b => Lib.compareBytes a.data.toList b.data.toList < 0

theorem Asc.one : ∀ {a b : List ByteArray}, Asc a → Asc b → (∀ s, s ∈ a ↔ s ∈ b) → a = b
  | [], [], _, _, _ => rfl
  | [], y :: b, _, _, h => absurd ((h y).2 (by simp)) (by simp)
  | x :: a, [], _, _, h => absurd ((h x).1 (by simp)) (by simp)
  | x :: a, y :: b, ha, hb, h => by
    obtain ⟨ha1, ha2⟩ := List.pairwise_cons.1 ha
    obtain ⟨hb1, hb2⟩ := List.pairwise_cons.1 hb
    have hxy : x = y := by
      rcases List.mem_cons.1 ((h x).1 (by simp)) with e | e
      · exact e
      · rcases List.mem_cons.1 ((h y).2 (by simp)) with e2 | e2
        · exact e2.symm
        · have h1 := hb1 x e
          have h2 := ha1 y e2
          have := L.cB_anti x.data.toList y.data.toList
          omega
    subst hxy
    have hn : ∀ {c : List ByteArray}, (∀ s ∈ c, Lib.compareBytes x.data.toList s.data.toList < 0) → x ∉ c := fun {c} hc hm => by
      have := hc x hm
      rw [L.cB_self] at this
      omega
    rw [Asc.one ha2 hb2 (fun s => ⟨fun hs => by
      rcases List.mem_cons.1 ((h s).1 (by simp [hs])) with e | e
      · exact absurd (e ▸ hs) (hn ha1)
      · exact e, fun hs => by
      rcases List.mem_cons.1 ((h s).2 (by simp [hs])) with e | e
      · exact absurd (e ▸ hs) (hn hb1)
      · exact e⟩)]

end Go.Proofs.YthbieinbpfjgkaaGreatDoor.E
end

section
/-
  Plain lists, no program: texts that are sorted, each once, rise strictly. No conditions but those that each lemma names.
-/
namespace Go.Proofs.YthbieinbpfjgkaaGreatDoor.E
open Go

theorem lt_cB : ∀ x y : List UInt8, x < y ↔ Lib.compareBytes x y < 0
  | [], [] => by simp [Lib.compareBytes]
  | [], y :: b => by simp [Lib.compareBytes]
  | x :: a, [] => by simp [Lib.compareBytes]
  | x :: a, y :: b => by
    have h1 : x < y ↔ x.toNat < y.toNat := L.u8_lt
    have h2 : y < x ↔ y.toNat < x.toNat := L.u8_lt
    rw [List.cons_lt_cons_iff, lt_cB a b]
    simp only [Lib.compareBytes]
    by_cases p : x < y
    · simp [p]
    · by_cases q : y < x
      · have : x ≠ y := by rintro rfl; exact p q
        simp [p, q, this]
      · have : x = y := UInt8.toNat_inj.1 (by rw [h1] at p; rw [h2] at q; omega)
        simp [this]

theorem le_cB (x y : List UInt8) : x ≤ y ↔ ¬ Lib.compareBytes y x < 0 := by
  rw [← lt_cB]
  exact List.not_lt.symm

theorem sorted_cB (zs : List (List UInt8)) : (zs.mergeSort fun x y => decide (x ≤ y)).Pairwise (fun a b => ¬ Lib.compareBytes b a < 0) := by
  have h := List.pairwise_mergeSort (le := fun x y : List UInt8 => decide (x ≤ y)) (fun a b c h1 h2 => by
    simp only [decide_eq_true_eq, le_cB] at h1 h2 ⊢
    exact L.cB_ntrans h2 h1) (fun a b => by
    simp only [Bool.or_eq_true, decide_eq_true_eq, le_cB]
    have := L.cB_anti a b
    omega) zs
  exact h.imp (fun {a b} hab => by simpa only [decide_eq_true_eq, le_cB] using hab)

theorem compactUpTo_asc (d : Array (List UInt8)) (n : Nat) (hd : ∀ i j, i ≤ j → j < n → ¬ Lib.compareBytes d[j]! d[i]! < 0) : ∀ m, m ≤ n →
    (Lib.compactUpTo d m).Pairwise (fun a b => Lib.compareBytes a b < 0) ∧ ∀ s, s ∈ Lib.compactUpTo d m ↔ ∃ j, j < m ∧ d[j]! = s
  | 0, _ => by simp [Lib.compactUpTo]
  | m + 1, hm => by
    obtain ⟨h1, h2⟩ := compactUpTo_asc d n hd m (by omega)
    rw [Lib.compactUpTo_succ]
    by_cases hk : Lib.keeps d m = true
    · rw [if_pos hk]
      have hk2 : m = 0 ∨ d[m]! ≠ d[m - 1]! := by simpa [Lib.keeps] using hk
      refine ⟨?_, fun s => ?_⟩
      · rw [List.pairwise_append]
        refine ⟨h1, by simp, fun a ha b hb => ?_⟩
        rw [List.mem_singleton] at hb
        subst hb
        obtain ⟨j, hj, rfl⟩ := (h2 a).1 ha
        have hne : d[m]! ≠ d[m - 1]! := by rcases hk2 with h | h; omega; exact h
        have e1 := hd j (m - 1) (by omega) (by omega)
        have e2 := hd (m - 1) m (by omega) (by omega)
        have a2 := L.cB_anti d[m - 1]! d[m]!
        have e3 : Lib.compareBytes d[m - 1]! d[m]! < 0 := by
          rcases Int.lt_trichotomy (Lib.compareBytes d[m - 1]! d[m]!) 0 with h | h | h
          · exact h
          · exact absurd (L.cB_zero h).symm hne
          · omega
        have a1 := L.cB_anti d[j]! d[m - 1]!
        rcases Int.lt_trichotomy (Lib.compareBytes d[j]! d[m - 1]!) 0 with h | h | h
        · exact L.cB_trans h e3
        · rw [L.cB_zero h]; exact e3
        · omega
      · rw [List.mem_append, h2, List.mem_singleton]
        constructor
        · rintro (⟨j, hj, e⟩ | rfl)
          · exact ⟨j, by omega, e⟩
          · exact ⟨m, by omega, rfl⟩
        · rintro ⟨j, hj, e⟩
          by_cases hjm : j = m
          · subst hjm; exact Or.inr e.symm
          · exact Or.inl ⟨j, by omega, e⟩
    · rw [if_neg hk]
      have hk2 : m ≠ 0 ∧ d[m]! = d[m - 1]! := by
        simp [Lib.keeps] at hk
        exact hk
      rw [List.append_nil]
      refine ⟨h1, fun s => ?_⟩
      rw [h2]
      constructor
      · rintro ⟨j, hj, e⟩; exact ⟨j, by omega, e⟩
      · rintro ⟨j, hj, e⟩
        by_cases hjm : j = m
        · subst hjm; exact ⟨j - 1, by omega, by rw [← hk2.2]; exact e⟩
        · exact ⟨j, by omega, e⟩

theorem compact_asc (zs : List (List UInt8)) (hs : zs.Pairwise (fun a b => ¬ Lib.compareBytes b a < 0)) : (Lib.compact zs).Pairwise (fun a b => Lib.compareBytes a b < 0) ∧ ∀ s, s ∈ Lib.compact zs ↔ s ∈ zs := by
  rw [List.pairwise_iff_getElem] at hs
  have hd : ∀ i j, i ≤ j → j < zs.length → ¬ Lib.compareBytes zs.toArray[j]! zs.toArray[i]! < 0 := fun i j h1 h2 => by
    rw [getElem!_pos zs.toArray j (by simpa using h2), getElem!_pos zs.toArray i (by simp; omega)]
    rcases Nat.lt_or_ge i j with h | h
    · simpa using hs i j (by omega) h2 h
    · obtain rfl : i = j := by omega
      rw [L.cB_self]; omega
  obtain ⟨h1, h2⟩ := compactUpTo_asc zs.toArray zs.length hd zs.length (Nat.le_refl _)
  refine ⟨h1, fun s => ?_⟩
  unfold Lib.compact
  rw [h2]
  constructor
  · rintro ⟨j, hj, rfl⟩
    rw [getElem!_pos zs.toArray j (by simpa using hj)]
    simp
  · intro h
    obtain ⟨j, hj, rfl⟩ := List.getElem_of_mem h
    exact ⟨j, hj, by rw [getElem!_pos zs.toArray j (by simpa using hj)]; simp⟩

end Go.Proofs.YthbieinbpfjgkaaGreatDoor.E
end

section
/-
  The walk of ast.binds; rows of texts cut short; what the closure of ast.Free stands on. No conditions but those that each lemma names.
-/
namespace Go.Proofs.YthbieinbpfjgkaaGreatDoor
open Go.RowKit Go.Sort

theorem OwnS.cut {B : Nat} {v : Value} {ss : List ByteArray} {w : World} (h : OwnS B v ss w) (A : Option Addr) (cap m : Nat) (hv : v = .slice A ss.length cap) (hm : m ≤ ss.length) : OwnS B (.slice A m cap) (ss.take m) w := by
  unfold OwnS at h ⊢
  rcases h.2 with ⟨hv2, h0⟩ | ⟨g, c2, cur, hv2, hg, hh, hn, hcap, hsz, htake⟩
  · rw [hv] at hv2
    simp only [Value.slice.injEq] at hv2
    obtain ⟨rfl, -, rfl⟩ := hv2
    have : m = 0 := by omega
    subst this
    exact World.ownsRow_nil w B _ 1
  · rw [hv] at hv2
    simp only [Value.slice.injEq] at hv2
    obtain ⟨rfl, -, rfl⟩ := hv2
    refine ⟨by simp, .inr ⟨g, cap, cur, ?_, hg, hh, by rw [List.length_take]; omega, hcap, hsz, ?_⟩⟩
    · rw [List.length_take, Nat.min_eq_left hm]
    · rw [List.map_take, ← htake, List.take_take, List.length_take, Nat.mul_one, Nat.mul_one, Nat.min_eq_left hm]

set_option maxHeartbeats 4000000 in
set_option maxRecDepth 100000 in
theorem binds_any (p : E.Pt) (k : Nat) (hk : k ≤ 1000000) (vt vu : Value) (w : World) :
    Calls Tryz.prog 51 #[partV p vt vu, .int .i64 k] w fun e w' => ∃ v, e = .returned v ∧ RdS w' w'.heap.size v (E.bindsL p k) ∧ (E.bindsL p k = [] → v = .slice none 0 0) ∧ Below w.heap.size w w' := by
  obtain ⟨k1, s1, s2, s3, n1, n2, t1, t2⟩ := p
  unfold partV E.bindsL
  simp only
  have one : ∀ (W W' : World) (s : ByteArray) (cs : Array Value) (n : Nat), W'.heap[n]? = some (.cells cs 9 (0, 0)) → cs[0]? = some (.string s) → RdS W' W'.heap.size (.slice (some ⟨n, 0, none⟩) 1 1) [s] := fun W W' s cs n h hc =>
    ⟨_, 1, rfl, fun _ => ⟨n, 0, rfl, heap_lt h, fun i hi => by
      have : i = 0 := by simpa using hi
      subst this
      rw [Lib.cell_of_heap h 0]
      simpa using hc⟩⟩
  have two : ∀ (W' : World) (s t : ByteArray) (n : Nat), W'.heap[n]? = some (.cells #[.string s, .string t] 9 (0, 0)) → RdS W' W'.heap.size (.slice (some ⟨n, 0, none⟩) 2 2) [s, t] := fun W' s t n h =>
    ⟨_, 2, rfl, fun _ => ⟨n, 0, rfl, heap_lt h, fun i hi => by
      have : i = 0 ∨ i = 1 := by simp at hi; omega
      rcases this with rfl | rfl
      · rw [Lib.cell_of_heap h 0]; rfl
      · rw [Lib.cell_of_heap h 1]; rfl⟩⟩
  have bl : Hid (∀ o1 o2 : Obj, Below w.heap.size w ((w.alloc o1).alloc o2)) := hid fun o1 o2 => (below_new o1).trans ((below_new o2).mono (by simp))
  have nw : Hid (∀ o1 o2 : Obj, ((w.alloc o1).alloc o2).heap[w.heap.size + 1]? = some o2) := hid fun o1 o2 => by
    have := heap_alloc_new (w.alloc o1) o2
    simpa using this
  have ONE := hid one
  have TWO := hid two
  clear one two
  have nilS : ∀ W : World, RdS W W.heap.size (.slice none 0 0) [] := fun W => ⟨none, 0, rfl, fun h => absurd rfl h⟩
  have NIL := hid nilS
  clear nilS
  by_cases e2 : k1 = 2
  · subst e2
    rw [if_pos (Or.inl rfl)]
    go_enter Tryz.func51, Tryz.ntmps51
    go_wp2
    go_ret
    exact ⟨_, rfl, ONE.out w _ s3 _ _ (nw.out _ _) rfl, (fun h => nomatch h), bl.out _ _⟩
  have f2 : (k1 == 2) = false := beq_eq_false_iff_ne.2 e2
  by_cases e8 : k1 = 8
  · subst e8
    rw [if_pos (Or.inr (Or.inl rfl))]
    go_enter Tryz.func51, Tryz.ntmps51
    go_wp2
    go_ret
    exact ⟨_, rfl, ONE.out w _ s3 _ _ (nw.out _ _) rfl, (fun h => nomatch h), bl.out _ _⟩
  have f8 : (k1 == 8) = false := beq_eq_false_iff_ne.2 e8
  by_cases e4 : k1 = 4
  · subst e4
    by_cases h1 : k = 1
    · subst h1
      rw [if_pos (Or.inr (Or.inr ⟨rfl, rfl⟩))]
      go_enter Tryz.func51, Tryz.ntmps51
      go_wp2
      go_ret
      exact ⟨_, rfl, ONE.out w _ s3 _ _ (nw.out _ _) rfl, (fun h => nomatch h), bl.out _ _⟩
    · have g1 : ((k : Int) == 1) = false := by simp; omega
      rw [if_neg (by omega), if_neg (by omega), if_neg (by omega)]
      clear e2 e8 h1
      go_enter Tryz.func51, Tryz.ntmps51
      go_wp2
      go_ret
      exact ⟨_, rfl, NIL.out _, (fun _ => rfl), below_new _⟩
  have f4 : (k1 == 4) = false := beq_eq_false_iff_ne.2 e4
  rw [if_neg (by omega)]
  by_cases e5 : k1 = 5
  · subst e5
    by_cases h0 : k = 0
    · subst h0
      rw [if_pos ⟨rfl, rfl⟩]
      clear e2 e8 e4
      go_enter Tryz.func51, Tryz.ntmps51
      go_wp2
      go_ret
      exact ⟨_, rfl, TWO.out _ s2 s3 _ (nw.out _ _), (fun h => nomatch h), bl.out _ _⟩
    · have g0 : ((k : Int) == 0) = false := by simp; omega
      rw [if_neg (by omega)]
      by_cases h1 : k = 1
      · subst h1
        rw [if_pos ⟨rfl, rfl⟩]
        clear e2 e8 e4 h0
        go_enter Tryz.func51, Tryz.ntmps51
        go_wp2
        go_ret
        exact ⟨_, rfl, ONE.out w _ s2 _ _ (nw.out _ _) rfl, (fun h => nomatch h), bl.out _ _⟩
      · have g1 : ((k : Int) == 1) = false := by simp; omega
        rw [if_neg (by omega)]
        clear e2 e8 e4 h0 h1
        go_enter Tryz.func51, Tryz.ntmps51
        go_wp2
        go_ret
        exact ⟨_, rfl, NIL.out _, (fun _ => rfl), below_new _⟩
  · have f5 : (k1 == 5) = false := beq_eq_false_iff_ne.2 e5
    rw [if_neg (by omega), if_neg (by omega)]
    clear e2 e8 e4 e5
    go_enter Tryz.func51, Tryz.ntmps51
    go_wp2
    go_ret
    exact ⟨_, rfl, NIL.out _, (fun _ => rfl), below_new _⟩

/-- What ast.Free's closure stands on: the boxes of the slice, of the row of bound names, of the row of free ones, of the place, its own. -/
structure FSt (l : List E.Pt) (v : Value) (T p : Nat) (vb vf : Value) (bs fs : List ByteArray) (w : World) : Prop where
  t : w.heap[T]? = some (.cells #[v] 23 (0, 0))
  bn : w.heap[T + 1]? = some (.cells #[vb] 34 (0, 0))
  fr : w.heap[T + 2]? = some (.cells #[vf] 34 (0, 0))
  a : w.heap[T + 3]? = some (.cells #[.int .i64 p] 3 (0, 0))
  f : w.heap[T + 4]? = some (.cells #[.func (.func 49) #[] #[.pointer (some ⟨T, 0, none⟩), .pointer (some ⟨T + 3, 0, none⟩), .pointer (some ⟨T + 1, 0, none⟩), .pointer (some ⟨T + 2, 0, none⟩), .pointer (some ⟨T + 4, 0, none⟩)]] 1 (0, 0))
  ob : OwnS (T + 5) vb bs w
  of : OwnS (T + 5) vf fs w
  ap : ∀ g, vb.ownBlock = some g → vf.ownBlock ≠ some g
  rd : RdP w T v l

/-- What it leaves as it was. -/
def KF (T : Nat) (w w' : World) : Prop := Below T w w' ∧ ∀ k o, w.heap[k]? = some o → k ≠ T + 1 → k ≠ T + 2 → k ≠ T + 3 → (∀ c fz, o ≠ .cells c 9 fz) → w'.heap[k]? = some o

theorem KF.refl (T : Nat) (w : World) : KF T w w := ⟨Below.refl _ _, fun _ _ h _ _ _ _ => h⟩
theorem KF.trans {T : Nat} {a b c : World} (h : KF T a b) (k : KF T b c) : KF T a c :=
  ⟨h.1.trans k.1, fun i o hi h1 h2 h3 h4 => k.2 i o (h.2 i o hi h1 h2 h3 h4) h1 h2 h3 h4⟩
theorem KF.of_below {T : Nat} {w w' : World} (h : Below w.heap.size w w') (hT : T ≤ w.heap.size) : KF T w w' := ⟨h.mono hT, fun k _ hk _ _ _ _ => (h.block k (heap_lt hk)).trans hk⟩
theorem KF.set {T : Nat} {w : World} (b : Nat) (v : Value) (hb : b = T + 1 ∨ b = T + 2 ∨ b = T + 3) : KF T w (w.setCell ⟨b, 0, none⟩ v) :=
  ⟨(Below.refl _ _).setCell (p := ⟨b, 0, none⟩) (by simp; omega) v, fun k _ hk h1 h2 h3 _ => (heap_setCell_other w ⟨b, 0, none⟩ k v (by simp; omega)).trans hk⟩

theorem OwnS.row {B : Nat} {v : Value} {ss : List ByteArray} {w : World} (h : OwnS B v ss w) : ∀ g, v.ownBlock = some g → B ≤ g ∧ ∃ c fz, w.heap[g]? = some (.cells c 9 fz) := fun g hg =>
  ⟨(World.ownsRow.lt h g hg).1, Lib.ownsRow_kind h g hg⟩

theorem KF.row {T : Nat} {w w' : World} {v : Value} {ss : List ByteArray} (h : OwnS (T + 5) v ss w) (hg : w.grownBy w' v.ownBlock) (hT : T ≤ w.heap.size) : KF T w w' :=
  ⟨⟨hg.os, hg.tape, hg.output, hg.size, fun k hk => hg.block k (by omega) (fun e => by have := (h.row k e.symm).1; omega)⟩,
   fun k o hk _ _ _ h4 => (hg.block k (heap_lt hk) (fun e => by
     obtain ⟨-, c, fz, hc⟩ := h.row k e.symm
     rw [hk] at hc
     exact h4 c fz (Option.some.inj hc))).trans hk⟩

theorem KTab.kf {T : Nat} {w w' : World} (h : KTab w) (hk : KF T w w') (hT : 1 ≤ T) : KTab w' := h.below hk.1 hT

end Go.Proofs.YthbieinbpfjgkaaGreatDoor
end

section
/-
  The walk of the closure of ast.Free. Conditions: a row of trees each of whose parts has as many children as it says, at most 10000 parts.
-/
namespace Go.Proofs.YthbieinbpfjgkaaGreatDoor
open Go.RowKit Go.Sort

theorem run_append_noneS (w : World) (A : Option Addr) (n cap : Nat) (hn : n ≤ cap) : (Builtin.append_ #[34, 34] 34 #[.slice A n cap, .slice none 0 0]).run Tryz.prog w = .ok (.slice A n cap) w := by
  obtain ⟨i0, hi, hz0, hz1, hz2⟩ := info_parts infoStr
  have hu := run_underlying (w := w) Tryz.underlying34
  cases A with
  | none => simp [Builtin.append_, hu, sizeOf, typeInfo, hi, Builtin.lenOf, hn, Builtin.firstCells]
  | some a => simp [Builtin.append_, hu, sizeOf, typeInfo, hi, Builtin.lenOf, hn, Builtin.firstCells, storeCells]

/-- A slice that reads as texts is nil, or lies somewhere. -/
theorem RdS.src {w : World} {v : Value} {ss : List ByteArray} (h : RdS w w.heap.size v ss) (h0 : ss = [] → v = .slice none 0 0) :
    (v = .slice none 0 0 ∧ ss = []) ∨ ∃ ad cap, v = .slice (some ad) ss.length cap ∧ ∀ j u, (ss.map Value.string)[j]? = some u → w.cell? (ad.add j) = some u := by
  obtain ⟨A, cap, rfl, hc⟩ := h
  by_cases hn : ss = []
  · exact Or.inl ⟨h0 hn, hn⟩
  · obtain ⟨b, o, rfl, hb, hx⟩ := hc hn
    refine Or.inr ⟨⟨b, o, none⟩, cap, rfl, fun j u hu => ?_⟩
    have hj : j < ss.length := by
      rcases Nat.lt_or_ge j ss.length with h | h
      · exact h
      · rw [List.getElem?_eq_none (by simpa using h)] at hu; cases hu
    have e : ((⟨b, o, none⟩ : Addr).add j) = ⟨b, o + j, none⟩ := by unfold Addr.add; split <;> simp_all
    rw [e, hx j hj, ← hu]
    simp [hj]

theorem run_appS (B : Nat) (v vx : Value) (l lx : List ByteArray) (w : World) (hown : OwnS B v l w) (hr : RdS w w.heap.size vx lx) (h0 : lx = [] → vx = .slice none 0 0) (hl : l.length + lx.length ≤ 4000000) (hB : B ≤ w.heap.size) :
    ∃ v' w', (Builtin.append_ #[34, 34] 34 #[v, vx]).run Tryz.prog w = .ok v' w' ∧ OwnS B v' (l ++ lx) w' ∧ w.grownBy w' v.ownBlock ∧ (v'.ownBlock = v.ownBlock ∨ v'.ownBlock = some w.heap.size) := by
  obtain ⟨i0, hi, hz0, hz1, hz2⟩ := info_parts infoStr
  rcases hr.src h0 with ⟨rfl, rfl⟩ | ⟨ad, cap, rfl, hsrc⟩
  · have hnc : ∃ A c, v = .slice A l.length c ∧ l.length ≤ c := by
      rcases hown.2 with ⟨hv, h0⟩ | ⟨g, c, cur, hv, _, _, hn, _⟩
      · exact ⟨none, 0, by rw [hv, h0], by omega⟩
      · exact ⟨_, c, hv, hn⟩
    obtain ⟨A, c, hv, hn⟩ := hnc
    have hrn := run_append_noneS w A l.length c hn
    rw [← hv] at hrn
    exact ⟨v, w, hrn, by simpa using hown, grown_refl w _, Or.inl rfl⟩
  · obtain ⟨v', w', hr, h2, h3, -, h5⟩ := run_append_own_at (P := Tryz.prog) w B 34 34 9 i0 (.string ⟨#[]⟩) 1 16 Tryz.underlying34 hi hz0 hz1 hz2 rfl (by decide) v l.length (l.map Value.string) hown ad lx.length cap (lx.map Value.string) (by simp) hsrc (by intro u hu; obtain ⟨s, -, rfl⟩ := List.mem_map.1 hu; rfl) (by unfold maxLen; omega) (by omega) hB
    refine ⟨v', w', hr, ?_, h3, h5⟩
    unfold OwnS
    rw [List.map_append, List.length_append]
    exact h2

/-- An append of a slice that reads as texts, nil or not, as one step of a region. -/
theorem step_appS {ops : Array Oper} {w : World} {o : Oper} {a : Act} {K : Act → World → Prop} {Q : Exit → Act → World → Prop} {E : Prop} (hgd : o.guard = none) (s x : Operand)
    (ho : o.op = .call { callee := .builtin .append, args := #[s, x], argTypes := #[34, 34] }) (hty : o.type = 34)
    (B : Nat) (v vx : Value) (l lx : List ByteArray) (hs : a.eval s = v) (hown : OwnS B v l w) (hx : a.eval x = vx) (hr : RdS w w.heap.size vx lx) (h0 : lx = [] → vx = .slice none 0 0)
    (hl : l.length + lx.length ≤ 4000000) (hB : B ≤ w.heap.size)
    (h : ∀ v' w', OwnS B v' (l ++ lx) w' → w.grownBy w' v.ownBlock → (v'.ownBlock = v.ownBlock ∨ v'.ownBlock = some w.heap.size) → K (a.put o.dst v') w') :
    if Region.wanted o (yielded ops a.tmps) = true then Oper.wp Tryz.prog o a w K Q else E := by
  have hw : Region.wanted o (yielded ops a.tmps) = true := by simp [Region.wanted, hgd]
  rw [if_pos hw]
  obtain ⟨v', w', hrn, h1, h2, h3⟩ := run_appS B v vx l lx w hown hr h0 hl hB
  unfold Oper.wp execOp
  simp only [ho, hty, resolve, invoke, builtin, Sem.run_bind, Sem.run_pure, Result.andThen_ok, List.map_toArray, List.map_cons, List.map_nil, hs, hx, hrn]
  exact h v' w' h1 h2 h3

/-- The same as an operation of a walk. -/
theorem wpList_appS {ops : Array Oper} {rest : List Oper} {w : World} {o : Oper} {a : Act} {Q : Exit → Act → World → Prop} (hgd : o.guard = none) (s x : Operand)
    (ho : o.op = .call { callee := .builtin .append, args := #[s, x], argTypes := #[34, 34] }) (hty : o.type = 34)
    (B : Nat) (v vx : Value) (l lx : List ByteArray) (hs : a.eval s = v) (hown : OwnS B v l w) (hx : a.eval x = vx) (hr : RdS w w.heap.size vx lx) (h0 : lx = [] → vx = .slice none 0 0)
    (hl : l.length + lx.length ≤ 4000000) (hB : B ≤ w.heap.size)
    (h : ∀ v' w', OwnS B v' (l ++ lx) w' → w.grownBy w' v.ownBlock → (v'.ownBlock = v.ownBlock ∨ v'.ownBlock = some w.heap.size) → wpList Tryz.prog ops Q rest (a.put o.dst v') w') : wpList Tryz.prog ops Q (o :: rest) a w := by
  refine wpList_plain hgd fun K hK => ?_
  obtain ⟨v', w', hrn, h1, h2, h3⟩ := run_appS B v vx l lx w hown hr h0 hl hB
  unfold Oper.wp execOp
  simp only [ho, hty, resolve, invoke, builtin, Sem.run_bind, Sem.run_pure, Result.andThen_ok, List.map_toArray, List.map_cons, List.map_nil, hs, hx, hrn]
  exact hK _ _ (h v' w' h1 h2 h3)

end Go.Proofs.YthbieinbpfjgkaaGreatDoor
end

section
/-
  The walk of the closure of ast.Free, whole. Conditions: a row of trees each of whose parts has as many children as it says, at most 10000 parts.
-/
namespace Go.Proofs.YthbieinbpfjgkaaGreatDoor
open Go.RowKit Go.Sort

/-- What the first statements leave: the place is one on, the part's own name stands in the row of free ones if it is free. -/
def FAt (l : List E.Pt) (v : Value) (T p N : Nat) (vb : Value) (bs fs : List ByteArray) (cs : Array Value) (w wx : World) : Prop :=
  ∃ vf, Hid (FSt l v T p vb vf bs fs wx) ∧ Hid (KF T w wx) ∧ Hid (wx.heap[N]? = some (.cells cs 39 (0, 0))) ∧ w.heap.size ≤ wx.heap.size

theorem FSt.low {l : List E.Pt} {v : Value} {T p : Nat} {vb vf : Value} {bs fs : List ByteArray} {w w' : World} (h : FSt l v T p vb vf bs fs w) (hb : Below w.heap.size w w') : FSt l v T p vb vf bs fs w' :=
  ⟨(hb.block _ (heap_lt h.t)).trans h.t, (hb.block _ (heap_lt h.bn)).trans h.bn, (hb.block _ (heap_lt h.fr)).trans h.fr, (hb.block _ (heap_lt h.a)).trans h.a, (hb.block _ (heap_lt h.f)).trans h.f, h.ob.below hb, h.of.below hb, h.ap,
    (h.rd).low (hb.mono (Nat.le_of_lt (heap_lt h.t))) (fun hr => hr.low (hb.mono (Nat.le_of_lt (heap_lt h.t))))⟩

theorem FSt.place {l : List E.Pt} {v : Value} {T p : Nat} {vb vf : Value} {bs fs : List ByteArray} {w : World} (h : FSt l v T p vb vf bs fs w) (q : Nat) (z : Value) (hz : z = .int .i64 q) : FSt l v T q vb vf bs fs (w.setCell ⟨T + 3, 0, none⟩ z) := by
  subst hz
  have o : ∀ k, k ≠ T + 3 → (w.setCell ⟨T + 3, 0, none⟩ (.int .i64 q)).heap[k]? = w.heap[k]? := fun k hk => heap_setCell_other w _ k _ hk
  have hb : Below T w (w.setCell ⟨T + 3, 0, none⟩ (.int .i64 q)) := (Below.refl _ _).setCell (p := ⟨T + 3, 0, none⟩) (by simp) _
  have ow : ∀ {v : Value} {ss : List ByteArray}, OwnS (T + 5) v ss w → OwnS (T + 5) v ss (w.setCell ⟨T + 3, 0, none⟩ (.int .i64 q)) := fun h => ownsRow_setCell_below h (a := ⟨T + 3, 0, none⟩) (by simp) _
  exact ⟨(o _ (by omega)).trans h.t, (o _ (by omega)).trans h.bn, (o _ (by omega)).trans h.fr, heap_setCell_same w (T + 3) 0 _ _ _ h.a, (o _ (by omega)).trans h.f, ow h.ob, ow h.of, h.ap,
    h.rd.low hb (fun hr => hr.low hb)⟩

theorem FSt.frBox {l : List E.Pt} {v : Value} {T p : Nat} {vb vf : Value} {bs fs : List ByteArray} {w w' : World} (h : FSt l v T p vb vf bs fs w) (hg : w.grownBy w' vf.ownBlock) : w'.heap[T + 2]? = some (.cells #[vf] 34 (0, 0)) :=
  (hg.block _ (heap_lt h.fr) (fun e => by have := (h.of.row _ e.symm).1; omega)).trans h.fr
theorem FSt.bnBox {l : List E.Pt} {v : Value} {T p : Nat} {vb vf : Value} {bs fs : List ByteArray} {w w' : World} (h : FSt l v T p vb vf bs fs w) (hg : w.grownBy w' vb.ownBlock) : w'.heap[T + 1]? = some (.cells #[vb] 34 (0, 0)) :=
  (hg.block _ (heap_lt h.bn) (fun e => by have := (h.ob.row _ e.symm).1; omega)).trans h.bn
theorem FSt.nest {l : List E.Pt} {v : Value} {T p : Nat} {vb vf : Value} {bs fs : List ByteArray} {w : World} (h : FSt l v T p vb vf bs fs w) : T < w.heap.size ∧ T + 1 < w.heap.size ∧ T + 2 < w.heap.size ∧ T + 3 < w.heap.size ∧ T + 4 < w.heap.size := ⟨heap_lt h.t, heap_lt h.bn, heap_lt h.fr, heap_lt h.a, heap_lt h.f⟩
/-- A part's box of the call's own stays. -/
theorem KF.part {T : Nat} {w w' : World} (hk : KF T w w') {N : Nat} {cs : Array Value} (h : w.heap[N]? = some (.cells cs 39 (0, 0))) (hN : T + 4 < N) : w'.heap[N]? = some (.cells cs 39 (0, 0)) :=
  hk.2 N _ h (by omega) (by omega) (by omega) (by intro c fz he; injection he with _ h3; exact absurd h3 (by decide))

/-- A row regrown, its box written. -/
theorem FSt.freed {l : List E.Pt} {v : Value} {T p : Nat} {vb vf vf' : Value} {bs fs fs' : List ByteArray} {w w' : World} (h : FSt l v T p vb vf bs fs w) (ho : OwnS (T + 5) vf' fs' w') (hg : w.grownBy w' vf.ownBlock) (hnew : vf'.ownBlock = vf.ownBlock ∨ vf'.ownBlock = some w.heap.size) :
    FSt l v T p vb vf' bs fs' (w'.setCell ⟨T + 2, 0, none⟩ vf') ∧ KF T w (w'.setCell ⟨T + 2, 0, none⟩ vf') := by
  have hT := heap_lt h.t
  have k1 := KF.row h.of hg (Nat.le_of_lt hT)
  have hne : ∀ k, k < T + 5 → some k ≠ vf.ownBlock := fun k hk e => by have := (h.of.row k e.symm).1; omega
  have b : ∀ k, k < T + 5 → k ≠ T + 2 → k < w.heap.size → (w'.setCell ⟨T + 2, 0, none⟩ vf').heap[k]? = w.heap[k]? := fun k h1 h2 h3 => (heap_setCell_other w' _ k _ h2).trans (hg.block k h3 (hne k h1))
  have hb2 : w'.heap[T + 2]? = some (.cells #[vf] 34 (0, 0)) := (hg.block _ (heap_lt h.fr) (hne _ (by omega))).trans h.fr
  have hB : Below T w (w'.setCell ⟨T + 2, 0, none⟩ vf') := k1.1.setCell (p := ⟨T + 2, 0, none⟩) (by simp) _
  refine ⟨⟨(b _ (by omega) (by omega) hT).trans h.t, (b _ (by omega) (by omega) (heap_lt h.bn)).trans h.bn, heap_setCell_same w' (T + 2) 0 _ _ _ hb2, (b _ (by omega) (by omega) (heap_lt h.a)).trans h.a, (b _ (by omega) (by omega) (heap_lt h.f)).trans h.f, ?_, ownsRow_setCell_below ho (a := ⟨T + 2, 0, none⟩) (by simp) _, fun g hg1 hg2 => ?_, h.rd.low hB (fun hr => hr.low hB)⟩, k1.trans (KF.set _ _ (by omega))⟩
  · have : OwnS (T + 5) vb bs w' := World.ownsRow.kept h.ob hg (by
      cases hv : vb.ownBlock with
      | none => exact Or.inl rfl
      | some g => exact Or.inr (fun e => h.ap g hv e.symm))
    exact ownsRow_setCell_below this (a := ⟨T + 2, 0, none⟩) (by simp) _
  · rcases hnew with e | e
    · exact h.ap g hg1 (e ▸ hg2)
    · have h1 := (World.ownsRow.lt h.ob g hg1).2
      rw [e] at hg2
      have := Option.some.inj hg2
      omega

theorem FSt.bound {l : List E.Pt} {v : Value} {T p : Nat} {vb vb' vf : Value} {bs bs' fs : List ByteArray} {w w' : World} (h : FSt l v T p vb vf bs fs w) (ho : OwnS (T + 5) vb' bs' w') (hg : w.grownBy w' vb.ownBlock) (hnew : vb'.ownBlock = vb.ownBlock ∨ vb'.ownBlock = some w.heap.size) :
    FSt l v T p vb' vf bs' fs (w'.setCell ⟨T + 1, 0, none⟩ vb') ∧ KF T w (w'.setCell ⟨T + 1, 0, none⟩ vb') := by
  have hT := heap_lt h.t
  have k1 := KF.row h.ob hg (Nat.le_of_lt hT)
  have hne : ∀ k, k < T + 5 → some k ≠ vb.ownBlock := fun k hk e => by have := (h.ob.row k e.symm).1; omega
  have b : ∀ k, k < T + 5 → k ≠ T + 1 → k < w.heap.size → (w'.setCell ⟨T + 1, 0, none⟩ vb').heap[k]? = w.heap[k]? := fun k h1 h2 h3 => (heap_setCell_other w' _ k _ h2).trans (hg.block k h3 (hne k h1))
  have hb2 : w'.heap[T + 1]? = some (.cells #[vb] 34 (0, 0)) := (hg.block _ (heap_lt h.bn) (hne _ (by omega))).trans h.bn
  have hB : Below T w (w'.setCell ⟨T + 1, 0, none⟩ vb') := k1.1.setCell (p := ⟨T + 1, 0, none⟩) (by simp) _
  refine ⟨⟨(b _ (by omega) (by omega) hT).trans h.t, heap_setCell_same w' (T + 1) 0 _ _ _ hb2, (b _ (by omega) (by omega) (heap_lt h.fr)).trans h.fr, (b _ (by omega) (by omega) (heap_lt h.a)).trans h.a, (b _ (by omega) (by omega) (heap_lt h.f)).trans h.f, ownsRow_setCell_below ho (a := ⟨T + 1, 0, none⟩) (by simp) _, ?_, fun g hg1 hg2 => ?_, h.rd.low hB (fun hr => hr.low hB)⟩, k1.trans (KF.set _ _ (by omega))⟩
  · have : OwnS (T + 5) vf fs w' := World.ownsRow.kept h.of hg (by
      cases hv : vf.ownBlock with
      | none => exact Or.inl rfl
      | some g => exact Or.inr (fun e => h.ap g e.symm hv))
    exact ownsRow_setCell_below this (a := ⟨T + 1, 0, none⟩) (by simp) _
  · rcases hnew with e | e
    · exact h.ap g (e ▸ hg1) hg2
    · have h1 := (World.ownsRow.lt h.of g hg2).2
      rw [e] at hg1
      have := Option.some.inj hg1
      omega

end Go.Proofs.YthbieinbpfjgkaaGreatDoor
end
