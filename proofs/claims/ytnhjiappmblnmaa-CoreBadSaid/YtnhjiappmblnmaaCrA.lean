/-
  Slices of numbers, and of such slices, that are read; rows of the call's own; frames; the walks of core's set, and of what it calls. Conditions: at most 1000 numbers.
-/
import Derived.Test.YtnhjiappmblnmaaRows
import Derived.Test.YtnhjiappmblnmaaChecked
import Derived.Test.YtnhjiappmblnmaaShelf
import Derived.Test.YtnhjiappmblnmaaCrM
import Derived.WalkKit
import Derived.Lib.Strings
import Derived.WalkSpells
import Derived.WalkLawsBesides
import Derived.OwnWalk
import Derived.OneCell
import Derived.Lib.OwnBridge
import Derived.Sort.OwnSortedInts
import Derived.Maps.AppendAt
import Derived.Laws.Rows
import Derived.BigQuiet
import Derived.IntWalk
namespace Go.Proofs.Ytnhjiappmblnmaa
open Go.RowKit Go.Sort

theorem hid {p : Prop} (h : p) : Hid p := h
theorem ret_bool {a b : Bool} (h : a = b) : Ending.returned (.bool a) = .returned (.bool b) := by rw [h]
theorem below_new {w : World} (o : Obj) : Below w.heap.size w (w.alloc o) := (Below.refl _ _).alloc (Nat.le_refl _) _
theorem below_drewN {B : Nat} {a w : World} (h : Below B a w) (n : Nat) : Below B a (w.drewN n) := ⟨h.os, h.tape, h.output, h.size, h.block⟩
theorem heap_lt {w : World} {b : Nat} {o : Obj} (h : w.heap[b]? = some o) : b < w.heap.size := (Array.getElem?_eq_some_iff.1 h).1
theorem cell_lt {w : World} {a : Addr} {v : Value} (h : w.cell? a = some v) : a.block < w.heap.size := by
  refine Nat.lt_of_not_le fun g => ?_
  unfold World.cell? at h
  rw [Array.getElem?_eq_none g] at h
  cases h
theorem heap_cell {w : World} {b : Nat} {cs : Array Value} {t : TypeId} (h : w.heap[b]? = some (.cells cs t (0, 0))) (i : Nat) : w.cell? ⟨b, i, none⟩ = cs[i]? := cell_of_row w b i cs t (0, 0) h
theorem heap_free {w : World} {b : Nat} {cs : Array Value} {t : TypeId} (h : w.heap[b]? = some (.cells cs t (0, 0))) (i : Nat) : w.frozen? ⟨b, i, none⟩ = false := frozen_of_row w b i cs t h
theorem info_int : (Try.prog.info? 3).map (fun i => (i.zero, i.size, i.bytes)) = some (some (.int .i64 0), 1, 8) := by kernel_rfl
theorem info_ints : (Try.prog.info? 22).map (fun i => (i.zero, i.size, i.bytes)) = some (some (.slice none 0 0), 1, 24) := by kernel_rfl
theorem grown_refl (w : World) (r : Option Nat) : w.grownBy w r := ⟨rfl, rfl, rfl, Nat.le_refl _, fun _ _ _ => rfl⟩
theorem ownBlock_slice (A : Option Addr) (n c : Nat) : (Value.slice A n c).ownBlock = A.map (·.block) := by cases A <;> rfl
theorem row_kept {w w' : World} {B : Nat} {e : TypeId} {size : Nat} {v : Value} {n : Nat} {xs : List Value} (h : w.ownsRow B e size v n xs) (hk : ∀ g, v.ownBlock = some g → w'.heap[g]? = w.heap[g]?) : w'.ownsRow B e size v n xs := by
  refine ⟨h.1, ?_⟩
  rcases h.2 with h1 | ⟨g, cap, cur, rfl, h1, h2, h3⟩
  · exact Or.inl h1
  · exact Or.inr ⟨g, cap, cur, rfl, h1, (hk g rfl).trans h2, h3⟩

/-! ### Frames -/
/-- All blocks but these are as they were. -/
structure Fr (P : Nat → Prop) (w w' : World) : Prop where
  os : w'.os = w.os
  tape : w'.tape = w.tape
  output : w'.output = w.output
  size : w.heap.size ≤ w'.heap.size
  block : ∀ i, i < w.heap.size → ¬ P i → w'.heap[i]? = w.heap[i]?
theorem Fr.refl (P : Nat → Prop) (w : World) : Fr P w w := ⟨rfl, rfl, rfl, Nat.le_refl _, fun _ _ _ => rfl⟩
theorem Fr.trans {P : Nat → Prop} {a b c : World} (h : Fr P a b) (k : Fr P b c) : Fr P a c :=
  ⟨k.os.trans h.os, k.tape.trans h.tape, k.output.trans h.output, Nat.le_trans h.size k.size, fun i hi hp => (k.block i (Nat.lt_of_lt_of_le hi h.size) hp).trans (h.block i hi hp)⟩
theorem Fr.mono {P Q : Nat → Prop} {a b : World} (h : Fr P a b) (hq : ∀ i, i < a.heap.size → P i → Q i) : Fr Q a b :=
  ⟨h.os, h.tape, h.output, h.size, fun i hi hp => h.block i hi fun g => hp (hq i hi g)⟩
theorem Fr.of_below {P : Nat → Prop} {w w' : World} {B : Nat} (h : Below B w w') (hp : ∀ i, B ≤ i → P i) : Fr P w w' := ⟨h.os, h.tape, h.output, h.size, fun i _ hn => h.block i (by
  rcases Nat.lt_or_ge i B with g | g
  · exact g
  · exact absurd (hp i g) hn)⟩
theorem Fr.below {P : Nat → Prop} {w w' : World} (h : Fr P w w') {B : Nat} (hB : B ≤ w.heap.size) (hp : ∀ i, i < B → ¬ P i) : Below B w w' := ⟨h.os, h.tape, h.output, h.size, fun i hi => h.block i (Nat.lt_of_lt_of_le hi hB) (hp i hi)⟩
theorem Fr.setCell {P : Nat → Prop} (w : World) (a : Addr) (u : Value) (hp : P a.block) : Fr P w (w.setCell a u) := ⟨rfl, rfl, rfl, by simp, fun i _ hn => Below.heap_setCell _ _ _ _ fun e => hn (e ▸ hp)⟩
theorem Fr.heap {P : Nat → Prop} {w w' : World} (h : Fr P w w') {b : Nat} {o : Obj} (hc : w.heap[b]? = some o) (hp : ¬ P b) : w'.heap[b]? = some o := (h.block b (heap_lt hc) hp).trans hc
theorem Fr.grown {P : Nat → Prop} {w w' : World} {v : Value} (h : w.grownBy w' v.ownBlock) (hp : ∀ g, v.ownBlock = some g → P g) : Fr P w w' := ⟨h.os, h.tape, h.output, h.size, fun i hi hn => h.block i hi fun g => hn (hp i g.symm)⟩

/-! ### What is read -/
/-- A number that fits. -/
def InZ (z : Int) : Prop := (Lit.int .i64 z).wf = true
theorem InZ.ge {z : Int} (h : InZ z) : -9223372036854775808 ≤ z := by
  unfold InZ at h
  simp only [Lit.wf, Bool.and_eq_true, decide_eq_true_eq] at h
  exact h.1
theorem InZ.le {z : Int} (h : InZ z) : z ≤ 9223372036854775807 := by
  unfold InZ at h
  simp only [Lit.wf, Bool.and_eq_true, decide_eq_true_eq] at h
  exact h.2
/-- A slice that reads as numbers, below B. -/
def RdZ (w : World) (B : Nat) (v : Value) (l : List Int) : Prop :=
  ∃ A cap, v = .slice A l.length cap ∧ l.length ≤ cap ∧ cap ≤ maxLen ∧ (∀ z ∈ l, InZ z) ∧ (l ≠ [] → ∃ b o, A = some ⟨b, o, none⟩ ∧ b < B ∧ ∀ (i : Nat) (h : i < l.length), w.cell? ⟨b, o + i, none⟩ = some (.int .i64 l[i]))
theorem RdZ.fr {P : Nat → Prop} {w w' : World} {B : Nat} {v : Value} {l : List Int} (h : RdZ w B v l) (hf : Fr P w w') (hp : ∀ i, i < B → ¬ P i) : RdZ w' B v l := by
  obtain ⟨A, cap, hv, h1, h2, h3, hc⟩ := h
  refine ⟨A, cap, hv, h1, h2, h3, fun hne => ?_⟩
  obtain ⟨b, o, hA, hlt, hc⟩ := hc hne
  exact ⟨b, o, hA, hlt, fun i hi => (World.cell?_of_block (w := w) (a := ⟨b, o + i, none⟩) (hf.block b (cell_lt (hc i hi)) (hp b hlt))).trans (hc i hi)⟩
theorem RdZ.below {w w' : World} {B : Nat} {v : Value} {l : List Int} (h : RdZ w B v l) (hb : Below B w w') : RdZ w' B v l := by
  obtain ⟨A, cap, hv, h1, h2, h3, hc⟩ := h
  refine ⟨A, cap, hv, h1, h2, h3, fun hne => ?_⟩
  obtain ⟨b, o, hA, hlt, hc⟩ := hc hne
  exact ⟨b, o, hA, hlt, fun i hi => (hb.cell (p := ⟨b, o + i, none⟩) hlt).trans (hc i hi)⟩
theorem RdZ.mono {w : World} {B B' : Nat} {v : Value} {l : List Int} (h : RdZ w B v l) (hb : B ≤ B') : RdZ w B' v l := by
  obtain ⟨A, cap, hv, h1, h2, h3, hc⟩ := h
  refine ⟨A, cap, hv, h1, h2, h3, fun hne => ?_⟩
  obtain ⟨b, o, hA, hlt, hc⟩ := hc hne
  exact ⟨b, o, hA, by omega, hc⟩
theorem RdZ.to {w w' : World} {v : Value} {l : List Int} (h : RdZ w w.heap.size v l) (hb : Below w.heap.size w w') : RdZ w' w'.heap.size v l := (h.below hb).mono hb.size
theorem RdZ.nil (w : World) (B : Nat) : RdZ w B (.slice none 0 0) [] := ⟨none, 0, rfl, by simp, Nat.zero_le _, by simp, fun h => absurd rfl h⟩
theorem RdZ.val {w : World} {B : Nat} {v : Value} {l : List Int} (h : RdZ w B v l) : ∃ A cap, v = .slice A l.length cap ∧ l.length ≤ cap ∧ cap ≤ maxLen := by
  obtain ⟨A, cap, hv, h1, h2, -⟩ := h
  exact ⟨A, cap, hv, h1, h2⟩
theorem RdZ.inZ {w : World} {B : Nat} {v : Value} {l : List Int} (h : RdZ w B v l) : ∀ z ∈ l, InZ z := by
  obtain ⟨A, cap, hv, h1, h2, h3, -⟩ := h
  exact h3
theorem RdZ.atv {w w' : World} {B m c : Nat} {A : Option Addr} {l : List Int} (h : RdZ w B (.slice A m c) l) (hb : Below B w w') {k : Nat} (hk : k < l.length) : ∃ b o, A = some ⟨b, o, none⟩ ∧ b < B ∧ w'.cell? ⟨b, o + k, none⟩ = some (.int .i64 l[k]) := by
  obtain ⟨A', cap, hv, -, -, -, hc⟩ := h
  simp only [Value.slice.injEq] at hv
  obtain ⟨rfl, -, -⟩ := hv
  obtain ⟨b, o, hA, hlt, hcc⟩ := hc (by rintro rfl; simp at hk)
  exact ⟨b, o, hA, hlt, (hb.cell (p := ⟨b, o + k, none⟩) hlt).trans (hcc k hk)⟩
/-- A slice that reads as rows of numbers, below B. -/
def RdZZ (w : World) (B : Nat) (v : Value) (ll : List (List Int)) : Prop :=
  ∃ A cap, v = .slice A ll.length cap ∧ ll.length ≤ cap ∧ cap ≤ maxLen ∧ (ll ≠ [] → ∃ b o, A = some ⟨b, o, none⟩ ∧ b < B ∧ ∀ (i : Nat) (h : i < ll.length), ∃ u, w.cell? ⟨b, o + i, none⟩ = some u ∧ RdZ w B u ll[i])
theorem RdZZ.below {w w' : World} {B : Nat} {v : Value} {ll : List (List Int)} (h : RdZZ w B v ll) (hb : Below B w w') : RdZZ w' B v ll := by
  obtain ⟨A, cap, hv, h1, h2, hc⟩ := h
  refine ⟨A, cap, hv, h1, h2, fun hne => ?_⟩
  obtain ⟨b, o, hA, hlt, hc⟩ := hc hne
  refine ⟨b, o, hA, hlt, fun i hi => ?_⟩
  obtain ⟨u, x1, x2⟩ := hc i hi
  exact ⟨u, (hb.cell (p := ⟨b, o + i, none⟩) hlt).trans x1, x2.below hb⟩
theorem RdZZ.mono {w : World} {B B' : Nat} {v : Value} {ll : List (List Int)} (h : RdZZ w B v ll) (hb : B ≤ B') : RdZZ w B' v ll := by
  obtain ⟨A, cap, hv, h1, h2, hc⟩ := h
  refine ⟨A, cap, hv, h1, h2, fun hne => ?_⟩
  obtain ⟨b, o, hA, hlt, hc⟩ := hc hne
  refine ⟨b, o, hA, by omega, fun i hi => ?_⟩
  obtain ⟨u, x1, x2⟩ := hc i hi
  exact ⟨u, x1, x2.mono hb⟩
theorem RdZZ.to {w w' : World} {v : Value} {l : List (List Int)} (h : RdZZ w w.heap.size v l) (hb : Below w.heap.size w w') : RdZZ w' w'.heap.size v l := (h.below hb).mono hb.size
theorem RdZZ.nil (w : World) (B : Nat) : RdZZ w B (.slice none 0 0) [] := ⟨none, 0, rfl, by simp, Nat.zero_le _, fun h => absurd rfl h⟩
theorem RdZZ.val {w : World} {B : Nat} {v : Value} {l : List (List Int)} (h : RdZZ w B v l) : ∃ A cap, v = .slice A l.length cap ∧ l.length ≤ cap ∧ cap ≤ maxLen := by
  obtain ⟨A, cap, hv, h1, h2, -⟩ := h
  exact ⟨A, cap, hv, h1, h2⟩
theorem RdZZ.atv {w w' : World} {B m c : Nat} {A : Option Addr} {l : List (List Int)} (h : RdZZ w B (.slice A m c) l) (hb : Below B w w') {k : Nat} (hk : k < l.length) : ∃ b o A' c', A = some ⟨b, o, none⟩ ∧ b < B ∧ w'.cell? ⟨b, o + k, none⟩ = some (.slice A' l[k].length c') ∧ RdZ w' B (.slice A' l[k].length c') l[k] := by
  obtain ⟨A', cap, hv, -, -, hc⟩ := h
  simp only [Value.slice.injEq] at hv
  obtain ⟨rfl, -, -⟩ := hv
  obtain ⟨b, o, hA, hlt, hcc⟩ := hc (by rintro rfl; simp at hk)
  obtain ⟨u, x1, x2⟩ := hcc k hk
  obtain ⟨A2, c2, rfl, -, -⟩ := x2.val
  exact ⟨b, o, A2, c2, hA, hlt, (hb.cell (p := ⟨b, o + k, none⟩) hlt).trans x1, x2.below hb⟩

/-! ### Rows of the call's own -/
/-- A row of numbers of the call's own. -/
def OwnZ (B : Nat) (v : Value) (zs : List Int) (w : World) : Prop := w.ownsRow B 3 1 v zs.length (zs.map (Value.int .i64))
theorem OwnZ.nil (B : Nat) (w : World) : OwnZ B (.slice none 0 0) [] w := World.ownsRow_nil w B _ 1
theorem OwnZ.fr {P : Nat → Prop} {B : Nat} {v : Value} {l : List Int} {w w' : World} (h : OwnZ B v l w) (hf : Fr P w w') (hp : ∀ g, v.ownBlock = some g → ¬ P g) : OwnZ B v l w' :=
  row_kept h fun g hg => hf.block g (World.ownsRow.lt h g hg).2 (hp g hg)
theorem OwnZ.below {B : Nat} {v : Value} {l : List Int} {w w' : World} (h : OwnZ B v l w) (hb : Below w.heap.size w w') : OwnZ B v l w' :=
  row_kept h fun g hg => hb.block g (World.ownsRow.lt h g hg).2
theorem OwnZ.more {B B' : Nat} {v : Value} {l : List Int} {w : World} (h : OwnZ B v l w) (hb : B' ≤ B) : OwnZ B' v l w := by
  refine ⟨h.1, h.2.imp id ?_⟩
  rintro ⟨g, cap, cur, rfl, h1, h3⟩
  exact ⟨g, cap, cur, rfl, Nat.le_trans hb h1, h3⟩
theorem OwnZ.val {B : Nat} {v : Value} {zs : List Int} {w : World} (h : OwnZ B v zs w) : ∃ A cap, v = .slice A zs.length cap ∧ zs.length ≤ cap ∧ cap ≤ maxLen := by
  rcases h.2 with ⟨hv, h0⟩ | ⟨g, cap, cur, hv, _, _, h1, h2, _⟩
  · exact ⟨none, 0, by rw [hv, h0], by omega, Nat.zero_le _⟩
  · exact ⟨_, _, hv, h1, h2⟩
theorem OwnZ.lt {B : Nat} {v : Value} {zs : List Int} {w : World} (h : OwnZ B v zs w) : ∀ g, v.ownBlock = some g → B ≤ g ∧ g < w.heap.size := World.ownsRow.lt h
theorem OwnZ.rdz {B : Nat} {v : Value} {zs : List Int} {w : World} (h : OwnZ B v zs w) (hz : ∀ z ∈ zs, InZ z) : RdZ w w.heap.size v zs := by
  rcases h.2 with ⟨hv, h0⟩ | ⟨g, cap, cur, hv, _, hh, h1, h2, _⟩
  · exact ⟨none, 0, by rw [hv, h0], by omega, Nat.zero_le _, hz, fun hn => absurd (List.eq_nil_of_length_eq_zero h0) hn⟩
  · refine ⟨_, cap, hv, h1, h2, hz, fun _ => ⟨g, 0, rfl, heap_lt hh, fun i hi => ?_⟩⟩
    subst hv
    rw [Nat.zero_add, World.ownsRow.cellAt h i (by omega)]
    simp [hi]

/-! ### slices' Clone, Sort, Compact -/
theorem clone_any (l : List Int) (hl : l.length ≤ 1000) (v : Value) (w : World) (hx : RdZ w w.heap.size v l) :
    Calls Try.prog 31 #[v] w fun e w' => ∃ v', e = .returned v' ∧ OwnZ w.heap.size v' l w' ∧ Below w.heap.size w w' := by
  obtain ⟨A, cap, rfl, h1, h2, -, hc⟩ := hx
  by_cases hn : l = []
  · subst hn
    cases A with
    | none => exact (Try.slices_Clone_int_nil 0 cap w).mono fun e w' ⟨h, g⟩ => by subst g; exact ⟨_, h, OwnZ.nil _ _, Below.refl _ _⟩
    | some a => exact (Try.slices_Clone_int_zero a cap w).mono fun e w' ⟨v', h, g, _, k⟩ => ⟨v', h, g, k⟩
  · obtain ⟨b, o, rfl, hlt, hc⟩ := hc hn
    refine (Try.slices_Clone_int b o l.length cap l w (Nat.le_refl _) (by omega) fun j hj => by rw [hc j hj]; simp [hj]).mono ?_
    rintro e w' ⟨v', h, g, -, k⟩
    rw [List.take_length] at g
    exact ⟨v', h, g, k⟩
theorem sort_any {B : Nat} {v : Value} {zs : List Int} {w : World} (h : OwnZ B v zs w) (hl : zs.length ≤ 1000000) :
    Calls Try.prog 29 #[v] w fun e w' => e = .returned (.tuple #[]) ∧ w.grownBy w' v.ownBlock ∧ OwnZ B v (zs.mergeSort fun x y => decide (x ≤ y)) w' := by
  rcases h.2 with ⟨hv, h0⟩ | ⟨g, cap, cur, hv, hg, hh, hn, hcap, hsz, htake⟩
  · have : zs = [] := List.eq_nil_of_length_eq_zero h0
    subst this
    subst hv
    refine (Try.slices_Sort_int_none none 0 w).mono ?_
    rintro e w' ⟨rfl, rfl⟩
    exact ⟨rfl, grown_refl _ _, by rw [List.mergeSort_nil]; exact World.ownsRow_nil _ _ _ _⟩
  · have H := Try.slices_Sort_int g 0 cap zs w (holds_of_blockI hh (by rw [← htake, Nat.mul_one])) (heap_lt hh) (by omega)
    subst hv
    refine H.mono ?_
    rintro e w' ⟨rfl, n, os, rfl⟩
    refine ⟨rfl, grownBy_sortedI _, ?_⟩
    have := ownsRow_sortedI (w := w) (base := B) (g := g) (cap := cap) (e := 3) (os := os) (n := n) (cur := cur) (ss := zs) (ts := zs.mergeSort fun x y => decide (x ≤ y)) (by rw [List.length_mergeSort]) hg hh hn hcap hsz
    unfold OwnZ
    rw [List.length_mergeSort]
    exact this
theorem compact_any {B : Nat} {v : Value} {zs : List Int} {w : World} (h : OwnZ B v zs w) (hl : zs.length ≤ 1000000) :
    Calls Try.prog 32 #[v] w fun e w' => ∃ v', e = .returned v' ∧ w.grownBy w' v.ownBlock ∧ OwnZ B v' (Lib.compact zs) w' := by
  rcases h.2 with ⟨hv, h0⟩ | ⟨g, cap, cur, hv, hg, hh, hn, hcap, hsz, htake⟩
  · have : zs = [] := List.eq_nil_of_length_eq_zero h0
    subst this
    subst hv
    refine (Try.slices_Compact_int_empty none 0 w).mono ?_
    rintro e w' ⟨rfl, rfl⟩
    exact ⟨_, rfl, grown_refl _ _, World.ownsRow_nil _ _ _ _⟩
  · subst hv
    refine (Try.slices_Compact_int g 0 cap zs w (holds_of_blockI hh (by rw [← htake, Nat.mul_one])) (by omega) hn).mono ?_
    rintro e w' ⟨rfl, q, rfl⟩
    have hle := Lib.compact_length_le zs
    have h1 := Lib.ownsRow_putRow (enc := Value.int .i64) (q := q) (k := (Lib.compact zs).length) (ys := Lib.compact zs ++ List.replicate (zs.length - (Lib.compact zs).length) 0) h (by rw [List.length_append, List.length_replicate]; omega) hle
    rw [List.take_left] at h1
    refine ⟨_, rfl, ?_, h1⟩
    have hb := Lib.below_putRow (enc := Value.int .i64) (q := q) (d := (Lib.compact zs ++ List.replicate (zs.length - (Lib.compact zs).length) 0).toArray) (RowKit.Below.refl g w) (Nat.le_refl g)
    refine ⟨hb.os, hb.tape, hb.output, hb.size, fun k hk hne => ?_⟩
    have : g ≠ k := fun e => hne (by rw [← e]; rfl)
    simp [putRow, mapBlock, Sort.ahead, Array.getElem?_modify, this]
theorem sort_set {s : List Int} (h : Cr.isSet s) : (s.mergeSort fun x y => decide (x ≤ y)) = s :=
  List.mergeSort_of_pairwise (h.imp fun h => by simp; omega)
theorem sort_mem (s : List Int) (x : Int) : x ∈ (s.mergeSort fun x y => decide (x ≤ y)) ↔ x ∈ s := List.mem_mergeSort
theorem sort_rise {s : List Int} (h : s.Nodup) : Cr.isSet (s.mergeSort fun x y => decide (x ≤ y)) := by
  have h1 := List.pairwise_mergeSort (le := fun x y : Int => decide (x ≤ y)) (fun a b c h1 h2 => by
    simp only [decide_eq_true_eq] at h1 h2 ⊢
    omega) (fun a b => by
    simp only [Bool.or_eq_true, decide_eq_true_eq]
    omega) s
  have h2 : (s.mergeSort fun x y => decide (x ≤ y)).Nodup := (List.mergeSort_perm s _).nodup_iff.2 h
  refine (h1.and h2).imp fun {a b} ⟨g, e⟩ => ?_
  have : a ≤ b := by simpa using g
  have : a ≠ b := e
  omega
theorem compactUpTo_set (d : Array Int) (n : Nat) (hd : ∀ i, i + 1 < n → d[i]! ≠ d[i + 1]!) : ∀ m, m ≤ n → n ≤ d.size → Lib.compactUpTo d m = d.toList.take m
  | 0, _, _ => by simp [Lib.compactUpTo]
  | m + 1, hm, hn => by
    have hk : Lib.keeps d m = true := by
      cases m with
      | zero => simp [Lib.keeps]
      | succ m => simp [Lib.keeps]; exact fun e => hd m (by omega) e.symm
    rw [Lib.compactUpTo_succ, if_pos hk, compactUpTo_set d n hd m (by omega) hn, List.take_succ_eq_append_getElem (by simp; omega)]
    congr 1
    rw [getElem!_pos d m (by omega)]
    simp
theorem compact_set {s : List Int} (h : Cr.isSet s) : Lib.compact s = s := by
  unfold Lib.compact
  rw [compactUpTo_set s.toArray s.length (fun i hi => ?_) s.length (Nat.le_refl _) (by simp)]
  · simp
  · unfold Cr.isSet at h
    rw [List.pairwise_iff_getElem] at h
    rw [getElem!_pos s.toArray i (by simp; omega), getElem!_pos s.toArray (i + 1) (by simpa using hi)]
    have := h i (i + 1) (by omega) hi (by omega)
    simp only [List.getElem_toArray]
    omega

def SetPost (l : List Int) (w : World) (e : Ending) (w' : World) : Prop := ∃ v', e = .returned v' ∧ OwnZ w.heap.size v' l w' ∧ Below w.heap.size w w'
set_option maxHeartbeats 2000000 in
set_option maxRecDepth 100000 in
theorem set_any (l : List Int) (hs : Cr.isSet l) (hl : l.length ≤ 1000) (v : Value) (w : World) (hx : RdZ w w.heap.size v l) :
    Calls Try.prog 26 #[v] w (SetPost l w) := by
  have HC := hid (clone_any l hl v w hx)
  have HS := hid hs
  obtain ⟨A, cap, rfl, -⟩ := hx
  clear hs
  go_enter Try.func26, Try.ntmps26
  go_wp2_with fail
  refine (HC.out).mono ?_
  rintro e w1 ⟨v1, rfl, h1, b1⟩
  have HSO := hid (sort_any h1 (by omega))
  have HB := hid b1
  have HLT := hid h1.lt
  clear h1 b1 HC
  go_wp2_with fail
  refine (HSO.out).mono ?_
  rintro e w2 ⟨rfl, g2, h2⟩
  rw [sort_set HS.out] at h2
  have HCO := hid (compact_any h2 (by omega))
  have HB2 := hid (HB.out.grown g2 HB.out.size fun k hk => (HLT.out k hk).1)
  clear g2 h2 HSO
  go_wp2_with fail
  refine (HCO.out).mono ?_
  rintro e w3 ⟨v3, rfl, g3, h3⟩
  rw [compact_set HS.out] at h3
  have HE := hid (show SetPost l w (.returned v3) w3 from ⟨v3, rfl, h3, HB2.out.grown g3 HB2.out.size fun k hk => (HLT.out k hk).1⟩)
  clear g3 h3 HCO
  go_wp2_with fail
  go_ret
  exact HE.out
end Go.Proofs.Ytnhjiappmblnmaa
