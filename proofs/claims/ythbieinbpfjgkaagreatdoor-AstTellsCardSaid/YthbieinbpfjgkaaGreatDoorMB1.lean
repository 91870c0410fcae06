/-
  The texts TyG, TyYa, one behind the other. Conditions: those that each of them names.
-/
import Derived.Test.YthbieinbpfjgkaaGreatDoorM2
import Derived.Deep.RegionLaw
import Derived.Test.YthbieinbpfjgkaaGreatDoorM4
import Derived.Lib.LaidTab
import Derived.Lib.ItoaLen
import Derived.Test.YthbieinbpfjgkaaGreatDoorMB0
import Derived.StillTailTactics
import Derived.BigQuiet
section
/-
  How a type is printed, plain and as ty.marks tells it. Conditions: the table of powers of ten holds what the program's text says; a node of one of the ten kinds, its number from 0 on.
-/
namespace Go.Proofs.YthbieinbpfjgkaaGreatDoor
open Go.RowKit Go.Sort

/-- The table of powers of ten holds what the program's text says. -/
def Tab (w : World) : Prop := Lib.TabIs Tryz.prog w "internal/strconv.uint64pow10" .u64 Lib.pow10Tab

theorem gPow : Tryz.prog.globalNamed "internal/strconv.uint64pow10" = some 2 := by kernel_rfl

theorem tab_block {w : World} (h : Tab w) : ∃ cs t fr, w.heap[2]? = some (.cells cs t fr) := by
  unfold Tab Lib.TabIs at h
  simp only [World.var?, gPow, Option.bind_some] at h
  split at h
  · rename_i c t fr hh
    exact ⟨c, t, fr, hh⟩
  · cases h

theorem Tab.size {w : World} (h : Tab w) : 2 < w.heap.size := by
  obtain ⟨_, _, _, h⟩ := tab_block h
  have := heap_lt h
  omega
theorem Tab.below {B : Nat} {w w' : World} (h : Tab w) (hb : Below B w w') (hB : 2 < B) : Tab w' := by
  unfold Tab Lib.TabIs at h ⊢
  rw [← h]
  simp only [World.var?, gPow, Option.bind_some, hb.block 2 (by omega)]
theorem Tab.grows {w w' : World} (h : Tab w) (hb : Below w.heap.size w w') : Tab w' := h.below hb h.size

theorem below_grow (w : World) (k : Nat) (os : Array Obj) : Below w.heap.size w (grow (w.drewN k) os) :=
  ⟨rfl, rfl, rfl, by simp [grow, World.drewN], fun j hj => by simp [grow, World.drewN, Array.getElem?_append, hj]⟩

theorem itoa_any (n : Int) (h0 : 0 ≤ n) (h1 : n ≤ 9223372036854775807) (w : World) (hT : Tab w) :
    Calls Tryz.prog 134 #[.int .i64 n] w fun e w' => e = .returned (.string ⟨(Lib.itoa n).toArray⟩) ∧ Below w.heap.size w w' :=
  (Tryz.strconv_Itoa n (by omega) h1 w hT).mono fun _ _ ⟨he, k, os, hw⟩ => ⟨he, by rw [hw]; exact below_grow w k os⟩

set_option maxHeartbeats 2000000 in
set_option maxRecDepth 100000 in
theorem marks_any (k n : Int) (s : ByteArray) (hk : 0 ≤ k ∧ k ≤ 9) (hn : k = 8 ∨ k = 9 → 0 ≤ n ∧ n ≤ 9223372036854775807) (w : World) (hT : Tab w) :
    Calls Tryz.prog 98 #[.agg #[.int .i64 k, .string s, .int .i64 n]] w fun e w' => e = .returned (.tuple #[.string ⟨(L.first ⟨k, s, n⟩).toArray⟩, .string ⟨(L.betw k).toArray⟩, .string ⟨(L.last k).toArray⟩]) ∧ Below w.heap.size w w' := by
  have HT := hid hT
  clear hT
  rcases (by omega : k = 0 ∨ k = 1 ∨ k = 2 ∨ k = 3 ∨ k = 4 ∨ k = 5 ∨ k = 6 ∨ k = 7 ∨ k = 8 ∨ k = 9) with rfl | rfl | rfl | rfl | rfl | rfl | rfl | rfl | rfl | rfl
  case inr.inr.inr.inr.inr.inr.inr.inr.inl =>
    obtain ⟨h0, h1⟩ := hn (by simp)
    have HI := hid (itoa_any n h0 h1 _ (HT.out.grows (below_new (w := w) (.cells #[.int .i64 8, .string s, .int .i64 n] 41))))
    have hl := Lib.itoa_length_le n (by omega) h1
    have HF : Hid ((⟨#[39]⟩ : ByteArray) ++ ⟨(Lib.itoa n).toArray⟩ = ⟨(L.first ⟨8, s, n⟩).toArray⟩) := hid (ba_append [39] (Lib.itoa n))
    have hD : (⟨(Lib.itoa n).toArray⟩ : ByteArray).size ≤ 21 := by show (Lib.itoa n).toArray.size ≤ 21; simpa using hl
    generalize (⟨(Lib.itoa n).toArray⟩ : ByteArray) = D at *
    go_enter Tryz.func98, Tryz.ntmps98
    go_wp2_with fail
    refine (HI.out).mono ?_
    rintro e w1 ⟨rfl, hb1⟩
    go_wp2
    go_ret3
    refine ⟨?_, (below_new _).trans (hb1.mono (by simp))⟩
    rw [HF.out]
    rfl
  case inr.inr.inr.inr.inr.inr.inr.inr.inr =>
    obtain ⟨h0, h1⟩ := hn (by simp)
    have HI := hid (itoa_any n h0 h1 _ (HT.out.grows (below_new (w := w) (.cells #[.int .i64 9, .string s, .int .i64 n] 41))))
    have hl := Lib.itoa_length_le n (by omega) h1
    have HF : Hid ((⟨#[46, 46]⟩ : ByteArray) ++ ⟨(Lib.itoa n).toArray⟩ = ⟨(L.first ⟨9, s, n⟩).toArray⟩) := hid (ba_append [46, 46] (Lib.itoa n))
    have hD : (⟨(Lib.itoa n).toArray⟩ : ByteArray).size ≤ 21 := by show (Lib.itoa n).toArray.size ≤ 21; simpa using hl
    generalize (⟨(Lib.itoa n).toArray⟩ : ByteArray) = D at *
    go_enter Tryz.func98, Tryz.ntmps98
    go_wp2_with fail
    refine (HI.out).mono ?_
    rintro e w1 ⟨rfl, hb1⟩
    go_wp2
    go_ret3
    refine ⟨?_, (below_new _).trans (hb1.mono (by simp))⟩
    rw [HF.out]
    rfl
  all_goals go_enter Tryz.func98, Tryz.ntmps98
  all_goals go_wp2
  all_goals go_ret3
  all_goals exact ⟨rfl, below_new _⟩

end Go.Proofs.YthbieinbpfjgkaaGreatDoor
end

section
/-
  The walk of ty.Print, with the closure that visits a tree and the printer's label. Conditions: a slice that reads as a right tree, whose print has at most 9000000 bytes; the table of powers of ten holds what the program's text says.
-/
namespace Go.Proofs.YthbieinbpfjgkaaGreatDoor
open Go.RowKit

/-- The printer of the call's own, in block P, holds these bytes. -/
def Bd (P : Nat) (acc : List UInt8) (w : World) : Prop := Lib.IsBuilderF 91 5 P P (Lib.byteCells acc) w
/-- What the printer's writers leave as it was. -/
def Kp (P : Nat) (w w' : World) : Prop := Below P w w' ∧ Lib.OthersKept 5 (some P) w w'

theorem Kp.refl (P : Nat) (w : World) : Kp P w w := ⟨Below.refl _ _, Lib.OthersKept.refl _ _ _⟩
theorem Kp.trans {P : Nat} {a b c : World} (h : Kp P a b) (k : Kp P b c) : Kp P a c := ⟨h.1.trans k.1, h.2.trans k.2⟩
theorem Bd.lt {P : Nat} {acc : List UInt8} {w : World} (h : Bd P acc w) : P < w.heap.size := by
  rcases h with h | h
  · exact h.lt
  · exact h.lt

theorem Bd.below {P : Nat} {acc : List UInt8} {w w' : World} (h : Bd P acc w) (hb : Below w.heap.size w w') : Bd P acc w' := by
  have key : ∀ p, Lib.BuilderAtF 91 5 P P p (Lib.byteCells acc) w → Lib.BuilderAtF 91 5 P P p (Lib.byteCells acc) w' := fun p ⟨hB, v, hbk, hown, hne⟩ => by
    refine ⟨hB, v, (hb.block _ (heap_lt hbk)).trans hbk, ⟨hown.1, ?_⟩, hne⟩
    rcases hown.2 with h0 | ⟨g, cap, cur, fz, h1, h2, h3, h4⟩
    · exact Or.inl h0
    · exact Or.inr ⟨g, cap, cur, fz, h1, h2, (hb.block _ (heap_lt h3)).trans h3, h4⟩
  rcases h with h | h
  · exact Or.inl (key _ h)
  · exact Or.inr (key _ h)

theorem Kp.of_below {P : Nat} {w w' : World} (h : Below w.heap.size w w') (hP : P ≤ w.heap.size) : Kp P w w' := ⟨h.mono hP, fun k _ hk _ _ => (h.block k (heap_lt hk)).trans hk⟩

theorem write_any {P : Nat} {acc : List UInt8} {w : World} (h : Bd P acc w) (s : ByteArray) (hl : acc.length + s.size ≤ 9000200) :
    Calls Tryz.prog 43 #[.pointer (some ⟨P, 0, none⟩), .string s] w fun e w' => e = .returned (.tuple #[.int .i64 s.size, .nilIface]) ∧ Bd P (acc ++ s.data.toList) w' ∧ Kp P w w' := by
  refine (writeString P P _ s w h (by rw [Lib.byteCells_length]; omega) (Nat.le_of_lt h.lt)).mono ?_
  rintro e w' ⟨rfl, h2, b2, k2⟩
  refine ⟨rfl, ?_, b2, k2⟩
  unfold Bd
  rw [Lib.byteCells_append, ← Lib.strCells_eq]
  exact Or.inr h2

set_option maxHeartbeats 2000000 in
set_option maxRecDepth 100000 in
theorem label_any {P : Nat} {acc : List UInt8} {w : World} (h : Bd P acc w) (k n : Int) (s : ByteArray) (hl : acc.length + s.size + 2 ≤ 9000100) :
    Calls Tryz.prog 99 #[.pointer (some ⟨P, 0, none⟩), .agg #[.int .i64 k, .string s, .int .i64 n]] w fun e w' => e = .returned (.tuple #[]) ∧ Bd P (acc ++ L.lab ⟨k, s, n⟩) w' ∧ Kp P w w' := by
  have hP := h.lt
  by_cases h0 : s.size = 0
  · have he := is_empty h0
    have he2 := eqS s ⟨#[]⟩
    go_enter Tryz.func99, Tryz.ntmps99
    go_wp2
    go_end0
    refine ⟨rfl, ?_, Kp.of_below (below_new _) (Nat.le_of_lt hP)⟩
    rw [L.lab, if_pos h0, List.append_nil]
    exact h.below (below_new _)
  · have he := ne_empty (show 0 < s.size by omega)
    obtain ⟨wd, hwd⟩ : ∃ wd, wd = (w.alloc (.cells #[.int .i64 k, .string s, .int .i64 n] 41)).drew := ⟨_, rfl⟩
    have hB0 : Below w.heap.size w wd := by rw [hwd]; exact (below_new _).drew
    have hb0 := h.below hB0
    have hc0 : wd.cell? ⟨w.heap.size, 1, none⟩ = some (.string s) := by rw [hwd]; simp
    have HW := hid (write_any hb0 s (by omega))
    go_enter Tryz.func99, Tryz.ntmps99
    go_wp2
    refine wp_region_still_tail 5 (by kernel_rfl) (by kernel_rfl) ?_
    simp only [List.take_succ_cons, List.take_zero, List.drop_succ_cons, List.drop_zero]
    change wpStill _ _ (World.drew _) _ _ _
    rw [← hwd]
    repeat still_step
    refine wpStill_nil ?_
    change wpList _ _ _ _ _ (World.drew _)
    rw [← hwd]
    clear hwd
    go_wp2_with fail
    refine (HW.out).mono ?_
    rintro e w2 ⟨rfl, hb2, hk2⟩
    have HW2 := hid (write_any hb2 ⟨#[58, 32]⟩ (by rw [List.length_append]; show acc.length + s.data.toList.length + 2 ≤ 9000200; simp; omega))
    go_wp2_with fail
    refine (HW2.out).mono ?_
    rintro e w3 ⟨rfl, hb3, hk3⟩
    go_wp2
    go_end0
    refine ⟨rfl, ?_, ((Kp.of_below hB0 (Nat.le_of_lt hP)).trans hk2).trans hk3⟩
    rw [L.lab, if_neg h0]
    simpa using hb3

/-- What the closure and all that it calls leave as it was: but for the printer, the place, and rows of bytes. -/
def KA (P A : Nat) (w w' : World) : Prop := Below P w w' ∧ ∀ k o, w.heap[k]? = some o → k ≠ P → k ≠ A → (∀ c fz, o ≠ .cells c 5 fz) → w'.heap[k]? = some o

theorem KA.trans {P A : Nat} {a b c : World} (h : KA P A a b) (k : KA P A b c) : KA P A a c :=
  ⟨h.1.trans k.1, fun i o hi h1 h2 h3 => k.2 i o (h.2 i o hi h1 h2 h3) h1 h2 h3⟩
theorem KA.of_kp {P A : Nat} {w w' : World} (h : Kp P w w') : KA P A w w' := ⟨h.1, fun k o hk h1 _ h3 => h.2 k o hk (by simpa using h1) h3⟩
theorem KA.of_below {P A : Nat} {w w' : World} (h : Below w.heap.size w w') (hP : P ≤ w.heap.size) : KA P A w w' := .of_kp (Kp.of_below h hP)
theorem KA.set {P A : Nat} {w : World} (hPA : P ≤ A) (v : Value) : KA P A w (w.setCell ⟨A, 0, none⟩ v) :=
  ⟨(Below.refl _ _).setCell (p := ⟨A, 0, none⟩) hPA v, fun k _ hk _ h2 _ => (heap_setCell_other w ⟨A, 0, none⟩ k v h2).trans hk⟩

/-- What the closure stands on. -/
structure PSt (l : List L.Nd) (v : Value) (T P A V p : Nat) (acc : List UInt8) (w : World) : Prop where
  t : w.heap[T]? = some (.cells #[v] 37 (0, 0))
  a : w.heap[A]? = some (.cells #[.int .i64 p] 3 (0, 0))
  f : w.heap[V]? = some (.cells #[.func (.func 97) #[] #[.pointer (some ⟨T, 0, none⟩), .pointer (some ⟨A, 0, none⟩), .pointer (some ⟨P, 0, none⟩), .pointer (some ⟨V, 0, none⟩)]] 92 (0, 0))
  bd : Bd P acc w
  rd : Rd w T v l
  tab : Tab w
  two : 2 < T
  tp : T < P
  pa : P < A
  av : A < V

theorem PSt.keep {l : List L.Nd} {v : Value} {T P A V p q : Nat} {acc acc' : List UInt8} {w w' : World} (h : PSt l v T P A V p acc w) (hk : KA P A w w') (ha : w'.heap[A]? = some (.cells #[.int .i64 q] 3 (0, 0))) (hb : Bd P acc' w') : PSt l v T P A V q acc' w' :=
  ⟨(hk.1.block T h.tp).trans h.t, ha, hk.2 V _ h.f (by have := h.pa; have := h.av; omega) (by have := h.av; omega) (by intro c fz he; injection he with _ h2; exact absurd h2 (by decide)), hb,
    h.rd.low (hk.1.mono (Nat.le_of_lt h.tp)), h.tab.below hk.1 (by have := h.two; have := h.tp; omega), h.two, h.tp, h.pa, h.av⟩

/-- Where the place is left alone. -/
theorem PSt.stay {l : List L.Nd} {v : Value} {T P A V p : Nat} {acc acc' : List UInt8} {w w' : World} (h : PSt l v T P A V p acc w) (hk : Kp P w w') (hb : Bd P acc' w') : PSt l v T P A V p acc' w' :=
  h.keep (.of_kp hk) (hk.2 A _ h.a (by have := h.pa; simp; omega) (by intro c fz he; injection he with _ h2; exact absurd h2 (by decide))) hb

theorem node_kept {P A : Nat} {w w' : World} (hk : KA P A w w') {N : Nat} {cs : Array Value} (h : w.heap[N]? = some (.cells cs 41 (0, 0))) (h1 : N ≠ P) (h2 : N ≠ A) : w'.heap[N]? = some (.cells cs 41 (0, 0)) :=
  hk.2 N _ h h1 h2 (by intro c fz he; injection he with _ h3; exact absurd h3 (by decide))

theorem cell_box {w : World} {b : Nat} {v : Value} {t : TypeId} (h : w.heap[b]? = some (.cells #[v] t (0, 0))) : w.cell? ⟨b, 0, none⟩ = some v := Lib.cell_of_heap h 0

theorem Bd.setA {P A : Nat} {acc : List UInt8} {w : World} (h : Bd P acc w) {cs : Array Value} (ha : w.heap[A]? = some (.cells cs 3 (0, 0))) (hne : P ≠ A) (v : Value) : Bd P acc (w.setCell ⟨A, 0, none⟩ v) := by
  have key : ∀ p, Lib.BuilderAtF 91 5 P P p (Lib.byteCells acc) w → Lib.BuilderAtF 91 5 P P p (Lib.byteCells acc) (w.setCell ⟨A, 0, none⟩ v) := fun p ⟨hB, u, hbk, hown, hn⟩ => by
    refine ⟨hB, u, (heap_setCell_other w ⟨A, 0, none⟩ P v hne).trans hbk, ⟨hown.1, ?_⟩, hn⟩
    rcases hown.2 with h0 | ⟨g, cap, cur, fz, h1, h2, h3, h4⟩
    · exact Or.inl h0
    · refine Or.inr ⟨g, cap, cur, fz, h1, h2, (heap_setCell_other w ⟨A, 0, none⟩ g v ?_).trans h3, h4⟩
      rintro rfl
      rw [ha] at h3
      injection h3 with h3
      injection h3 with _ h5
      exact absurd h5 (by decide)
  rcases h with h | h
  · exact Or.inl (key _ h)
  · exact Or.inr (key _ h)

end Go.Proofs.YthbieinbpfjgkaaGreatDoor
end
