/-
  The walk of ty.Print, with the closure that visits a tree and the printer's label. Conditions: a slice that reads as a right tree, whose print has at most 9000000 bytes; the table of powers of ten holds what the program's text says.
-/
import Derived.Test.YtimlblbmfckeiaaDoorTyG
import Derived.Test.YtimlblbmfckeiaaDoorTyB
import Derived.StillTailTactics
import Derived.BigQuiet
namespace Go.Proofs.YtimlblbmfckeiaaDoor.L
open Go

def lab (x : Nd) : List UInt8 := if x.name.size = 0 then [] else x.name.data.toList ++ [58, 32]
def opn (p : Bool) (x : Nd) : List UInt8 := (if p then [40] else []) ++ first x
def cls (p : Bool) (kind : Int) : List UInt8 := last kind ++ (if p then [41] else [])
/-- Does the k-th child of a node of kind pk stand in brackets? -/
def par (pk : Int) (k : Nat) (x : Nd) : Bool := decide (k = 0) && (decide (pk = 5) && decide (x.kind = 5))

/-- Trees, as the children of a node of kind pk from number k on are printed. -/
def prs : Fo → Int → Nat → List UInt8
  | .nil, _, _ => []
  | .cons x ks r, pk, k => (if 0 < k then betw pk else []) ++ (lab x ++ (opn (par pk k x) x ++ (prs ks x.kind 0 ++ (cls (par pk k x) x.kind ++ prs r pk (k + 1)))))

/-- A tree, printed, in brackets or not. -/
def prT (p : Bool) (x : Nd) (ks : Fo) : List UInt8 := lab x ++ (opn p x ++ (prs ks x.kind 0 ++ cls p x.kind))

theorem prs_cons (x : Nd) (ks r : Fo) (pk : Int) (k : Nat) : prs (.cons x ks r) pk k = (if 0 < k then betw pk else []) ++ (prT (par pk k x) x ks ++ prs r pk (k + 1)) := by
  simp [prs, prT]

end Go.Proofs.YtimlblbmfckeiaaDoor.L
namespace Go.Proofs.YtimlblbmfckeiaaDoor
open Go.RowKit

/-- The printer of the call's own, in block P, holds these bytes. -/
def Bd (P : Nat) (acc : List UInt8) (w : World) : Prop := Lib.IsBuilderF 51 5 P P (Lib.byteCells acc) w
/-- What the printer's writers leave as it was. -/
def Kp (P : Nat) (w w' : World) : Prop := Below P w w' ∧ Lib.OthersKept 5 (some P) w w'

theorem Kp.refl (P : Nat) (w : World) : Kp P w w := ⟨Below.refl _ _, Lib.OthersKept.refl _ _ _⟩
theorem Kp.trans {P : Nat} {a b c : World} (h : Kp P a b) (k : Kp P b c) : Kp P a c := ⟨h.1.trans k.1, h.2.trans k.2⟩
theorem Bd.lt {P : Nat} {acc : List UInt8} {w : World} (h : Bd P acc w) : P < w.heap.size := by
  rcases h with h | h
  · exact h.lt
  · exact h.lt

theorem Bd.below {P : Nat} {acc : List UInt8} {w w' : World} (h : Bd P acc w) (hb : Below w.heap.size w w') : Bd P acc w' := by
  have key : ∀ p, Lib.BuilderAtF 51 5 P P p (Lib.byteCells acc) w → Lib.BuilderAtF 51 5 P P p (Lib.byteCells acc) w' := fun p ⟨hB, v, hbk, hown, hne⟩ => by
    refine ⟨hB, v, (hb.block _ (heap_lt hbk)).trans hbk, ⟨hown.1, ?_⟩, hne⟩
    rcases hown.2 with h0 | ⟨g, cap, cur, fz, h1, h2, h3, h4⟩
    · exact Or.inl h0
    · exact Or.inr ⟨g, cap, cur, fz, h1, h2, (hb.block _ (heap_lt h3)).trans h3, h4⟩
  rcases h with h | h
  · exact Or.inl (key _ h)
  · exact Or.inr (key _ h)

theorem Kp.of_below {P : Nat} {w w' : World} (h : Below w.heap.size w w') (hP : P ≤ w.heap.size) : Kp P w w' := ⟨h.mono hP, fun k _ hk _ _ => (h.block k (heap_lt hk)).trans hk⟩

theorem write_any {P : Nat} {acc : List UInt8} {w : World} (h : Bd P acc w) (s : ByteArray) (hl : acc.length + s.size ≤ 9000200) :
    Calls Tryd.prog 32 #[.pointer (some ⟨P, 0, none⟩), .string s] w fun e w' => e = .returned (.tuple #[.int .i64 s.size, .nilIface]) ∧ Bd P (acc ++ s.data.toList) w' ∧ Kp P w w' := by
  refine (writeString P P _ s w h (by rw [Lib.byteCells_length]; omega) (Nat.le_of_lt h.lt)).mono ?_
  rintro e w' ⟨rfl, h2, b2, k2⟩
  refine ⟨rfl, ?_, b2, k2⟩
  unfold Bd
  rw [Lib.byteCells_append, ← Lib.strCells_eq]
  exact Or.inr h2

set_option maxHeartbeats 2000000 in
set_option maxRecDepth 100000 in
theorem label_any {P : Nat} {acc : List UInt8} {w : World} (h : Bd P acc w) (k n : Int) (s : ByteArray) (hl : acc.length + s.size + 2 ≤ 9000100) :
    Calls Tryd.prog 31 #[.pointer (some ⟨P, 0, none⟩), .agg #[.int .i64 k, .string s, .int .i64 n]] w fun e w' => e = .returned (.tuple #[]) ∧ Bd P (acc ++ L.lab ⟨k, s, n⟩) w' ∧ Kp P w w' := by
  have hP := h.lt
  by_cases h0 : s.size = 0
  · have he := is_empty h0
    have he2 := eqS s ⟨#[]⟩
    go_enter Tryd.func31, Tryd.ntmps31
    go_wp2
    go_end0
    refine ⟨rfl, ?_, Kp.of_below (below_new _) (Nat.le_of_lt hP)⟩
    rw [L.lab, if_pos h0, List.append_nil]
    exact h.below (below_new _)
  · have he := ne_empty (show 0 < s.size by omega)
    obtain ⟨wd, hwd⟩ : ∃ wd, wd = (w.alloc (.cells #[.int .i64 k, .string s, .int .i64 n] 44)).drew := ⟨_, rfl⟩
    have hB0 : Below w.heap.size w wd := by rw [hwd]; exact (below_new _).drew
    have hb0 := h.below hB0
    have hc0 : wd.cell? ⟨w.heap.size, 1, none⟩ = some (.string s) := by rw [hwd]; simp
    have HW := hid (write_any hb0 s (by omega))
    go_enter Tryd.func31, Tryd.ntmps31
    go_wp2
    refine wp_region_still_tail 5 (by kernel_rfl) (by kernel_rfl) ?_
    simp only [List.take_succ_cons, List.take_zero, List.drop_succ_cons, List.drop_zero]
    change wpStill _ _ (World.drew _) _ _ _
    rw [← hwd]
    repeat still_step
    refine wpStill_nil ?_
    change wpList _ _ _ _ _ (World.drew _)
    rw [← hwd]
    clear hwd
    go_wp2_with fail
    refine (HW.out).mono ?_
    rintro e w2 ⟨rfl, hb2, hk2⟩
    have HW2 := hid (write_any hb2 ⟨#[58, 32]⟩ (by rw [List.length_append]; show acc.length + s.data.toList.length + 2 ≤ 9000200; simp; omega))
    go_wp2_with fail
    refine (HW2.out).mono ?_
    rintro e w3 ⟨rfl, hb3, hk3⟩
    go_wp2
    go_end0
    refine ⟨rfl, ?_, ((Kp.of_below hB0 (Nat.le_of_lt hP)).trans hk2).trans hk3⟩
    rw [L.lab, if_neg h0]
    simpa using hb3

/-- What the closure and all that it calls leave as it was: but for the printer, the place, and rows of bytes. -/
def KA (P A : Nat) (w w' : World) : Prop := Below P w w' ∧ ∀ k o, w.heap[k]? = some o → k ≠ P → k ≠ A → (∀ c fz, o ≠ .cells c 5 fz) → w'.heap[k]? = some o

theorem KA.trans {P A : Nat} {a b c : World} (h : KA P A a b) (k : KA P A b c) : KA P A a c :=
  ⟨h.1.trans k.1, fun i o hi h1 h2 h3 => k.2 i o (h.2 i o hi h1 h2 h3) h1 h2 h3⟩
theorem KA.of_kp {P A : Nat} {w w' : World} (h : Kp P w w') : KA P A w w' := ⟨h.1, fun k o hk h1 _ h3 => h.2 k o hk (by simpa using h1) h3⟩
theorem KA.of_below {P A : Nat} {w w' : World} (h : Below w.heap.size w w') (hP : P ≤ w.heap.size) : KA P A w w' := .of_kp (Kp.of_below h hP)
theorem KA.set {P A : Nat} {w : World} (hPA : P ≤ A) (v : Value) : KA P A w (w.setCell ⟨A, 0, none⟩ v) :=
  ⟨(Below.refl _ _).setCell (p := ⟨A, 0, none⟩) hPA v, fun k _ hk _ h2 _ => (heap_setCell_other w ⟨A, 0, none⟩ k v h2).trans hk⟩

/-- What the closure stands on. -/
structure PSt (l : List L.Nd) (v : Value) (T P A V p : Nat) (acc : List UInt8) (w : World) : Prop where
  t : w.heap[T]? = some (.cells #[v] 23 (0, 0))
  a : w.heap[A]? = some (.cells #[.int .i64 p] 3 (0, 0))
  f : w.heap[V]? = some (.cells #[.func (.func 29) #[] #[.pointer (some ⟨T, 0, none⟩), .pointer (some ⟨A, 0, none⟩), .pointer (some ⟨P, 0, none⟩), .pointer (some ⟨V, 0, none⟩)]] 52 (0, 0))
  bd : Bd P acc w
  rd : Rd w T v l
  tab : Tab w
  two : 2 ≤ T
  tp : T < P
  pa : P < A
  av : A < V

theorem PSt.keep {l : List L.Nd} {v : Value} {T P A V p q : Nat} {acc acc' : List UInt8} {w w' : World} (h : PSt l v T P A V p acc w) (hk : KA P A w w') (ha : w'.heap[A]? = some (.cells #[.int .i64 q] 3 (0, 0))) (hb : Bd P acc' w') : PSt l v T P A V q acc' w' :=
  ⟨(hk.1.block T h.tp).trans h.t, ha, hk.2 V _ h.f (by have := h.pa; have := h.av; omega) (by have := h.av; omega) (by intro c fz he; injection he with _ h2; exact absurd h2 (by decide)), hb,
    h.rd.low (hk.1.mono (Nat.le_of_lt h.tp)), h.tab.below hk.1 (by have := h.two; have := h.tp; omega), h.two, h.tp, h.pa, h.av⟩

/-- Where the place is left alone. -/
theorem PSt.stay {l : List L.Nd} {v : Value} {T P A V p : Nat} {acc acc' : List UInt8} {w w' : World} (h : PSt l v T P A V p acc w) (hk : Kp P w w') (hb : Bd P acc' w') : PSt l v T P A V p acc' w' :=
  h.keep (.of_kp hk) (hk.2 A _ h.a (by have := h.pa; simp; omega) (by intro c fz he; injection he with _ h2; exact absurd h2 (by decide))) hb

theorem node_kept {P A : Nat} {w w' : World} (hk : KA P A w w') {N : Nat} {cs : Array Value} (h : w.heap[N]? = some (.cells cs 44 (0, 0))) (h1 : N ≠ P) (h2 : N ≠ A) : w'.heap[N]? = some (.cells cs 44 (0, 0)) :=
  hk.2 N _ h h1 h2 (by intro c fz he; injection he with _ h3; exact absurd h3 (by decide))

theorem cell_box {w : World} {b : Nat} {v : Value} {t : TypeId} (h : w.heap[b]? = some (.cells #[v] t (0, 0))) : w.cell? ⟨b, 0, none⟩ = some v := Lib.cell_of_heap h 0

theorem kind_of {x : L.Nd} (h : L.numbered x = true) : (0 ≤ x.kind ∧ x.kind ≤ 9) ∧ (x.kind = 8 ∨ x.kind = 9 → 0 ≤ x.n) := by
  unfold L.numbered at h
  repeat' split at h
  all_goals simp at h
  all_goals omega

theorem first_len {x : L.Nd} (h0 : x.kind = 8 ∨ x.kind = 9 → 0 ≤ x.n) (h1 : x.n ≤ 9223372036854775807) : (L.first x).length ≤ 23 := by
  unfold L.first
  repeat' split
  all_goals first
    | (simp; done)
    | (have := Lib.itoa_length_le x.n (by omega) h1; simp; omega)
theorem betw_len (k : Int) : (L.betw k).length ≤ 4 := by
  unfold L.betw
  repeat' split
  all_goals simp
theorem last_len (k : Int) : (L.last k).length ≤ 1 := by
  unfold L.last
  repeat' split
  all_goals simp

theorem Bd.setA {P A : Nat} {acc : List UInt8} {w : World} (h : Bd P acc w) {cs : Array Value} (ha : w.heap[A]? = some (.cells cs 3 (0, 0))) (hne : P ≠ A) (v : Value) : Bd P acc (w.setCell ⟨A, 0, none⟩ v) := by
  have key : ∀ p, Lib.BuilderAtF 51 5 P P p (Lib.byteCells acc) w → Lib.BuilderAtF 51 5 P P p (Lib.byteCells acc) (w.setCell ⟨A, 0, none⟩ v) := fun p ⟨hB, u, hbk, hown, hn⟩ => by
    refine ⟨hB, u, (heap_setCell_other w ⟨A, 0, none⟩ P v hne).trans hbk, ⟨hown.1, ?_⟩, hn⟩
    rcases hown.2 with h0 | ⟨g, cap, cur, fz, h1, h2, h3, h4⟩
    · exact Or.inl h0
    · refine Or.inr ⟨g, cap, cur, fz, h1, h2, (heap_setCell_other w ⟨A, 0, none⟩ g v ?_).trans h3, h4⟩
      rintro rfl
      rw [ha] at h3
      injection h3 with h3
      injection h3 with _ h5
      exact absurd h5 (by decide)
  rcases h with h | h
  · exact Or.inl (key _ h)
  · exact Or.inr (key _ h)

end Go.Proofs.YtimlblbmfckeiaaDoor
