/-
  How a type is printed, plain and as ty.marks tells it. Conditions: the table of powers of ten holds what the program's text says; a node of one of the ten kinds, its number from 0 on.
-/
import Derived.Test.YtimlblbmfckeiaaDoorTyX
import Derived.Lib.LaidTab
import Derived.Lib.ItoaLen
namespace Go.Proofs.YtimlblbmfckeiaaDoor.L
open Go

def str (s : String) : List UInt8 := s.toUTF8.data.toList

/-- What is ahead of the children, between them, and behind. -/
def first (x : Nd) : List UInt8 :=
  if x.kind = 0 then [63] else if x.kind = 1 then [105, 110, 116] else if x.kind = 2 then [98, 111, 111, 108] else if x.kind = 3 then [115, 116, 114, 105, 110, 103] else if x.kind = 4 then [117, 110, 105, 116]
  else if x.kind = 6 then [123] else if x.kind = 7 then [91] else if x.kind = 8 then 39 :: Lib.itoa x.n else if x.kind = 9 then 46 :: 46 :: Lib.itoa x.n else []
def betw (kind : Int) : List UInt8 := if kind = 5 then [32, 45, 62, 32] else if kind = 6 then [44, 32] else if kind = 7 then [32, 124, 32] else []
def last (kind : Int) : List UInt8 := if kind = 6 then [125] else if kind = 7 then [93] else []

end Go.Proofs.YtimlblbmfckeiaaDoor.L
namespace Go.Proofs.YtimlblbmfckeiaaDoor
open Go.RowKit Go.Sort

/-- The table of powers of ten holds what the program's text says. -/
def Tab (w : World) : Prop := Lib.TabIs Tryd.prog w "internal/strconv.uint64pow10" .u64 Lib.pow10Tab

theorem gPow : Tryd.prog.globalNamed "internal/strconv.uint64pow10" = some 1 := by kernel_rfl

theorem tab_block {w : World} (h : Tab w) : ∃ cs t fr, w.heap[1]? = some (.cells cs t fr) := by
  unfold Tab Lib.TabIs at h
  simp only [World.var?, gPow, Option.bind_some] at h
  split at h
  · rename_i c t fr hh
    exact ⟨c, t, fr, hh⟩
  · cases h

theorem Tab.size {w : World} (h : Tab w) : 2 ≤ w.heap.size := by
  obtain ⟨_, _, _, h⟩ := tab_block h
  have := heap_lt h
  omega
theorem Tab.below {B : Nat} {w w' : World} (h : Tab w) (hb : Below B w w') (hB : 2 ≤ B) : Tab w' := by
  unfold Tab Lib.TabIs at h ⊢
  rw [← h]
  simp only [World.var?, gPow, Option.bind_some, hb.block 1 (by omega)]
theorem Tab.grows {w w' : World} (h : Tab w) (hb : Below w.heap.size w w') : Tab w' := h.below hb h.size

theorem below_grow (w : World) (k : Nat) (os : Array Obj) : Below w.heap.size w (grow (w.drewN k) os) :=
  ⟨rfl, rfl, rfl, by simp [grow, World.drewN], fun j hj => by simp [grow, World.drewN, Array.getElem?_append, hj]⟩

theorem itoa_any (n : Int) (h0 : 0 ≤ n) (h1 : n ≤ 9223372036854775807) (w : World) (hT : Tab w) :
    Calls Tryd.prog 52 #[.int .i64 n] w fun e w' => e = .returned (.string ⟨(Lib.itoa n).toArray⟩) ∧ Below w.heap.size w w' :=
  (Tryd.strconv_Itoa n (by omega) h1 w hT).mono fun _ _ ⟨he, k, os, hw⟩ => ⟨he, by rw [hw]; exact below_grow w k os⟩

theorem ba_append (a b : List UInt8) : (⟨a.toArray⟩ : ByteArray) ++ ⟨b.toArray⟩ = ⟨(a ++ b).toArray⟩ := by
  apply ByteArray.ext
  simp

set_option maxHeartbeats 2000000 in
set_option maxRecDepth 100000 in
theorem marks_any (k n : Int) (s : ByteArray) (hk : 0 ≤ k ∧ k ≤ 9) (hn : k = 8 ∨ k = 9 → 0 ≤ n ∧ n ≤ 9223372036854775807) (w : World) (hT : Tab w) :
    Calls Tryd.prog 30 #[.agg #[.int .i64 k, .string s, .int .i64 n]] w fun e w' => e = .returned (.tuple #[.string ⟨(L.first ⟨k, s, n⟩).toArray⟩, .string ⟨(L.betw k).toArray⟩, .string ⟨(L.last k).toArray⟩]) ∧ Below w.heap.size w w' := by
  have HT := hid hT
  clear hT
  rcases (by omega : k = 0 ∨ k = 1 ∨ k = 2 ∨ k = 3 ∨ k = 4 ∨ k = 5 ∨ k = 6 ∨ k = 7 ∨ k = 8 ∨ k = 9) with rfl | rfl | rfl | rfl | rfl | rfl | rfl | rfl | rfl | rfl
  case inr.inr.inr.inr.inr.inr.inr.inr.inl =>
    obtain ⟨h0, h1⟩ := hn (by simp)
    have HI := hid (itoa_any n h0 h1 _ (HT.out.grows (below_new (w := w) (.cells #[.int .i64 8, .string s, .int .i64 n] 44))))
    have hl := Lib.itoa_length_le n (by omega) h1
    have HF : Hid ((⟨#[39]⟩ : ByteArray) ++ ⟨(Lib.itoa n).toArray⟩ = ⟨(L.first ⟨8, s, n⟩).toArray⟩) := hid (ba_append [39] (Lib.itoa n))
    have hD : (⟨(Lib.itoa n).toArray⟩ : ByteArray).size ≤ 21 := by show (Lib.itoa n).toArray.size ≤ 21; simpa using hl
    generalize (⟨(Lib.itoa n).toArray⟩ : ByteArray) = D at *
    go_enter Tryd.func30, Tryd.ntmps30
    go_wp2_with fail
    refine (HI.out).mono ?_
    rintro e w1 ⟨rfl, hb1⟩
    go_wp2
    go_ret3
    refine ⟨?_, (below_new _).trans (hb1.mono (by simp))⟩
    rw [HF.out]
    rfl
  case inr.inr.inr.inr.inr.inr.inr.inr.inr =>
    obtain ⟨h0, h1⟩ := hn (by simp)
    have HI := hid (itoa_any n h0 h1 _ (HT.out.grows (below_new (w := w) (.cells #[.int .i64 9, .string s, .int .i64 n] 44))))
    have hl := Lib.itoa_length_le n (by omega) h1
    have HF : Hid ((⟨#[46, 46]⟩ : ByteArray) ++ ⟨(Lib.itoa n).toArray⟩ = ⟨(L.first ⟨9, s, n⟩).toArray⟩) := hid (ba_append [46, 46] (Lib.itoa n))
    have hD : (⟨(Lib.itoa n).toArray⟩ : ByteArray).size ≤ 21 := by show (Lib.itoa n).toArray.size ≤ 21; simpa using hl
    generalize (⟨(Lib.itoa n).toArray⟩ : ByteArray) = D at *
    go_enter Tryd.func30, Tryd.ntmps30
    go_wp2_with fail
    refine (HI.out).mono ?_
    rintro e w1 ⟨rfl, hb1⟩
    go_wp2
    go_ret3
    refine ⟨?_, (below_new _).trans (hb1.mono (by simp))⟩
    rw [HF.out]
    rfl
  all_goals go_enter Tryd.func30, Tryd.ntmps30
  all_goals go_wp2
  all_goals go_ret3
  all_goals exact ⟨rfl, below_new _⟩

end Go.Proofs.YtimlblbmfckeiaaDoor
