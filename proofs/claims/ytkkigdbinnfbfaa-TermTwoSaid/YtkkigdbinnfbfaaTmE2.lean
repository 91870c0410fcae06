/-
  The walks of the closures of term's rowErrno. Conditions: at most 200 types, none of them empty, labels of at most 100 bytes.
-/
import Derived.Test.YtkkigdbinnfbfaaTmE1
import Derived.Test.YtkkigdbinnfbfaaTmX4
namespace Go.Proofs.Ytkkigdbinnfbfaa
open Go.RowKit

theorem RdR.upon {w w' : World} {v : Value} {ts : List VT} (h : RdR w w.heap.size v ts) (hb : Below w.heap.size w w') : RdR w' w'.heap.size v ts := h.to hb
/-- The block is a box of this value. -/
def BoxB (w : World) (b : Nat) (v : Bool) : Prop := w.heap[b]? = some (.cells #[.bool v] 4 (0, 0))
theorem BoxB.fr {P : Nat → Prop} {w w' : World} {b : Nat} {v : Bool} (h : BoxB w b v) (hf : Fr P w w') (hp : ¬ P b) : BoxB w' b v := hf.heap h hp
theorem BoxB.below {w w' : World} {b : Nat} {v : Bool} (h : BoxB w b v) (hb : Below w.heap.size w w') : BoxB w' b v := (hb.block b (heap_lt h)).trans h
theorem BoxB.set {w : World} {b : Nat} {v : Bool} (h : BoxB w b v) (u : Bool) : BoxB (w.setCell ⟨b, 0, none⟩ (.bool u)) b u := heap_setCell_same w b 0 _ _ _ h
theorem BoxB.other {w : World} {b c : Nat} {v : Bool} (h : BoxB w b v) (hne : b ≠ c) (u : Value) : BoxB (w.setCell ⟨c, 0, none⟩ u) b v := (heap_setCell_other w ⟨c, 0, none⟩ b u hne).trans h

def LookPost (bt bl : Nat) (T U : Bool) (w : World) (e : Ending) (w' : World) : Prop := e = .returned (.tuple #[]) ∧ BoxB w' bt T ∧ BoxB w' bl U ∧ Fr (fun i => i = bt ∨ i = bl) w w'

set_option maxHeartbeats 4000000 in
set_option maxRecDepth 100000 in
theorem look_any (ks : List VT) (h0 : ∀ t ∈ ks, t.2 ≠ []) (hn : ks.length ≤ 200) (hnm : ∀ t ∈ ks, (L.hd0 t.2).name.size ≤ 100) (v : Value) (bt bl : Nat) (hne : bt ≠ bl) (T U : Bool) (w : World) (hx : RdR w w.heap.size v ks) (ht : BoxB w bt T) (hu : BoxB w bl U) :
    Calls Try.prog 35 #[v, .pointer (some ⟨bt, 0, none⟩), .pointer (some ⟨bl, 0, none⟩)] w (LookPost bt bl (T || L.twiceF [] (nameT ks)) (U || decide (50 < ks.length)) w) := by
  have HT := hid (hasTwice_any ks h0 hn hnm v w hx)
  have HBT := hid ht
  have HBU := hid hu
  obtain ⟨A, cap, rfl, -⟩ := RdR.val hx
  have ct := Lib.cell_of_heap ht 0
  have cu := Lib.cell_of_heap hu 0
  have ft : w.frozen? ⟨bt, 0, none⟩ = false := Lib.frozen_of_heap ht 0
  have fu : w.frozen? ⟨bl, 0, none⟩ = false := Lib.frozen_of_heap hu 0
  have hne2 : bl ≠ bt := fun e => hne e.symm
  have hlt := heap_lt ht
  have hlu := heap_lt hu
  obtain ⟨TW, hTW⟩ : ∃ TW, L.twiceF [] (nameT ks) = TW := ⟨_, rfl⟩
  rw [hTW] at HT ⊢
  -- what is left to do behind the first store
  have HFR := hid (fun (w1 : World) (a b : Bool) (hb1 : Below w.heap.size w w1) => show LookPost bt bl a b w (.returned (.tuple #[])) ((w1.setCell ⟨bt, 0, none⟩ (.bool a)).setCell ⟨bl, 0, none⟩ (.bool b)) from by
    have h1 := (HBT.out.below hb1).set a
    have h2 := ((HBU.out.below hb1).other hne2 (.bool a)).set b
    exact ⟨rfl, h1.other hne _, h2, ⟨hb1.os, hb1.tape, hb1.output, by have := hb1.size; simpa using this, fun i hi hp => (heap_setCell_other _ ⟨bl, 0, none⟩ i _ (fun e => hp (Or.inr e))).trans ((heap_setCell_other _ ⟨bt, 0, none⟩ i _ (fun e => hp (Or.inl e))).trans (hb1.block i hi))⟩⟩)
  clear hx h0 hnm ht hu hTW
  cases T with
  | true =>
    clear HT
    have HB0 := hid (Below.refl w.heap.size w)
    go_enter Try.func35, Try.ntmps35
    cases U with
    | true =>
      have EX := hid (HFR.out w true true HB0.out)
      clear HFR
      go_wp2_with fail
      refine bodyPost_ret (results_none rfl _ _ _) rfl ?_
      exact EX.out
    | false =>
      by_cases h50 : 50 < ks.length
      · have EX := hid (HFR.out w true true HB0.out)
        have hz : (50 : Int) < (ks.length : Int) := by omega
        have e1 : Hid (decide (50 < ks.length) = true) := hid (decide_eq_true h50)
        clear HFR h50
        go_wp2_with fail
        refine bodyPost_ret (results_none rfl _ _ _) rfl ?_
        rw [e1.out]
        exact EX.out
      · have EX := hid (HFR.out w true false HB0.out)
        have hz : ¬ (50 : Int) < (ks.length : Int) := by omega
        have hzd : decide ((50 : Int) < (ks.length : Int)) = false := by simpa using hz
        have e1 : Hid (decide (50 < ks.length) = false) := hid (decide_eq_false h50)
        clear HFR h50
        go_wp2_with fail
        refine bodyPost_ret (results_none rfl _ _ _) rfl ?_
        rw [e1.out]
        exact EX.out
  | false =>
    go_enter Try.func35, Try.ntmps35
    go_wp2_with fail
    refine (HT.out).mono ?_
    rintro e w1 ⟨rfl, hb1⟩
    have HB0 := hid hb1
    have h1 := HBT.out.below hb1
    have h2 := HBU.out.below hb1
    clear ct cu ft fu hb1 HT
    have ct := Lib.cell_of_heap h1 0
    have cu := Lib.cell_of_heap h2 0
    have ft : w1.frozen? ⟨bt, 0, none⟩ = false := Lib.frozen_of_heap h1 0
    have fu : w1.frozen? ⟨bl, 0, none⟩ = false := Lib.frozen_of_heap h2 0
    clear h1 h2
    cases U with
    | true =>
      have EX := hid (HFR.out w1 TW true HB0.out)
      clear HFR
      go_wp2_with fail
      refine bodyPost_ret (results_none rfl _ _ _) rfl ?_
      exact EX.out
    | false =>
      by_cases h50 : 50 < ks.length
      · have EX := hid (HFR.out w1 TW true HB0.out)
        have hz : (50 : Int) < (ks.length : Int) := by omega
        have e1 : Hid (decide (50 < ks.length) = true) := hid (decide_eq_true h50)
        clear HFR h50
        go_wp2_with fail
        refine bodyPost_ret (results_none rfl _ _ _) rfl ?_
        rw [e1.out]
        exact EX.out
      · have EX := hid (HFR.out w1 TW false HB0.out)
        have hz : ¬ (50 : Int) < (ks.length : Int) := by omega
        have hzd : decide ((50 : Int) < (ks.length : Int)) = false := by simpa using hz
        have e1 : Hid (decide (50 < ks.length) = false) := hid (decide_eq_false h50)
        clear HFR h50
        go_wp2_with fail
        refine bodyPost_ret (results_none rfl _ _ _) rfl ?_
        rw [e1.out]
        exact EX.out
end Go.Proofs.Ytkkigdbinnfbfaa
