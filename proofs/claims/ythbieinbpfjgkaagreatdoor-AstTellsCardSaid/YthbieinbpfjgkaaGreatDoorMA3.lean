/-
  The texts AsS, AsC, AsV, one behind the other. Conditions: those that each of them names.
-/
import Derived.Test.YthbieinbpfjgkaaGreatDoorMA2
import Derived.Test.YthbieinbpfjgkaaGreatDoorM2
section
/-
  The walk of isSound, a theorem a kind. Written by tools/assound.py.
-/
namespace Go.Proofs.YthbieinbpfjgkaaGreatDoor
open Go.RowKit

set_option linter.unusedVariables false

namespace E
/-- Is what a part holds beside its children sound? -/
def sound (p : Pt) : Bool :=
  if p.kind = 0 then litOK p
  else if p.kind = 1 then (nameOK p.name && only p (⟨0, ⟨#[]⟩, p.name, ⟨#[]⟩, 0, 0, [], []⟩ : Pt))
  else if p.kind = 2 then (nameB 97 122 p.bind && (plain p.t && only p (⟨0, ⟨#[]⟩, ⟨#[]⟩, p.bind, 0, 0, p.t, []⟩ : Pt)))
  else if p.kind = 3 then only p (⟨0, ⟨#[]⟩, ⟨#[]⟩, ⟨#[]⟩, 0, 0, [], []⟩ : Pt)
  else if p.kind = 4 then (nameB 97 122 p.bind && (plain p.t && only p (⟨0, ⟨#[]⟩, ⟨#[]⟩, p.bind, 0, 0, p.t, []⟩ : Pt)))
  else if p.kind = 5 then (nameB 97 122 p.name && (nameB 97 122 p.bind && (plain p.t && (plain p.u && only p (⟨0, ⟨#[]⟩, p.name, p.bind, 0, 0, p.t, p.u⟩ : Pt)))))
  else if p.kind = 6 then only p (⟨0, ⟨#[]⟩, ⟨#[]⟩, ⟨#[]⟩, 0, 0, [], []⟩ : Pt)
  else if p.kind = 7 then (decide (1 ≤ p.many) && (decide (p.many ≤ 50) && only p (⟨0, ⟨#[]⟩, ⟨#[]⟩, ⟨#[]⟩, p.many, 0, [], []⟩ : Pt)))
  else if p.kind = 8 then (nameB 97 122 p.bind && only p (⟨0, ⟨#[]⟩, ⟨#[]⟩, p.bind, 0, 0, [], []⟩ : Pt))
  else if p.kind = 9 then (oper p.name && only p (⟨0, ⟨#[]⟩, p.name, ⟨#[]⟩, 0, 0, [], []⟩ : Pt))
  else if p.kind = 10 then (decide (0 ≤ p.many) && (decide (p.many ≤ 50) && only p (⟨0, ⟨#[]⟩, ⟨#[]⟩, ⟨#[]⟩, p.many, 0, [], []⟩ : Pt)))
  else if p.kind = 11 then (nameB 97 122 p.name && only p (⟨0, ⟨#[]⟩, p.name, ⟨#[]⟩, 0, 0, [], []⟩ : Pt))
  else if p.kind = 12 then (nameB 65 90 p.name && (plain p.t && only p (⟨0, ⟨#[]⟩, p.name, ⟨#[]⟩, 0, 0, p.t, []⟩ : Pt)))
  else if p.kind = 13 then (plain p.t && only p (⟨0, ⟨#[]⟩, ⟨#[]⟩, ⟨#[]⟩, 0, 0, p.t, []⟩ : Pt))
  else if p.kind = 14 then (plain p.t && (plain p.u && (decide (0 ≤ p.num) && only p (⟨0, ⟨#[]⟩, ⟨#[]⟩, ⟨#[]⟩, 0, p.num, p.t, p.u⟩ : Pt))))
  else false
end E

set_option maxHeartbeats 8000000 in
set_option maxRecDepth 100000 in
theorem sound_0 (lb nm bd : ByteArray) (m n : Int) (t u : List L.Nd) (hnm : nm.size ≤ 2000000) (hbd : bd.size ≤ 2000000) (htn : ∀ x ∈ t, x.name.size ≤ 2000000) (hun : ∀ x ∈ u, x.name.size ≤ 2000000) (A1 A2 : Option Addr) (c1 c2 : Nat) (w : World) (hM : MCell w) (ht : Rd w w.heap.size (.slice A1 t.length c1) t) (hu : Rd w w.heap.size (.slice A2 u.length c2) u) :
    Calls Tryz.prog 30 #[.agg #[.int .i64 0, .string lb, .string nm, .string bd, .int .i64 m, .int .i64 n, .slice A1 t.length c1, .slice A2 u.length c2]] w fun e w' => e = .returned (.bool (E.litOK (⟨0, lb, nm, bd, m, n, t, u⟩ : E.Pt))) ∧ Below w.heap.size w w' := by
  have HBX := hid (below_new (w := w) (.cells #[.int .i64 0, .string lb, .string nm, .string bd, .int .i64 m, .int .i64 n, .slice A1 t.length c1, .slice A2 u.length c2] 39))
  have HM := hid (heap_alloc_new w (.cells #[.int .i64 0, .string lb, .string nm, .string bd, .int .i64 m, .int .i64 n, .slice A1 t.length c1, .slice A2 u.length c2] 39))
  have HL := hid (fun (w1 : World) (hb : Below w.heap.size w w1) => isLit_any (⟨0, lb, nm, bd, m, n, t, u⟩ : E.Pt) htn A1 A2 c1 c2 w1 ((ht.below hb).mono hb.size))
  unfold partV at *
  generalize E.litOK (⟨0, lb, nm, bd, m, n, t, u⟩ : E.Pt) = r at *
  clear ht hu hM htn hun hnm hbd
  go_enter Tryz.func30, Tryz.ntmps30
  go_wp2_with fail
  refine (HL.out _ HBX.out).mono ?_
  rintro e w1 ⟨rfl, h1⟩
  have HB1 := hid (HBX.out.trans (h1.mono HBX.out.size))
  have HM1 := hid ((h1.block _ (heap_lt HM.out)).trans HM.out)
  have k1 : ∀ j, w1.cell? ⟨w.heap.size, j, none⟩ = #[Value.int .i64 (0), .string lb, .string nm, .string bd, .int .i64 m, .int .i64 n, .slice A1 t.length c1, .slice A2 u.length c2][j]? := fun j => Lib.cell_of_heap HM1.out j
  have hk1 : w.heap.size < w1.heap.size := heap_lt HM1.out
  clear h1
  go_wp2
  go_ret
  exact ⟨ret_bool (by first | rfl | simp), HB1.out⟩

set_option maxHeartbeats 8000000 in
set_option maxRecDepth 100000 in
theorem sound_1 (lb nm bd : ByteArray) (m n : Int) (t u : List L.Nd) (hnm : nm.size ≤ 2000000) (hbd : bd.size ≤ 2000000) (htn : ∀ x ∈ t, x.name.size ≤ 2000000) (hun : ∀ x ∈ u, x.name.size ≤ 2000000) (A1 A2 : Option Addr) (c1 c2 : Nat) (w : World) (hM : MCell w) (ht : Rd w w.heap.size (.slice A1 t.length c1) t) (hu : Rd w w.heap.size (.slice A2 u.length c2) u) :
    Calls Tryz.prog 30 #[.agg #[.int .i64 1, .string lb, .string nm, .string bd, .int .i64 m, .int .i64 n, .slice A1 t.length c1, .slice A2 u.length c2]] w fun e w' => e = .returned (.bool (E.nameOK nm && E.only (⟨1, lb, nm, bd, m, n, t, u⟩ : E.Pt) (⟨0, ⟨#[]⟩, nm, ⟨#[]⟩, 0, 0, [], []⟩ : E.Pt))) ∧ Below w.heap.size w w' := by
  have HBX := hid (below_new (w := w) (.cells #[.int .i64 1, .string lb, .string nm, .string bd, .int .i64 m, .int .i64 n, .slice A1 t.length c1, .slice A2 u.length c2] 39))
  have HM := hid (heap_alloc_new w (.cells #[.int .i64 1, .string lb, .string nm, .string bd, .int .i64 m, .int .i64 n, .slice A1 t.length c1, .slice A2 u.length c2] 39))
  have HN := hid (fun (w1 : World) (hb : Below w.heap.size w w1) => isName_any nm hnm w1 (hM.grows hb))
  have HC := hid (fun (w1 : World) (_ : Below w.heap.size w w1) => hasOnly_any (⟨1, lb, nm, bd, m, n, t, u⟩ : E.Pt) (⟨0, ⟨#[]⟩, nm, ⟨#[]⟩, 0, 0, [], []⟩ : E.Pt) A1 A2 none none c1 c2 0 0 w1)
  unfold partV at *
  generalize E.only (⟨1, lb, nm, bd, m, n, t, u⟩ : E.Pt) (⟨0, ⟨#[]⟩, nm, ⟨#[]⟩, 0, 0, [], []⟩ : E.Pt) = r at *
  clear ht hu hM htn hun hnm hbd
  generalize E.nameOK nm = b_isname at *
  cases b_isname with
  | false =>
    rw [Bool.false_and]
    go_enter Tryz.func30, Tryz.ntmps30
    go_wp2_with fail
    refine (HN.out _ HBX.out).mono ?_
    rintro e w1 ⟨rfl, h1⟩
    have HB1 := hid (HBX.out.trans (h1.mono HBX.out.size))
    have HM1 := hid ((h1.block _ (heap_lt HM.out)).trans HM.out)
    have k1 : ∀ j, w1.cell? ⟨w.heap.size, j, none⟩ = #[Value.int .i64 (1), .string lb, .string nm, .string bd, .int .i64 m, .int .i64 n, .slice A1 t.length c1, .slice A2 u.length c2][j]? := fun j => Lib.cell_of_heap HM1.out j
    have hk1 : w.heap.size < w1.heap.size := heap_lt HM1.out
    clear h1
    go_wp2
    go_ret
    exact ⟨ret_bool (by first | rfl | simp), HB1.out⟩
  | true =>
    rw [Bool.true_and]
    go_enter Tryz.func30, Tryz.ntmps30
    go_wp2_with fail
    refine (HN.out _ HBX.out).mono ?_
    rintro e w1 ⟨rfl, h1⟩
    have HB1 := hid (HBX.out.trans (h1.mono HBX.out.size))
    have HM1 := hid ((h1.block _ (heap_lt HM.out)).trans HM.out)
    have k1 : ∀ j, w1.cell? ⟨w.heap.size, j, none⟩ = #[Value.int .i64 (1), .string lb, .string nm, .string bd, .int .i64 m, .int .i64 n, .slice A1 t.length c1, .slice A2 u.length c2][j]? := fun j => Lib.cell_of_heap HM1.out j
    have hk1 : w.heap.size < w1.heap.size := heap_lt HM1.out
    clear h1
    go_wp2_with fail
    refine (HC.out _ HB1.out).mono ?_
    rintro e w2 ⟨rfl, h2⟩
    have HB2 := hid (HB1.out.trans (h2.mono HB1.out.size))
    have HM2 := hid ((h2.block _ (heap_lt HM1.out)).trans HM1.out)
    have k2 : ∀ j, w2.cell? ⟨w.heap.size, j, none⟩ = #[Value.int .i64 (1), .string lb, .string nm, .string bd, .int .i64 m, .int .i64 n, .slice A1 t.length c1, .slice A2 u.length c2][j]? := fun j => Lib.cell_of_heap HM2.out j
    have hk2 : w.heap.size < w2.heap.size := heap_lt HM2.out
    clear h2
    go_wp2
    go_ret
    exact ⟨ret_bool (by first | rfl | simp), HB2.out⟩

set_option maxHeartbeats 8000000 in
set_option maxRecDepth 100000 in
theorem sound_2 (lb nm bd : ByteArray) (m n : Int) (t u : List L.Nd) (hnm : nm.size ≤ 2000000) (hbd : bd.size ≤ 2000000) (htn : ∀ x ∈ t, x.name.size ≤ 2000000) (hun : ∀ x ∈ u, x.name.size ≤ 2000000) (A1 A2 : Option Addr) (c1 c2 : Nat) (w : World) (hM : MCell w) (ht : Rd w w.heap.size (.slice A1 t.length c1) t) (hu : Rd w w.heap.size (.slice A2 u.length c2) u) :
    Calls Tryz.prog 30 #[.agg #[.int .i64 2, .string lb, .string nm, .string bd, .int .i64 m, .int .i64 n, .slice A1 t.length c1, .slice A2 u.length c2]] w fun e w' => e = .returned (.bool (nameB 97 122 bd && (E.plain t && E.only (⟨2, lb, nm, bd, m, n, t, u⟩ : E.Pt) (⟨0, ⟨#[]⟩, ⟨#[]⟩, bd, 0, 0, t, []⟩ : E.Pt)))) ∧ Below w.heap.size w w' := by
  have HBX := hid (below_new (w := w) (.cells #[.int .i64 2, .string lb, .string nm, .string bd, .int .i64 m, .int .i64 n, .slice A1 t.length c1, .slice A2 u.length c2] 39))
  have HM := hid (heap_alloc_new w (.cells #[.int .i64 2, .string lb, .string nm, .string bd, .int .i64 m, .int .i64 n, .slice A1 t.length c1, .slice A2 u.length c2] 39))
  have HWB := hid (fun (w1 : World) (_ : Below w.heap.size w w1) => isWord_any bd hbd w1)
  have HPT := hid (fun (w1 : World) (hb : Below w.heap.size w w1) => isPlain_any t htn (.slice A1 t.length c1) w1 ((ht.below hb).mono hb.size))
  have HC := hid (fun (w1 : World) (_ : Below w.heap.size w w1) => hasOnly_any (⟨2, lb, nm, bd, m, n, t, u⟩ : E.Pt) (⟨0, ⟨#[]⟩, ⟨#[]⟩, bd, 0, 0, t, []⟩ : E.Pt) A1 A2 A1 none c1 c2 c1 0 w1)
  unfold partV at *
  generalize E.only (⟨2, lb, nm, bd, m, n, t, u⟩ : E.Pt) (⟨0, ⟨#[]⟩, ⟨#[]⟩, bd, 0, 0, t, []⟩ : E.Pt) = r at *
  clear ht hu hM htn hun hnm hbd
  generalize nameB 97 122 bd = b_wordb at *
  cases b_wordb with
  | false =>
    rw [Bool.false_and]
    go_enter Tryz.func30, Tryz.ntmps30
    go_wp2_with fail
    refine (HWB.out _ HBX.out).mono ?_
    rintro e w1 ⟨rfl, h1⟩
    have HB1 := hid (HBX.out.trans (h1.mono HBX.out.size))
    have HM1 := hid ((h1.block _ (heap_lt HM.out)).trans HM.out)
    have k1 : ∀ j, w1.cell? ⟨w.heap.size, j, none⟩ = #[Value.int .i64 (2), .string lb, .string nm, .string bd, .int .i64 m, .int .i64 n, .slice A1 t.length c1, .slice A2 u.length c2][j]? := fun j => Lib.cell_of_heap HM1.out j
    have hk1 : w.heap.size < w1.heap.size := heap_lt HM1.out
    clear h1
    go_wp2
    go_ret
    exact ⟨ret_bool (by first | rfl | simp), HB1.out⟩
  | true =>
    rw [Bool.true_and]
    generalize E.plain t = b_plt at *
    cases b_plt with
    | false =>
      rw [Bool.false_and]
      go_enter Tryz.func30, Tryz.ntmps30
      go_wp2_with fail
      refine (HWB.out _ HBX.out).mono ?_
      rintro e w1 ⟨rfl, h1⟩
      have HB1 := hid (HBX.out.trans (h1.mono HBX.out.size))
      have HM1 := hid ((h1.block _ (heap_lt HM.out)).trans HM.out)
      have k1 : ∀ j, w1.cell? ⟨w.heap.size, j, none⟩ = #[Value.int .i64 (2), .string lb, .string nm, .string bd, .int .i64 m, .int .i64 n, .slice A1 t.length c1, .slice A2 u.length c2][j]? := fun j => Lib.cell_of_heap HM1.out j
      have hk1 : w.heap.size < w1.heap.size := heap_lt HM1.out
      clear h1
      go_wp2_with fail
      refine (HPT.out _ HB1.out).mono ?_
      rintro e w2 ⟨rfl, h2⟩
      have HB2 := hid (HB1.out.trans (h2.mono HB1.out.size))
      have HM2 := hid ((h2.block _ (heap_lt HM1.out)).trans HM1.out)
      have k2 : ∀ j, w2.cell? ⟨w.heap.size, j, none⟩ = #[Value.int .i64 (2), .string lb, .string nm, .string bd, .int .i64 m, .int .i64 n, .slice A1 t.length c1, .slice A2 u.length c2][j]? := fun j => Lib.cell_of_heap HM2.out j
      have hk2 : w.heap.size < w2.heap.size := heap_lt HM2.out
      clear h2
      go_wp2
      go_ret
      exact ⟨ret_bool (by first | rfl | simp), HB2.out⟩
    | true =>
      rw [Bool.true_and]
      go_enter Tryz.func30, Tryz.ntmps30
      go_wp2_with fail
      refine (HWB.out _ HBX.out).mono ?_
      rintro e w1 ⟨rfl, h1⟩
      have HB1 := hid (HBX.out.trans (h1.mono HBX.out.size))
      have HM1 := hid ((h1.block _ (heap_lt HM.out)).trans HM.out)
      have k1 : ∀ j, w1.cell? ⟨w.heap.size, j, none⟩ = #[Value.int .i64 (2), .string lb, .string nm, .string bd, .int .i64 m, .int .i64 n, .slice A1 t.length c1, .slice A2 u.length c2][j]? := fun j => Lib.cell_of_heap HM1.out j
      have hk1 : w.heap.size < w1.heap.size := heap_lt HM1.out
      clear h1
      go_wp2_with fail
      refine (HPT.out _ HB1.out).mono ?_
      rintro e w2 ⟨rfl, h2⟩
      have HB2 := hid (HB1.out.trans (h2.mono HB1.out.size))
      have HM2 := hid ((h2.block _ (heap_lt HM1.out)).trans HM1.out)
      have k2 : ∀ j, w2.cell? ⟨w.heap.size, j, none⟩ = #[Value.int .i64 (2), .string lb, .string nm, .string bd, .int .i64 m, .int .i64 n, .slice A1 t.length c1, .slice A2 u.length c2][j]? := fun j => Lib.cell_of_heap HM2.out j
      have hk2 : w.heap.size < w2.heap.size := heap_lt HM2.out
      clear h2
      go_wp2_with fail
      refine (HC.out _ HB2.out).mono ?_
      rintro e w3 ⟨rfl, h3⟩
      have HB3 := hid (HB2.out.trans (h3.mono HB2.out.size))
      have HM3 := hid ((h3.block _ (heap_lt HM2.out)).trans HM2.out)
      have k3 : ∀ j, w3.cell? ⟨w.heap.size, j, none⟩ = #[Value.int .i64 (2), .string lb, .string nm, .string bd, .int .i64 m, .int .i64 n, .slice A1 t.length c1, .slice A2 u.length c2][j]? := fun j => Lib.cell_of_heap HM3.out j
      have hk3 : w.heap.size < w3.heap.size := heap_lt HM3.out
      clear h3
      go_wp2
      go_ret
      exact ⟨ret_bool (by first | rfl | simp), HB3.out⟩

set_option maxHeartbeats 8000000 in
set_option maxRecDepth 100000 in
theorem sound_3 (lb nm bd : ByteArray) (m n : Int) (t u : List L.Nd) (hnm : nm.size ≤ 2000000) (hbd : bd.size ≤ 2000000) (htn : ∀ x ∈ t, x.name.size ≤ 2000000) (hun : ∀ x ∈ u, x.name.size ≤ 2000000) (A1 A2 : Option Addr) (c1 c2 : Nat) (w : World) (hM : MCell w) (ht : Rd w w.heap.size (.slice A1 t.length c1) t) (hu : Rd w w.heap.size (.slice A2 u.length c2) u) :
    Calls Tryz.prog 30 #[.agg #[.int .i64 3, .string lb, .string nm, .string bd, .int .i64 m, .int .i64 n, .slice A1 t.length c1, .slice A2 u.length c2]] w fun e w' => e = .returned (.bool (E.only (⟨3, lb, nm, bd, m, n, t, u⟩ : E.Pt) (⟨0, ⟨#[]⟩, ⟨#[]⟩, ⟨#[]⟩, 0, 0, [], []⟩ : E.Pt))) ∧ Below w.heap.size w w' := by
  have HBX := hid (below_new (w := w) (.cells #[.int .i64 3, .string lb, .string nm, .string bd, .int .i64 m, .int .i64 n, .slice A1 t.length c1, .slice A2 u.length c2] 39))
  have HM := hid (heap_alloc_new w (.cells #[.int .i64 3, .string lb, .string nm, .string bd, .int .i64 m, .int .i64 n, .slice A1 t.length c1, .slice A2 u.length c2] 39))
  have HC := hid (fun (w1 : World) (_ : Below w.heap.size w w1) => hasOnly_any (⟨3, lb, nm, bd, m, n, t, u⟩ : E.Pt) (⟨0, ⟨#[]⟩, ⟨#[]⟩, ⟨#[]⟩, 0, 0, [], []⟩ : E.Pt) A1 A2 none none c1 c2 0 0 w1)
  unfold partV at *
  generalize E.only (⟨3, lb, nm, bd, m, n, t, u⟩ : E.Pt) (⟨0, ⟨#[]⟩, ⟨#[]⟩, ⟨#[]⟩, 0, 0, [], []⟩ : E.Pt) = r at *
  clear ht hu hM htn hun hnm hbd
  go_enter Tryz.func30, Tryz.ntmps30
  go_wp2_with fail
  refine (HC.out _ HBX.out).mono ?_
  rintro e w1 ⟨rfl, h1⟩
  have HB1 := hid (HBX.out.trans (h1.mono HBX.out.size))
  have HM1 := hid ((h1.block _ (heap_lt HM.out)).trans HM.out)
  have k1 : ∀ j, w1.cell? ⟨w.heap.size, j, none⟩ = #[Value.int .i64 (3), .string lb, .string nm, .string bd, .int .i64 m, .int .i64 n, .slice A1 t.length c1, .slice A2 u.length c2][j]? := fun j => Lib.cell_of_heap HM1.out j
  have hk1 : w.heap.size < w1.heap.size := heap_lt HM1.out
  clear h1
  go_wp2
  go_ret
  exact ⟨ret_bool (by first | rfl | simp), HB1.out⟩

set_option maxHeartbeats 8000000 in
set_option maxRecDepth 100000 in
theorem sound_4 (lb nm bd : ByteArray) (m n : Int) (t u : List L.Nd) (hnm : nm.size ≤ 2000000) (hbd : bd.size ≤ 2000000) (htn : ∀ x ∈ t, x.name.size ≤ 2000000) (hun : ∀ x ∈ u, x.name.size ≤ 2000000) (A1 A2 : Option Addr) (c1 c2 : Nat) (w : World) (hM : MCell w) (ht : Rd w w.heap.size (.slice A1 t.length c1) t) (hu : Rd w w.heap.size (.slice A2 u.length c2) u) :
    Calls Tryz.prog 30 #[.agg #[.int .i64 4, .string lb, .string nm, .string bd, .int .i64 m, .int .i64 n, .slice A1 t.length c1, .slice A2 u.length c2]] w fun e w' => e = .returned (.bool (nameB 97 122 bd && (E.plain t && E.only (⟨4, lb, nm, bd, m, n, t, u⟩ : E.Pt) (⟨0, ⟨#[]⟩, ⟨#[]⟩, bd, 0, 0, t, []⟩ : E.Pt)))) ∧ Below w.heap.size w w' := by
  have HBX := hid (below_new (w := w) (.cells #[.int .i64 4, .string lb, .string nm, .string bd, .int .i64 m, .int .i64 n, .slice A1 t.length c1, .slice A2 u.length c2] 39))
  have HM := hid (heap_alloc_new w (.cells #[.int .i64 4, .string lb, .string nm, .string bd, .int .i64 m, .int .i64 n, .slice A1 t.length c1, .slice A2 u.length c2] 39))
  have HWB := hid (fun (w1 : World) (_ : Below w.heap.size w w1) => isWord_any bd hbd w1)
  have HPT := hid (fun (w1 : World) (hb : Below w.heap.size w w1) => isPlain_any t htn (.slice A1 t.length c1) w1 ((ht.below hb).mono hb.size))
  have HC := hid (fun (w1 : World) (_ : Below w.heap.size w w1) => hasOnly_any (⟨4, lb, nm, bd, m, n, t, u⟩ : E.Pt) (⟨0, ⟨#[]⟩, ⟨#[]⟩, bd, 0, 0, t, []⟩ : E.Pt) A1 A2 A1 none c1 c2 c1 0 w1)
  unfold partV at *
  generalize E.only (⟨4, lb, nm, bd, m, n, t, u⟩ : E.Pt) (⟨0, ⟨#[]⟩, ⟨#[]⟩, bd, 0, 0, t, []⟩ : E.Pt) = r at *
  clear ht hu hM htn hun hnm hbd
  generalize nameB 97 122 bd = b_wordb at *
  cases b_wordb with
  | false =>
    rw [Bool.false_and]
    go_enter Tryz.func30, Tryz.ntmps30
    go_wp2_with fail
    refine (HWB.out _ HBX.out).mono ?_
    rintro e w1 ⟨rfl, h1⟩
    have HB1 := hid (HBX.out.trans (h1.mono HBX.out.size))
    have HM1 := hid ((h1.block _ (heap_lt HM.out)).trans HM.out)
    have k1 : ∀ j, w1.cell? ⟨w.heap.size, j, none⟩ = #[Value.int .i64 (4), .string lb, .string nm, .string bd, .int .i64 m, .int .i64 n, .slice A1 t.length c1, .slice A2 u.length c2][j]? := fun j => Lib.cell_of_heap HM1.out j
    have hk1 : w.heap.size < w1.heap.size := heap_lt HM1.out
    clear h1
    go_wp2
    go_ret
    exact ⟨ret_bool (by first | rfl | simp), HB1.out⟩
  | true =>
    rw [Bool.true_and]
    generalize E.plain t = b_plt at *
    cases b_plt with
    | false =>
      rw [Bool.false_and]
      go_enter Tryz.func30, Tryz.ntmps30
      go_wp2_with fail
      refine (HWB.out _ HBX.out).mono ?_
      rintro e w1 ⟨rfl, h1⟩
      have HB1 := hid (HBX.out.trans (h1.mono HBX.out.size))
      have HM1 := hid ((h1.block _ (heap_lt HM.out)).trans HM.out)
      have k1 : ∀ j, w1.cell? ⟨w.heap.size, j, none⟩ = #[Value.int .i64 (4), .string lb, .string nm, .string bd, .int .i64 m, .int .i64 n, .slice A1 t.length c1, .slice A2 u.length c2][j]? := fun j => Lib.cell_of_heap HM1.out j
      have hk1 : w.heap.size < w1.heap.size := heap_lt HM1.out
      clear h1
      go_wp2_with fail
      refine (HPT.out _ HB1.out).mono ?_
      rintro e w2 ⟨rfl, h2⟩
      have HB2 := hid (HB1.out.trans (h2.mono HB1.out.size))
      have HM2 := hid ((h2.block _ (heap_lt HM1.out)).trans HM1.out)
      have k2 : ∀ j, w2.cell? ⟨w.heap.size, j, none⟩ = #[Value.int .i64 (4), .string lb, .string nm, .string bd, .int .i64 m, .int .i64 n, .slice A1 t.length c1, .slice A2 u.length c2][j]? := fun j => Lib.cell_of_heap HM2.out j
      have hk2 : w.heap.size < w2.heap.size := heap_lt HM2.out
      clear h2
      go_wp2
      go_ret
      exact ⟨ret_bool (by first | rfl | simp), HB2.out⟩
    | true =>
      rw [Bool.true_and]
      go_enter Tryz.func30, Tryz.ntmps30
      go_wp2_with fail
      refine (HWB.out _ HBX.out).mono ?_
      rintro e w1 ⟨rfl, h1⟩
      have HB1 := hid (HBX.out.trans (h1.mono HBX.out.size))
      have HM1 := hid ((h1.block _ (heap_lt HM.out)).trans HM.out)
      have k1 : ∀ j, w1.cell? ⟨w.heap.size, j, none⟩ = #[Value.int .i64 (4), .string lb, .string nm, .string bd, .int .i64 m, .int .i64 n, .slice A1 t.length c1, .slice A2 u.length c2][j]? := fun j => Lib.cell_of_heap HM1.out j
      have hk1 : w.heap.size < w1.heap.size := heap_lt HM1.out
      clear h1
      go_wp2_with fail
      refine (HPT.out _ HB1.out).mono ?_
      rintro e w2 ⟨rfl, h2⟩
      have HB2 := hid (HB1.out.trans (h2.mono HB1.out.size))
      have HM2 := hid ((h2.block _ (heap_lt HM1.out)).trans HM1.out)
      have k2 : ∀ j, w2.cell? ⟨w.heap.size, j, none⟩ = #[Value.int .i64 (4), .string lb, .string nm, .string bd, .int .i64 m, .int .i64 n, .slice A1 t.length c1, .slice A2 u.length c2][j]? := fun j => Lib.cell_of_heap HM2.out j
      have hk2 : w.heap.size < w2.heap.size := heap_lt HM2.out
      clear h2
      go_wp2_with fail
      refine (HC.out _ HB2.out).mono ?_
      rintro e w3 ⟨rfl, h3⟩
      have HB3 := hid (HB2.out.trans (h3.mono HB2.out.size))
      have HM3 := hid ((h3.block _ (heap_lt HM2.out)).trans HM2.out)
      have k3 : ∀ j, w3.cell? ⟨w.heap.size, j, none⟩ = #[Value.int .i64 (4), .string lb, .string nm, .string bd, .int .i64 m, .int .i64 n, .slice A1 t.length c1, .slice A2 u.length c2][j]? := fun j => Lib.cell_of_heap HM3.out j
      have hk3 : w.heap.size < w3.heap.size := heap_lt HM3.out
      clear h3
      go_wp2
      go_ret
      exact ⟨ret_bool (by first | rfl | simp), HB3.out⟩

set_option maxHeartbeats 8000000 in
set_option maxRecDepth 100000 in
theorem sound_5 (lb nm bd : ByteArray) (m n : Int) (t u : List L.Nd) (hnm : nm.size ≤ 2000000) (hbd : bd.size ≤ 2000000) (htn : ∀ x ∈ t, x.name.size ≤ 2000000) (hun : ∀ x ∈ u, x.name.size ≤ 2000000) (A1 A2 : Option Addr) (c1 c2 : Nat) (w : World) (hM : MCell w) (ht : Rd w w.heap.size (.slice A1 t.length c1) t) (hu : Rd w w.heap.size (.slice A2 u.length c2) u) :
    Calls Tryz.prog 30 #[.agg #[.int .i64 5, .string lb, .string nm, .string bd, .int .i64 m, .int .i64 n, .slice A1 t.length c1, .slice A2 u.length c2]] w fun e w' => e = .returned (.bool (nameB 97 122 nm && (nameB 97 122 bd && (E.plain t && (E.plain u && E.only (⟨5, lb, nm, bd, m, n, t, u⟩ : E.Pt) (⟨0, ⟨#[]⟩, nm, bd, 0, 0, t, u⟩ : E.Pt)))))) ∧ Below w.heap.size w w' := by
  have HBX := hid (below_new (w := w) (.cells #[.int .i64 5, .string lb, .string nm, .string bd, .int .i64 m, .int .i64 n, .slice A1 t.length c1, .slice A2 u.length c2] 39))
  have HM := hid (heap_alloc_new w (.cells #[.int .i64 5, .string lb, .string nm, .string bd, .int .i64 m, .int .i64 n, .slice A1 t.length c1, .slice A2 u.length c2] 39))
  have HWN := hid (fun (w1 : World) (_ : Below w.heap.size w w1) => isWord_any nm hnm w1)
  have HWB := hid (fun (w1 : World) (_ : Below w.heap.size w w1) => isWord_any bd hbd w1)
  have HPT := hid (fun (w1 : World) (hb : Below w.heap.size w w1) => isPlain_any t htn (.slice A1 t.length c1) w1 ((ht.below hb).mono hb.size))
  have HPU := hid (fun (w1 : World) (hb : Below w.heap.size w w1) => isPlain_any u hun (.slice A2 u.length c2) w1 ((hu.below hb).mono hb.size))
  have HC := hid (fun (w1 : World) (_ : Below w.heap.size w w1) => hasOnly_any (⟨5, lb, nm, bd, m, n, t, u⟩ : E.Pt) (⟨0, ⟨#[]⟩, nm, bd, 0, 0, t, u⟩ : E.Pt) A1 A2 A1 A2 c1 c2 c1 c2 w1)
  unfold partV at *
  generalize E.only (⟨5, lb, nm, bd, m, n, t, u⟩ : E.Pt) (⟨0, ⟨#[]⟩, nm, bd, 0, 0, t, u⟩ : E.Pt) = r at *
  clear ht hu hM htn hun hnm hbd
  generalize nameB 97 122 nm = b_wordn at *
  cases b_wordn with
  | false =>
    rw [Bool.false_and]
    go_enter Tryz.func30, Tryz.ntmps30
    go_wp2_with fail
    refine (HWN.out _ HBX.out).mono ?_
    rintro e w1 ⟨rfl, h1⟩
    have HB1 := hid (HBX.out.trans (h1.mono HBX.out.size))
    have HM1 := hid ((h1.block _ (heap_lt HM.out)).trans HM.out)
    have k1 : ∀ j, w1.cell? ⟨w.heap.size, j, none⟩ = #[Value.int .i64 (5), .string lb, .string nm, .string bd, .int .i64 m, .int .i64 n, .slice A1 t.length c1, .slice A2 u.length c2][j]? := fun j => Lib.cell_of_heap HM1.out j
    have hk1 : w.heap.size < w1.heap.size := heap_lt HM1.out
    clear h1
    go_wp2
    go_ret
    exact ⟨ret_bool (by first | rfl | simp), HB1.out⟩
  | true =>
    rw [Bool.true_and]
    generalize nameB 97 122 bd = b_wordb at *
    cases b_wordb with
    | false =>
      rw [Bool.false_and]
      go_enter Tryz.func30, Tryz.ntmps30
      go_wp2_with fail
      refine (HWN.out _ HBX.out).mono ?_
      rintro e w1 ⟨rfl, h1⟩
      have HB1 := hid (HBX.out.trans (h1.mono HBX.out.size))
      have HM1 := hid ((h1.block _ (heap_lt HM.out)).trans HM.out)
      have k1 : ∀ j, w1.cell? ⟨w.heap.size, j, none⟩ = #[Value.int .i64 (5), .string lb, .string nm, .string bd, .int .i64 m, .int .i64 n, .slice A1 t.length c1, .slice A2 u.length c2][j]? := fun j => Lib.cell_of_heap HM1.out j
      have hk1 : w.heap.size < w1.heap.size := heap_lt HM1.out
      clear h1
      go_wp2_with fail
      refine (HWB.out _ HB1.out).mono ?_
      rintro e w2 ⟨rfl, h2⟩
      have HB2 := hid (HB1.out.trans (h2.mono HB1.out.size))
      have HM2 := hid ((h2.block _ (heap_lt HM1.out)).trans HM1.out)
      have k2 : ∀ j, w2.cell? ⟨w.heap.size, j, none⟩ = #[Value.int .i64 (5), .string lb, .string nm, .string bd, .int .i64 m, .int .i64 n, .slice A1 t.length c1, .slice A2 u.length c2][j]? := fun j => Lib.cell_of_heap HM2.out j
      have hk2 : w.heap.size < w2.heap.size := heap_lt HM2.out
      clear h2
      go_wp2
      go_ret
      exact ⟨ret_bool (by first | rfl | simp), HB2.out⟩
    | true =>
      rw [Bool.true_and]
      generalize E.plain t = b_plt at *
      cases b_plt with
      | false =>
        rw [Bool.false_and]
        go_enter Tryz.func30, Tryz.ntmps30
        go_wp2_with fail
        refine (HWN.out _ HBX.out).mono ?_
        rintro e w1 ⟨rfl, h1⟩
        have HB1 := hid (HBX.out.trans (h1.mono HBX.out.size))
        have HM1 := hid ((h1.block _ (heap_lt HM.out)).trans HM.out)
        have k1 : ∀ j, w1.cell? ⟨w.heap.size, j, none⟩ = #[Value.int .i64 (5), .string lb, .string nm, .string bd, .int .i64 m, .int .i64 n, .slice A1 t.length c1, .slice A2 u.length c2][j]? := fun j => Lib.cell_of_heap HM1.out j
        have hk1 : w.heap.size < w1.heap.size := heap_lt HM1.out
        clear h1
        go_wp2_with fail
        refine (HWB.out _ HB1.out).mono ?_
        rintro e w2 ⟨rfl, h2⟩
        have HB2 := hid (HB1.out.trans (h2.mono HB1.out.size))
        have HM2 := hid ((h2.block _ (heap_lt HM1.out)).trans HM1.out)
        have k2 : ∀ j, w2.cell? ⟨w.heap.size, j, none⟩ = #[Value.int .i64 (5), .string lb, .string nm, .string bd, .int .i64 m, .int .i64 n, .slice A1 t.length c1, .slice A2 u.length c2][j]? := fun j => Lib.cell_of_heap HM2.out j
        have hk2 : w.heap.size < w2.heap.size := heap_lt HM2.out
        clear h2
        go_wp2_with fail
        refine (HPT.out _ HB2.out).mono ?_
        rintro e w3 ⟨rfl, h3⟩
        have HB3 := hid (HB2.out.trans (h3.mono HB2.out.size))
        have HM3 := hid ((h3.block _ (heap_lt HM2.out)).trans HM2.out)
        have k3 : ∀ j, w3.cell? ⟨w.heap.size, j, none⟩ = #[Value.int .i64 (5), .string lb, .string nm, .string bd, .int .i64 m, .int .i64 n, .slice A1 t.length c1, .slice A2 u.length c2][j]? := fun j => Lib.cell_of_heap HM3.out j
        have hk3 : w.heap.size < w3.heap.size := heap_lt HM3.out
        clear h3
        go_wp2
        go_ret
        exact ⟨ret_bool (by first | rfl | simp), HB3.out⟩
      | true =>
        rw [Bool.true_and]
        generalize E.plain u = b_plu at *
        cases b_plu with
        | false =>
          rw [Bool.false_and]
          go_enter Tryz.func30, Tryz.ntmps30
          go_wp2_with fail
          refine (HWN.out _ HBX.out).mono ?_
          rintro e w1 ⟨rfl, h1⟩
          have HB1 := hid (HBX.out.trans (h1.mono HBX.out.size))
          have HM1 := hid ((h1.block _ (heap_lt HM.out)).trans HM.out)
          have k1 : ∀ j, w1.cell? ⟨w.heap.size, j, none⟩ = #[Value.int .i64 (5), .string lb, .string nm, .string bd, .int .i64 m, .int .i64 n, .slice A1 t.length c1, .slice A2 u.length c2][j]? := fun j => Lib.cell_of_heap HM1.out j
          have hk1 : w.heap.size < w1.heap.size := heap_lt HM1.out
          clear h1
          go_wp2_with fail
          refine (HWB.out _ HB1.out).mono ?_
          rintro e w2 ⟨rfl, h2⟩
          have HB2 := hid (HB1.out.trans (h2.mono HB1.out.size))
          have HM2 := hid ((h2.block _ (heap_lt HM1.out)).trans HM1.out)
          have k2 : ∀ j, w2.cell? ⟨w.heap.size, j, none⟩ = #[Value.int .i64 (5), .string lb, .string nm, .string bd, .int .i64 m, .int .i64 n, .slice A1 t.length c1, .slice A2 u.length c2][j]? := fun j => Lib.cell_of_heap HM2.out j
          have hk2 : w.heap.size < w2.heap.size := heap_lt HM2.out
          clear h2
          go_wp2_with fail
          refine (HPT.out _ HB2.out).mono ?_
          rintro e w3 ⟨rfl, h3⟩
          have HB3 := hid (HB2.out.trans (h3.mono HB2.out.size))
          have HM3 := hid ((h3.block _ (heap_lt HM2.out)).trans HM2.out)
          have k3 : ∀ j, w3.cell? ⟨w.heap.size, j, none⟩ = #[Value.int .i64 (5), .string lb, .string nm, .string bd, .int .i64 m, .int .i64 n, .slice A1 t.length c1, .slice A2 u.length c2][j]? := fun j => Lib.cell_of_heap HM3.out j
          have hk3 : w.heap.size < w3.heap.size := heap_lt HM3.out
          clear h3
          go_wp2_with fail
          refine (HPU.out _ HB3.out).mono ?_
          rintro e w4 ⟨rfl, h4⟩
          have HB4 := hid (HB3.out.trans (h4.mono HB3.out.size))
          have HM4 := hid ((h4.block _ (heap_lt HM3.out)).trans HM3.out)
          have k4 : ∀ j, w4.cell? ⟨w.heap.size, j, none⟩ = #[Value.int .i64 (5), .string lb, .string nm, .string bd, .int .i64 m, .int .i64 n, .slice A1 t.length c1, .slice A2 u.length c2][j]? := fun j => Lib.cell_of_heap HM4.out j
          have hk4 : w.heap.size < w4.heap.size := heap_lt HM4.out
          clear h4
          go_wp2
          go_ret
          exact ⟨ret_bool (by first | rfl | simp), HB4.out⟩
        | true =>
          rw [Bool.true_and]
          go_enter Tryz.func30, Tryz.ntmps30
          go_wp2_with fail
          refine (HWN.out _ HBX.out).mono ?_
          rintro e w1 ⟨rfl, h1⟩
          have HB1 := hid (HBX.out.trans (h1.mono HBX.out.size))
          have HM1 := hid ((h1.block _ (heap_lt HM.out)).trans HM.out)
          have k1 : ∀ j, w1.cell? ⟨w.heap.size, j, none⟩ = #[Value.int .i64 (5), .string lb, .string nm, .string bd, .int .i64 m, .int .i64 n, .slice A1 t.length c1, .slice A2 u.length c2][j]? := fun j => Lib.cell_of_heap HM1.out j
          have hk1 : w.heap.size < w1.heap.size := heap_lt HM1.out
          clear h1
          go_wp2_with fail
          refine (HWB.out _ HB1.out).mono ?_
          rintro e w2 ⟨rfl, h2⟩
          have HB2 := hid (HB1.out.trans (h2.mono HB1.out.size))
          have HM2 := hid ((h2.block _ (heap_lt HM1.out)).trans HM1.out)
          have k2 : ∀ j, w2.cell? ⟨w.heap.size, j, none⟩ = #[Value.int .i64 (5), .string lb, .string nm, .string bd, .int .i64 m, .int .i64 n, .slice A1 t.length c1, .slice A2 u.length c2][j]? := fun j => Lib.cell_of_heap HM2.out j
          have hk2 : w.heap.size < w2.heap.size := heap_lt HM2.out
          clear h2
          go_wp2_with fail
          refine (HPT.out _ HB2.out).mono ?_
          rintro e w3 ⟨rfl, h3⟩
          have HB3 := hid (HB2.out.trans (h3.mono HB2.out.size))
          have HM3 := hid ((h3.block _ (heap_lt HM2.out)).trans HM2.out)
          have k3 : ∀ j, w3.cell? ⟨w.heap.size, j, none⟩ = #[Value.int .i64 (5), .string lb, .string nm, .string bd, .int .i64 m, .int .i64 n, .slice A1 t.length c1, .slice A2 u.length c2][j]? := fun j => Lib.cell_of_heap HM3.out j
          have hk3 : w.heap.size < w3.heap.size := heap_lt HM3.out
          clear h3
          go_wp2_with fail
          refine (HPU.out _ HB3.out).mono ?_
          rintro e w4 ⟨rfl, h4⟩
          have HB4 := hid (HB3.out.trans (h4.mono HB3.out.size))
          have HM4 := hid ((h4.block _ (heap_lt HM3.out)).trans HM3.out)
          have k4 : ∀ j, w4.cell? ⟨w.heap.size, j, none⟩ = #[Value.int .i64 (5), .string lb, .string nm, .string bd, .int .i64 m, .int .i64 n, .slice A1 t.length c1, .slice A2 u.length c2][j]? := fun j => Lib.cell_of_heap HM4.out j
          have hk4 : w.heap.size < w4.heap.size := heap_lt HM4.out
          clear h4
          go_wp2_with fail
          refine (HC.out _ HB4.out).mono ?_
          rintro e w5 ⟨rfl, h5⟩
          have HB5 := hid (HB4.out.trans (h5.mono HB4.out.size))
          have HM5 := hid ((h5.block _ (heap_lt HM4.out)).trans HM4.out)
          have k5 : ∀ j, w5.cell? ⟨w.heap.size, j, none⟩ = #[Value.int .i64 (5), .string lb, .string nm, .string bd, .int .i64 m, .int .i64 n, .slice A1 t.length c1, .slice A2 u.length c2][j]? := fun j => Lib.cell_of_heap HM5.out j
          have hk5 : w.heap.size < w5.heap.size := heap_lt HM5.out
          clear h5
          go_wp2
          go_ret
          exact ⟨ret_bool (by first | rfl | simp), HB5.out⟩

set_option maxHeartbeats 8000000 in
set_option maxRecDepth 100000 in
theorem sound_6 (lb nm bd : ByteArray) (m n : Int) (t u : List L.Nd) (hnm : nm.size ≤ 2000000) (hbd : bd.size ≤ 2000000) (htn : ∀ x ∈ t, x.name.size ≤ 2000000) (hun : ∀ x ∈ u, x.name.size ≤ 2000000) (A1 A2 : Option Addr) (c1 c2 : Nat) (w : World) (hM : MCell w) (ht : Rd w w.heap.size (.slice A1 t.length c1) t) (hu : Rd w w.heap.size (.slice A2 u.length c2) u) :
    Calls Tryz.prog 30 #[.agg #[.int .i64 6, .string lb, .string nm, .string bd, .int .i64 m, .int .i64 n, .slice A1 t.length c1, .slice A2 u.length c2]] w fun e w' => e = .returned (.bool (E.only (⟨6, lb, nm, bd, m, n, t, u⟩ : E.Pt) (⟨0, ⟨#[]⟩, ⟨#[]⟩, ⟨#[]⟩, 0, 0, [], []⟩ : E.Pt))) ∧ Below w.heap.size w w' := by
  have HBX := hid (below_new (w := w) (.cells #[.int .i64 6, .string lb, .string nm, .string bd, .int .i64 m, .int .i64 n, .slice A1 t.length c1, .slice A2 u.length c2] 39))
  have HM := hid (heap_alloc_new w (.cells #[.int .i64 6, .string lb, .string nm, .string bd, .int .i64 m, .int .i64 n, .slice A1 t.length c1, .slice A2 u.length c2] 39))
  have HC := hid (fun (w1 : World) (_ : Below w.heap.size w w1) => hasOnly_any (⟨6, lb, nm, bd, m, n, t, u⟩ : E.Pt) (⟨0, ⟨#[]⟩, ⟨#[]⟩, ⟨#[]⟩, 0, 0, [], []⟩ : E.Pt) A1 A2 none none c1 c2 0 0 w1)
  unfold partV at *
  generalize E.only (⟨6, lb, nm, bd, m, n, t, u⟩ : E.Pt) (⟨0, ⟨#[]⟩, ⟨#[]⟩, ⟨#[]⟩, 0, 0, [], []⟩ : E.Pt) = r at *
  clear ht hu hM htn hun hnm hbd
  go_enter Tryz.func30, Tryz.ntmps30
  go_wp2_with fail
  refine (HC.out _ HBX.out).mono ?_
  rintro e w1 ⟨rfl, h1⟩
  have HB1 := hid (HBX.out.trans (h1.mono HBX.out.size))
  have HM1 := hid ((h1.block _ (heap_lt HM.out)).trans HM.out)
  have k1 : ∀ j, w1.cell? ⟨w.heap.size, j, none⟩ = #[Value.int .i64 (6), .string lb, .string nm, .string bd, .int .i64 m, .int .i64 n, .slice A1 t.length c1, .slice A2 u.length c2][j]? := fun j => Lib.cell_of_heap HM1.out j
  have hk1 : w.heap.size < w1.heap.size := heap_lt HM1.out
  clear h1
  go_wp2
  go_ret
  exact ⟨ret_bool (by first | rfl | simp), HB1.out⟩

set_option maxHeartbeats 8000000 in
set_option maxRecDepth 100000 in
theorem sound_7 (lb nm bd : ByteArray) (m n : Int) (t u : List L.Nd) (hnm : nm.size ≤ 2000000) (hbd : bd.size ≤ 2000000) (htn : ∀ x ∈ t, x.name.size ≤ 2000000) (hun : ∀ x ∈ u, x.name.size ≤ 2000000) (A1 A2 : Option Addr) (c1 c2 : Nat) (w : World) (hM : MCell w) (ht : Rd w w.heap.size (.slice A1 t.length c1) t) (hu : Rd w w.heap.size (.slice A2 u.length c2) u) :
    Calls Tryz.prog 30 #[.agg #[.int .i64 7, .string lb, .string nm, .string bd, .int .i64 m, .int .i64 n, .slice A1 t.length c1, .slice A2 u.length c2]] w fun e w' => e = .returned (.bool (decide (1 ≤ m) && (decide (m ≤ 50) && E.only (⟨7, lb, nm, bd, m, n, t, u⟩ : E.Pt) (⟨0, ⟨#[]⟩, ⟨#[]⟩, ⟨#[]⟩, m, 0, [], []⟩ : E.Pt)))) ∧ Below w.heap.size w w' := by
  have HBX := hid (below_new (w := w) (.cells #[.int .i64 7, .string lb, .string nm, .string bd, .int .i64 m, .int .i64 n, .slice A1 t.length c1, .slice A2 u.length c2] 39))
  have HM := hid (heap_alloc_new w (.cells #[.int .i64 7, .string lb, .string nm, .string bd, .int .i64 m, .int .i64 n, .slice A1 t.length c1, .slice A2 u.length c2] 39))
  have HC := hid (fun (w1 : World) (_ : Below w.heap.size w w1) => hasOnly_any (⟨7, lb, nm, bd, m, n, t, u⟩ : E.Pt) (⟨0, ⟨#[]⟩, ⟨#[]⟩, ⟨#[]⟩, m, 0, [], []⟩ : E.Pt) A1 A2 none none c1 c2 0 0 w1)
  unfold partV at *
  generalize E.only (⟨7, lb, nm, bd, m, n, t, u⟩ : E.Pt) (⟨0, ⟨#[]⟩, ⟨#[]⟩, ⟨#[]⟩, m, 0, [], []⟩ : E.Pt) = r at *
  clear ht hu hM htn hun hnm hbd
  by_cases g_m1 : 1 ≤ m
  case neg =>
    rw [decide_eq_false g_m1, Bool.false_and]
    go_enter Tryz.func30, Tryz.ntmps30
    go_wp2
    go_ret
    exact ⟨ret_bool (by first | rfl | simp), HBX.out⟩
  rw [decide_eq_true g_m1, Bool.true_and]
  by_cases g_m50 : m ≤ 50
  case neg =>
    rw [decide_eq_false g_m50, Bool.false_and]
    go_enter Tryz.func30, Tryz.ntmps30
    go_wp2
    go_ret
    exact ⟨ret_bool (by first | rfl | simp), HBX.out⟩
  rw [decide_eq_true g_m50, Bool.true_and]
  go_enter Tryz.func30, Tryz.ntmps30
  go_wp2_with fail
  refine (HC.out _ HBX.out).mono ?_
  rintro e w1 ⟨rfl, h1⟩
  have HB1 := hid (HBX.out.trans (h1.mono HBX.out.size))
  have HM1 := hid ((h1.block _ (heap_lt HM.out)).trans HM.out)
  have k1 : ∀ j, w1.cell? ⟨w.heap.size, j, none⟩ = #[Value.int .i64 (7), .string lb, .string nm, .string bd, .int .i64 m, .int .i64 n, .slice A1 t.length c1, .slice A2 u.length c2][j]? := fun j => Lib.cell_of_heap HM1.out j
  have hk1 : w.heap.size < w1.heap.size := heap_lt HM1.out
  clear h1
  go_wp2
  go_ret
  exact ⟨ret_bool (by first | rfl | simp), HB1.out⟩

set_option maxHeartbeats 8000000 in
set_option maxRecDepth 100000 in
theorem sound_8 (lb nm bd : ByteArray) (m n : Int) (t u : List L.Nd) (hnm : nm.size ≤ 2000000) (hbd : bd.size ≤ 2000000) (htn : ∀ x ∈ t, x.name.size ≤ 2000000) (hun : ∀ x ∈ u, x.name.size ≤ 2000000) (A1 A2 : Option Addr) (c1 c2 : Nat) (w : World) (hM : MCell w) (ht : Rd w w.heap.size (.slice A1 t.length c1) t) (hu : Rd w w.heap.size (.slice A2 u.length c2) u) :
    Calls Tryz.prog 30 #[.agg #[.int .i64 8, .string lb, .string nm, .string bd, .int .i64 m, .int .i64 n, .slice A1 t.length c1, .slice A2 u.length c2]] w fun e w' => e = .returned (.bool (nameB 97 122 bd && E.only (⟨8, lb, nm, bd, m, n, t, u⟩ : E.Pt) (⟨0, ⟨#[]⟩, ⟨#[]⟩, bd, 0, 0, [], []⟩ : E.Pt))) ∧ Below w.heap.size w w' := by
  have HBX := hid (below_new (w := w) (.cells #[.int .i64 8, .string lb, .string nm, .string bd, .int .i64 m, .int .i64 n, .slice A1 t.length c1, .slice A2 u.length c2] 39))
  have HM := hid (heap_alloc_new w (.cells #[.int .i64 8, .string lb, .string nm, .string bd, .int .i64 m, .int .i64 n, .slice A1 t.length c1, .slice A2 u.length c2] 39))
  have HWB := hid (fun (w1 : World) (_ : Below w.heap.size w w1) => isWord_any bd hbd w1)
  have HC := hid (fun (w1 : World) (_ : Below w.heap.size w w1) => hasOnly_any (⟨8, lb, nm, bd, m, n, t, u⟩ : E.Pt) (⟨0, ⟨#[]⟩, ⟨#[]⟩, bd, 0, 0, [], []⟩ : E.Pt) A1 A2 none none c1 c2 0 0 w1)
  unfold partV at *
  generalize E.only (⟨8, lb, nm, bd, m, n, t, u⟩ : E.Pt) (⟨0, ⟨#[]⟩, ⟨#[]⟩, bd, 0, 0, [], []⟩ : E.Pt) = r at *
  clear ht hu hM htn hun hnm hbd
  generalize nameB 97 122 bd = b_wordb at *
  cases b_wordb with
  | false =>
    rw [Bool.false_and]
    go_enter Tryz.func30, Tryz.ntmps30
    go_wp2_with fail
    refine (HWB.out _ HBX.out).mono ?_
    rintro e w1 ⟨rfl, h1⟩
    have HB1 := hid (HBX.out.trans (h1.mono HBX.out.size))
    have HM1 := hid ((h1.block _ (heap_lt HM.out)).trans HM.out)
    have k1 : ∀ j, w1.cell? ⟨w.heap.size, j, none⟩ = #[Value.int .i64 (8), .string lb, .string nm, .string bd, .int .i64 m, .int .i64 n, .slice A1 t.length c1, .slice A2 u.length c2][j]? := fun j => Lib.cell_of_heap HM1.out j
    have hk1 : w.heap.size < w1.heap.size := heap_lt HM1.out
    clear h1
    go_wp2
    go_ret
    exact ⟨ret_bool (by first | rfl | simp), HB1.out⟩
  | true =>
    rw [Bool.true_and]
    go_enter Tryz.func30, Tryz.ntmps30
    go_wp2_with fail
    refine (HWB.out _ HBX.out).mono ?_
    rintro e w1 ⟨rfl, h1⟩
    have HB1 := hid (HBX.out.trans (h1.mono HBX.out.size))
    have HM1 := hid ((h1.block _ (heap_lt HM.out)).trans HM.out)
    have k1 : ∀ j, w1.cell? ⟨w.heap.size, j, none⟩ = #[Value.int .i64 (8), .string lb, .string nm, .string bd, .int .i64 m, .int .i64 n, .slice A1 t.length c1, .slice A2 u.length c2][j]? := fun j => Lib.cell_of_heap HM1.out j
    have hk1 : w.heap.size < w1.heap.size := heap_lt HM1.out
    clear h1
    go_wp2_with fail
    refine (HC.out _ HB1.out).mono ?_
    rintro e w2 ⟨rfl, h2⟩
    have HB2 := hid (HB1.out.trans (h2.mono HB1.out.size))
    have HM2 := hid ((h2.block _ (heap_lt HM1.out)).trans HM1.out)
    have k2 : ∀ j, w2.cell? ⟨w.heap.size, j, none⟩ = #[Value.int .i64 (8), .string lb, .string nm, .string bd, .int .i64 m, .int .i64 n, .slice A1 t.length c1, .slice A2 u.length c2][j]? := fun j => Lib.cell_of_heap HM2.out j
    have hk2 : w.heap.size < w2.heap.size := heap_lt HM2.out
    clear h2
    go_wp2
    go_ret
    exact ⟨ret_bool (by first | rfl | simp), HB2.out⟩

set_option maxHeartbeats 8000000 in
set_option maxRecDepth 100000 in
theorem sound_9 (lb nm bd : ByteArray) (m n : Int) (t u : List L.Nd) (hnm : nm.size ≤ 2000000) (hbd : bd.size ≤ 2000000) (htn : ∀ x ∈ t, x.name.size ≤ 2000000) (hun : ∀ x ∈ u, x.name.size ≤ 2000000) (A1 A2 : Option Addr) (c1 c2 : Nat) (w : World) (hM : MCell w) (ht : Rd w w.heap.size (.slice A1 t.length c1) t) (hu : Rd w w.heap.size (.slice A2 u.length c2) u) :
    Calls Tryz.prog 30 #[.agg #[.int .i64 9, .string lb, .string nm, .string bd, .int .i64 m, .int .i64 n, .slice A1 t.length c1, .slice A2 u.length c2]] w fun e w' => e = .returned (.bool (E.oper nm && E.only (⟨9, lb, nm, bd, m, n, t, u⟩ : E.Pt) (⟨0, ⟨#[]⟩, nm, ⟨#[]⟩, 0, 0, [], []⟩ : E.Pt))) ∧ Below w.heap.size w w' := by
  have HBX := hid (below_new (w := w) (.cells #[.int .i64 9, .string lb, .string nm, .string bd, .int .i64 m, .int .i64 n, .slice A1 t.length c1, .slice A2 u.length c2] 39))
  have HM := hid (heap_alloc_new w (.cells #[.int .i64 9, .string lb, .string nm, .string bd, .int .i64 m, .int .i64 n, .slice A1 t.length c1, .slice A2 u.length c2] 39))
  have HOP := hid (fun (w1 : World) => isOperator_any nm w1)
  have HC := hid (fun (w1 : World) (_ : Below w.heap.size w w1) => hasOnly_any (⟨9, lb, nm, bd, m, n, t, u⟩ : E.Pt) (⟨0, ⟨#[]⟩, nm, ⟨#[]⟩, 0, 0, [], []⟩ : E.Pt) A1 A2 none none c1 c2 0 0 w1)
  unfold partV at *
  generalize E.only (⟨9, lb, nm, bd, m, n, t, u⟩ : E.Pt) (⟨0, ⟨#[]⟩, nm, ⟨#[]⟩, 0, 0, [], []⟩ : E.Pt) = r at *
  clear ht hu hM htn hun hnm hbd
  generalize E.oper nm = b_oper at *
  cases b_oper with
  | false =>
    rw [Bool.false_and]
    go_enter Tryz.func30, Tryz.ntmps30
    go_wp2_with fail
    refine (HOP.out _).mono ?_
    rintro e w1 ⟨rfl, rfl⟩
    go_wp2
    go_ret
    exact ⟨ret_bool (by first | rfl | simp), HBX.out⟩
  | true =>
    rw [Bool.true_and]
    go_enter Tryz.func30, Tryz.ntmps30
    go_wp2_with fail
    refine (HOP.out _).mono ?_
    rintro e w1 ⟨rfl, rfl⟩
    go_wp2_with fail
    refine (HC.out _ HBX.out).mono ?_
    rintro e w2 ⟨rfl, h2⟩
    have HB2 := hid (HBX.out.trans (h2.mono HBX.out.size))
    have HM2 := hid ((h2.block _ (heap_lt HM.out)).trans HM.out)
    have k2 : ∀ j, w2.cell? ⟨w.heap.size, j, none⟩ = #[Value.int .i64 (9), .string lb, .string nm, .string bd, .int .i64 m, .int .i64 n, .slice A1 t.length c1, .slice A2 u.length c2][j]? := fun j => Lib.cell_of_heap HM2.out j
    have hk2 : w.heap.size < w2.heap.size := heap_lt HM2.out
    clear h2
    go_wp2
    go_ret
    exact ⟨ret_bool (by first | rfl | simp), HB2.out⟩

set_option maxHeartbeats 8000000 in
set_option maxRecDepth 100000 in
theorem sound_10 (lb nm bd : ByteArray) (m n : Int) (t u : List L.Nd) (hnm : nm.size ≤ 2000000) (hbd : bd.size ≤ 2000000) (htn : ∀ x ∈ t, x.name.size ≤ 2000000) (hun : ∀ x ∈ u, x.name.size ≤ 2000000) (A1 A2 : Option Addr) (c1 c2 : Nat) (w : World) (hM : MCell w) (ht : Rd w w.heap.size (.slice A1 t.length c1) t) (hu : Rd w w.heap.size (.slice A2 u.length c2) u) :
    Calls Tryz.prog 30 #[.agg #[.int .i64 10, .string lb, .string nm, .string bd, .int .i64 m, .int .i64 n, .slice A1 t.length c1, .slice A2 u.length c2]] w fun e w' => e = .returned (.bool (decide (0 ≤ m) && (decide (m ≤ 50) && E.only (⟨10, lb, nm, bd, m, n, t, u⟩ : E.Pt) (⟨0, ⟨#[]⟩, ⟨#[]⟩, ⟨#[]⟩, m, 0, [], []⟩ : E.Pt)))) ∧ Below w.heap.size w w' := by
  have HBX := hid (below_new (w := w) (.cells #[.int .i64 10, .string lb, .string nm, .string bd, .int .i64 m, .int .i64 n, .slice A1 t.length c1, .slice A2 u.length c2] 39))
  have HM := hid (heap_alloc_new w (.cells #[.int .i64 10, .string lb, .string nm, .string bd, .int .i64 m, .int .i64 n, .slice A1 t.length c1, .slice A2 u.length c2] 39))
  have HC := hid (fun (w1 : World) (_ : Below w.heap.size w w1) => hasOnly_any (⟨10, lb, nm, bd, m, n, t, u⟩ : E.Pt) (⟨0, ⟨#[]⟩, ⟨#[]⟩, ⟨#[]⟩, m, 0, [], []⟩ : E.Pt) A1 A2 none none c1 c2 0 0 w1)
  unfold partV at *
  generalize E.only (⟨10, lb, nm, bd, m, n, t, u⟩ : E.Pt) (⟨0, ⟨#[]⟩, ⟨#[]⟩, ⟨#[]⟩, m, 0, [], []⟩ : E.Pt) = r at *
  clear ht hu hM htn hun hnm hbd
  by_cases g_m0 : 0 ≤ m
  case neg =>
    rw [decide_eq_false g_m0, Bool.false_and]
    go_enter Tryz.func30, Tryz.ntmps30
    go_wp2
    go_ret
    exact ⟨ret_bool (by first | rfl | simp), HBX.out⟩
  rw [decide_eq_true g_m0, Bool.true_and]
  by_cases g_m50 : m ≤ 50
  case neg =>
    rw [decide_eq_false g_m50, Bool.false_and]
    go_enter Tryz.func30, Tryz.ntmps30
    go_wp2
    go_ret
    exact ⟨ret_bool (by first | rfl | simp), HBX.out⟩
  rw [decide_eq_true g_m50, Bool.true_and]
  go_enter Tryz.func30, Tryz.ntmps30
  go_wp2_with fail
  refine (HC.out _ HBX.out).mono ?_
  rintro e w1 ⟨rfl, h1⟩
  have HB1 := hid (HBX.out.trans (h1.mono HBX.out.size))
  have HM1 := hid ((h1.block _ (heap_lt HM.out)).trans HM.out)
  have k1 : ∀ j, w1.cell? ⟨w.heap.size, j, none⟩ = #[Value.int .i64 (10), .string lb, .string nm, .string bd, .int .i64 m, .int .i64 n, .slice A1 t.length c1, .slice A2 u.length c2][j]? := fun j => Lib.cell_of_heap HM1.out j
  have hk1 : w.heap.size < w1.heap.size := heap_lt HM1.out
  clear h1
  go_wp2
  go_ret
  exact ⟨ret_bool (by first | rfl | simp), HB1.out⟩

set_option maxHeartbeats 8000000 in
set_option maxRecDepth 100000 in
theorem sound_11 (lb nm bd : ByteArray) (m n : Int) (t u : List L.Nd) (hnm : nm.size ≤ 2000000) (hbd : bd.size ≤ 2000000) (htn : ∀ x ∈ t, x.name.size ≤ 2000000) (hun : ∀ x ∈ u, x.name.size ≤ 2000000) (A1 A2 : Option Addr) (c1 c2 : Nat) (w : World) (hM : MCell w) (ht : Rd w w.heap.size (.slice A1 t.length c1) t) (hu : Rd w w.heap.size (.slice A2 u.length c2) u) :
    Calls Tryz.prog 30 #[.agg #[.int .i64 11, .string lb, .string nm, .string bd, .int .i64 m, .int .i64 n, .slice A1 t.length c1, .slice A2 u.length c2]] w fun e w' => e = .returned (.bool (nameB 97 122 nm && E.only (⟨11, lb, nm, bd, m, n, t, u⟩ : E.Pt) (⟨0, ⟨#[]⟩, nm, ⟨#[]⟩, 0, 0, [], []⟩ : E.Pt))) ∧ Below w.heap.size w w' := by
  have HBX := hid (below_new (w := w) (.cells #[.int .i64 11, .string lb, .string nm, .string bd, .int .i64 m, .int .i64 n, .slice A1 t.length c1, .slice A2 u.length c2] 39))
  have HM := hid (heap_alloc_new w (.cells #[.int .i64 11, .string lb, .string nm, .string bd, .int .i64 m, .int .i64 n, .slice A1 t.length c1, .slice A2 u.length c2] 39))
  have HWN := hid (fun (w1 : World) (_ : Below w.heap.size w w1) => isWord_any nm hnm w1)
  have HC := hid (fun (w1 : World) (_ : Below w.heap.size w w1) => hasOnly_any (⟨11, lb, nm, bd, m, n, t, u⟩ : E.Pt) (⟨0, ⟨#[]⟩, nm, ⟨#[]⟩, 0, 0, [], []⟩ : E.Pt) A1 A2 none none c1 c2 0 0 w1)
  unfold partV at *
  generalize E.only (⟨11, lb, nm, bd, m, n, t, u⟩ : E.Pt) (⟨0, ⟨#[]⟩, nm, ⟨#[]⟩, 0, 0, [], []⟩ : E.Pt) = r at *
  clear ht hu hM htn hun hnm hbd
  generalize nameB 97 122 nm = b_wordn at *
  cases b_wordn with
  | false =>
    rw [Bool.false_and]
    go_enter Tryz.func30, Tryz.ntmps30
    go_wp2_with fail
    refine (HWN.out _ HBX.out).mono ?_
    rintro e w1 ⟨rfl, h1⟩
    have HB1 := hid (HBX.out.trans (h1.mono HBX.out.size))
    have HM1 := hid ((h1.block _ (heap_lt HM.out)).trans HM.out)
    have k1 : ∀ j, w1.cell? ⟨w.heap.size, j, none⟩ = #[Value.int .i64 (11), .string lb, .string nm, .string bd, .int .i64 m, .int .i64 n, .slice A1 t.length c1, .slice A2 u.length c2][j]? := fun j => Lib.cell_of_heap HM1.out j
    have hk1 : w.heap.size < w1.heap.size := heap_lt HM1.out
    clear h1
    go_wp2
    go_ret
    exact ⟨ret_bool (by first | rfl | simp), HB1.out⟩
  | true =>
    rw [Bool.true_and]
    go_enter Tryz.func30, Tryz.ntmps30
    go_wp2_with fail
    refine (HWN.out _ HBX.out).mono ?_
    rintro e w1 ⟨rfl, h1⟩
    have HB1 := hid (HBX.out.trans (h1.mono HBX.out.size))
    have HM1 := hid ((h1.block _ (heap_lt HM.out)).trans HM.out)
    have k1 : ∀ j, w1.cell? ⟨w.heap.size, j, none⟩ = #[Value.int .i64 (11), .string lb, .string nm, .string bd, .int .i64 m, .int .i64 n, .slice A1 t.length c1, .slice A2 u.length c2][j]? := fun j => Lib.cell_of_heap HM1.out j
    have hk1 : w.heap.size < w1.heap.size := heap_lt HM1.out
    clear h1
    go_wp2_with fail
    refine (HC.out _ HB1.out).mono ?_
    rintro e w2 ⟨rfl, h2⟩
    have HB2 := hid (HB1.out.trans (h2.mono HB1.out.size))
    have HM2 := hid ((h2.block _ (heap_lt HM1.out)).trans HM1.out)
    have k2 : ∀ j, w2.cell? ⟨w.heap.size, j, none⟩ = #[Value.int .i64 (11), .string lb, .string nm, .string bd, .int .i64 m, .int .i64 n, .slice A1 t.length c1, .slice A2 u.length c2][j]? := fun j => Lib.cell_of_heap HM2.out j
    have hk2 : w.heap.size < w2.heap.size := heap_lt HM2.out
    clear h2
    go_wp2
    go_ret
    exact ⟨ret_bool (by first | rfl | simp), HB2.out⟩

set_option maxHeartbeats 8000000 in
set_option maxRecDepth 100000 in
theorem sound_12 (lb nm bd : ByteArray) (m n : Int) (t u : List L.Nd) (hnm : nm.size ≤ 2000000) (hbd : bd.size ≤ 2000000) (htn : ∀ x ∈ t, x.name.size ≤ 2000000) (hun : ∀ x ∈ u, x.name.size ≤ 2000000) (A1 A2 : Option Addr) (c1 c2 : Nat) (w : World) (hM : MCell w) (ht : Rd w w.heap.size (.slice A1 t.length c1) t) (hu : Rd w w.heap.size (.slice A2 u.length c2) u) :
    Calls Tryz.prog 30 #[.agg #[.int .i64 12, .string lb, .string nm, .string bd, .int .i64 m, .int .i64 n, .slice A1 t.length c1, .slice A2 u.length c2]] w fun e w' => e = .returned (.bool (nameB 65 90 nm && (E.plain t && E.only (⟨12, lb, nm, bd, m, n, t, u⟩ : E.Pt) (⟨0, ⟨#[]⟩, nm, ⟨#[]⟩, 0, 0, t, []⟩ : E.Pt)))) ∧ Below w.heap.size w w' := by
  have HBX := hid (below_new (w := w) (.cells #[.int .i64 12, .string lb, .string nm, .string bd, .int .i64 m, .int .i64 n, .slice A1 t.length c1, .slice A2 u.length c2] 39))
  have HM := hid (heap_alloc_new w (.cells #[.int .i64 12, .string lb, .string nm, .string bd, .int .i64 m, .int .i64 n, .slice A1 t.length c1, .slice A2 u.length c2] 39))
  have HTN := hid (fun (w1 : World) (_ : Below w.heap.size w w1) => isTag_any nm hnm w1)
  have HPT := hid (fun (w1 : World) (hb : Below w.heap.size w w1) => isPlain_any t htn (.slice A1 t.length c1) w1 ((ht.below hb).mono hb.size))
  have HC := hid (fun (w1 : World) (_ : Below w.heap.size w w1) => hasOnly_any (⟨12, lb, nm, bd, m, n, t, u⟩ : E.Pt) (⟨0, ⟨#[]⟩, nm, ⟨#[]⟩, 0, 0, t, []⟩ : E.Pt) A1 A2 A1 none c1 c2 c1 0 w1)
  unfold partV at *
  generalize E.only (⟨12, lb, nm, bd, m, n, t, u⟩ : E.Pt) (⟨0, ⟨#[]⟩, nm, ⟨#[]⟩, 0, 0, t, []⟩ : E.Pt) = r at *
  clear ht hu hM htn hun hnm hbd
  generalize nameB 65 90 nm = b_tagn at *
  cases b_tagn with
  | false =>
    rw [Bool.false_and]
    go_enter Tryz.func30, Tryz.ntmps30
    go_wp2_with fail
    refine (HTN.out _ HBX.out).mono ?_
    rintro e w1 ⟨rfl, h1⟩
    have HB1 := hid (HBX.out.trans (h1.mono HBX.out.size))
    have HM1 := hid ((h1.block _ (heap_lt HM.out)).trans HM.out)
    have k1 : ∀ j, w1.cell? ⟨w.heap.size, j, none⟩ = #[Value.int .i64 (12), .string lb, .string nm, .string bd, .int .i64 m, .int .i64 n, .slice A1 t.length c1, .slice A2 u.length c2][j]? := fun j => Lib.cell_of_heap HM1.out j
    have hk1 : w.heap.size < w1.heap.size := heap_lt HM1.out
    clear h1
    go_wp2
    go_ret
    exact ⟨ret_bool (by first | rfl | simp), HB1.out⟩
  | true =>
    rw [Bool.true_and]
    generalize E.plain t = b_plt at *
    cases b_plt with
    | false =>
      rw [Bool.false_and]
      go_enter Tryz.func30, Tryz.ntmps30
      go_wp2_with fail
      refine (HTN.out _ HBX.out).mono ?_
      rintro e w1 ⟨rfl, h1⟩
      have HB1 := hid (HBX.out.trans (h1.mono HBX.out.size))
      have HM1 := hid ((h1.block _ (heap_lt HM.out)).trans HM.out)
      have k1 : ∀ j, w1.cell? ⟨w.heap.size, j, none⟩ = #[Value.int .i64 (12), .string lb, .string nm, .string bd, .int .i64 m, .int .i64 n, .slice A1 t.length c1, .slice A2 u.length c2][j]? := fun j => Lib.cell_of_heap HM1.out j
      have hk1 : w.heap.size < w1.heap.size := heap_lt HM1.out
      clear h1
      go_wp2_with fail
      refine (HPT.out _ HB1.out).mono ?_
      rintro e w2 ⟨rfl, h2⟩
      have HB2 := hid (HB1.out.trans (h2.mono HB1.out.size))
      have HM2 := hid ((h2.block _ (heap_lt HM1.out)).trans HM1.out)
      have k2 : ∀ j, w2.cell? ⟨w.heap.size, j, none⟩ = #[Value.int .i64 (12), .string lb, .string nm, .string bd, .int .i64 m, .int .i64 n, .slice A1 t.length c1, .slice A2 u.length c2][j]? := fun j => Lib.cell_of_heap HM2.out j
      have hk2 : w.heap.size < w2.heap.size := heap_lt HM2.out
      clear h2
      go_wp2
      go_ret
      exact ⟨ret_bool (by first | rfl | simp), HB2.out⟩
    | true =>
      rw [Bool.true_and]
      go_enter Tryz.func30, Tryz.ntmps30
      go_wp2_with fail
      refine (HTN.out _ HBX.out).mono ?_
      rintro e w1 ⟨rfl, h1⟩
      have HB1 := hid (HBX.out.trans (h1.mono HBX.out.size))
      have HM1 := hid ((h1.block _ (heap_lt HM.out)).trans HM.out)
      have k1 : ∀ j, w1.cell? ⟨w.heap.size, j, none⟩ = #[Value.int .i64 (12), .string lb, .string nm, .string bd, .int .i64 m, .int .i64 n, .slice A1 t.length c1, .slice A2 u.length c2][j]? := fun j => Lib.cell_of_heap HM1.out j
      have hk1 : w.heap.size < w1.heap.size := heap_lt HM1.out
      clear h1
      go_wp2_with fail
      refine (HPT.out _ HB1.out).mono ?_
      rintro e w2 ⟨rfl, h2⟩
      have HB2 := hid (HB1.out.trans (h2.mono HB1.out.size))
      have HM2 := hid ((h2.block _ (heap_lt HM1.out)).trans HM1.out)
      have k2 : ∀ j, w2.cell? ⟨w.heap.size, j, none⟩ = #[Value.int .i64 (12), .string lb, .string nm, .string bd, .int .i64 m, .int .i64 n, .slice A1 t.length c1, .slice A2 u.length c2][j]? := fun j => Lib.cell_of_heap HM2.out j
      have hk2 : w.heap.size < w2.heap.size := heap_lt HM2.out
      clear h2
      go_wp2_with fail
      refine (HC.out _ HB2.out).mono ?_
      rintro e w3 ⟨rfl, h3⟩
      have HB3 := hid (HB2.out.trans (h3.mono HB2.out.size))
      have HM3 := hid ((h3.block _ (heap_lt HM2.out)).trans HM2.out)
      have k3 : ∀ j, w3.cell? ⟨w.heap.size, j, none⟩ = #[Value.int .i64 (12), .string lb, .string nm, .string bd, .int .i64 m, .int .i64 n, .slice A1 t.length c1, .slice A2 u.length c2][j]? := fun j => Lib.cell_of_heap HM3.out j
      have hk3 : w.heap.size < w3.heap.size := heap_lt HM3.out
      clear h3
      go_wp2
      go_ret
      exact ⟨ret_bool (by first | rfl | simp), HB3.out⟩

set_option maxHeartbeats 8000000 in
set_option maxRecDepth 100000 in
theorem sound_13 (lb nm bd : ByteArray) (m n : Int) (t u : List L.Nd) (hnm : nm.size ≤ 2000000) (hbd : bd.size ≤ 2000000) (htn : ∀ x ∈ t, x.name.size ≤ 2000000) (hun : ∀ x ∈ u, x.name.size ≤ 2000000) (A1 A2 : Option Addr) (c1 c2 : Nat) (w : World) (hM : MCell w) (ht : Rd w w.heap.size (.slice A1 t.length c1) t) (hu : Rd w w.heap.size (.slice A2 u.length c2) u) :
    Calls Tryz.prog 30 #[.agg #[.int .i64 13, .string lb, .string nm, .string bd, .int .i64 m, .int .i64 n, .slice A1 t.length c1, .slice A2 u.length c2]] w fun e w' => e = .returned (.bool (E.plain t && E.only (⟨13, lb, nm, bd, m, n, t, u⟩ : E.Pt) (⟨0, ⟨#[]⟩, ⟨#[]⟩, ⟨#[]⟩, 0, 0, t, []⟩ : E.Pt))) ∧ Below w.heap.size w w' := by
  have HBX := hid (below_new (w := w) (.cells #[.int .i64 13, .string lb, .string nm, .string bd, .int .i64 m, .int .i64 n, .slice A1 t.length c1, .slice A2 u.length c2] 39))
  have HM := hid (heap_alloc_new w (.cells #[.int .i64 13, .string lb, .string nm, .string bd, .int .i64 m, .int .i64 n, .slice A1 t.length c1, .slice A2 u.length c2] 39))
  have HPT := hid (fun (w1 : World) (hb : Below w.heap.size w w1) => isPlain_any t htn (.slice A1 t.length c1) w1 ((ht.below hb).mono hb.size))
  have HC := hid (fun (w1 : World) (_ : Below w.heap.size w w1) => hasOnly_any (⟨13, lb, nm, bd, m, n, t, u⟩ : E.Pt) (⟨0, ⟨#[]⟩, ⟨#[]⟩, ⟨#[]⟩, 0, 0, t, []⟩ : E.Pt) A1 A2 A1 none c1 c2 c1 0 w1)
  unfold partV at *
  generalize E.only (⟨13, lb, nm, bd, m, n, t, u⟩ : E.Pt) (⟨0, ⟨#[]⟩, ⟨#[]⟩, ⟨#[]⟩, 0, 0, t, []⟩ : E.Pt) = r at *
  clear ht hu hM htn hun hnm hbd
  generalize E.plain t = b_plt at *
  cases b_plt with
  | false =>
    rw [Bool.false_and]
    go_enter Tryz.func30, Tryz.ntmps30
    go_wp2_with fail
    refine (HPT.out _ HBX.out).mono ?_
    rintro e w1 ⟨rfl, h1⟩
    have HB1 := hid (HBX.out.trans (h1.mono HBX.out.size))
    have HM1 := hid ((h1.block _ (heap_lt HM.out)).trans HM.out)
    have k1 : ∀ j, w1.cell? ⟨w.heap.size, j, none⟩ = #[Value.int .i64 (13), .string lb, .string nm, .string bd, .int .i64 m, .int .i64 n, .slice A1 t.length c1, .slice A2 u.length c2][j]? := fun j => Lib.cell_of_heap HM1.out j
    have hk1 : w.heap.size < w1.heap.size := heap_lt HM1.out
    clear h1
    go_wp2
    go_ret
    exact ⟨ret_bool (by first | rfl | simp), HB1.out⟩
  | true =>
    rw [Bool.true_and]
    go_enter Tryz.func30, Tryz.ntmps30
    go_wp2_with fail
    refine (HPT.out _ HBX.out).mono ?_
    rintro e w1 ⟨rfl, h1⟩
    have HB1 := hid (HBX.out.trans (h1.mono HBX.out.size))
    have HM1 := hid ((h1.block _ (heap_lt HM.out)).trans HM.out)
    have k1 : ∀ j, w1.cell? ⟨w.heap.size, j, none⟩ = #[Value.int .i64 (13), .string lb, .string nm, .string bd, .int .i64 m, .int .i64 n, .slice A1 t.length c1, .slice A2 u.length c2][j]? := fun j => Lib.cell_of_heap HM1.out j
    have hk1 : w.heap.size < w1.heap.size := heap_lt HM1.out
    clear h1
    go_wp2_with fail
    refine (HC.out _ HB1.out).mono ?_
    rintro e w2 ⟨rfl, h2⟩
    have HB2 := hid (HB1.out.trans (h2.mono HB1.out.size))
    have HM2 := hid ((h2.block _ (heap_lt HM1.out)).trans HM1.out)
    have k2 : ∀ j, w2.cell? ⟨w.heap.size, j, none⟩ = #[Value.int .i64 (13), .string lb, .string nm, .string bd, .int .i64 m, .int .i64 n, .slice A1 t.length c1, .slice A2 u.length c2][j]? := fun j => Lib.cell_of_heap HM2.out j
    have hk2 : w.heap.size < w2.heap.size := heap_lt HM2.out
    clear h2
    go_wp2
    go_ret
    exact ⟨ret_bool (by first | rfl | simp), HB2.out⟩

set_option maxHeartbeats 8000000 in
set_option maxRecDepth 100000 in
theorem sound_14 (lb nm bd : ByteArray) (m n : Int) (t u : List L.Nd) (hnm : nm.size ≤ 2000000) (hbd : bd.size ≤ 2000000) (htn : ∀ x ∈ t, x.name.size ≤ 2000000) (hun : ∀ x ∈ u, x.name.size ≤ 2000000) (A1 A2 : Option Addr) (c1 c2 : Nat) (w : World) (hM : MCell w) (ht : Rd w w.heap.size (.slice A1 t.length c1) t) (hu : Rd w w.heap.size (.slice A2 u.length c2) u) :
    Calls Tryz.prog 30 #[.agg #[.int .i64 14, .string lb, .string nm, .string bd, .int .i64 m, .int .i64 n, .slice A1 t.length c1, .slice A2 u.length c2]] w fun e w' => e = .returned (.bool (E.plain t && (E.plain u && (decide (0 ≤ n) && E.only (⟨14, lb, nm, bd, m, n, t, u⟩ : E.Pt) (⟨0, ⟨#[]⟩, ⟨#[]⟩, ⟨#[]⟩, 0, n, t, u⟩ : E.Pt))))) ∧ Below w.heap.size w w' := by
  have HBX := hid (below_new (w := w) (.cells #[.int .i64 14, .string lb, .string nm, .string bd, .int .i64 m, .int .i64 n, .slice A1 t.length c1, .slice A2 u.length c2] 39))
  have HM := hid (heap_alloc_new w (.cells #[.int .i64 14, .string lb, .string nm, .string bd, .int .i64 m, .int .i64 n, .slice A1 t.length c1, .slice A2 u.length c2] 39))
  have HPT := hid (fun (w1 : World) (hb : Below w.heap.size w w1) => isPlain_any t htn (.slice A1 t.length c1) w1 ((ht.below hb).mono hb.size))
  have HPU := hid (fun (w1 : World) (hb : Below w.heap.size w w1) => isPlain_any u hun (.slice A2 u.length c2) w1 ((hu.below hb).mono hb.size))
  have HC := hid (fun (w1 : World) (_ : Below w.heap.size w w1) => hasOnly_any (⟨14, lb, nm, bd, m, n, t, u⟩ : E.Pt) (⟨0, ⟨#[]⟩, ⟨#[]⟩, ⟨#[]⟩, 0, n, t, u⟩ : E.Pt) A1 A2 A1 A2 c1 c2 c1 c2 w1)
  unfold partV at *
  generalize E.only (⟨14, lb, nm, bd, m, n, t, u⟩ : E.Pt) (⟨0, ⟨#[]⟩, ⟨#[]⟩, ⟨#[]⟩, 0, n, t, u⟩ : E.Pt) = r at *
  clear ht hu hM htn hun hnm hbd
  generalize E.plain t = b_plt at *
  cases b_plt with
  | false =>
    rw [Bool.false_and]
    go_enter Tryz.func30, Tryz.ntmps30
    go_wp2_with fail
    refine (HPT.out _ HBX.out).mono ?_
    rintro e w1 ⟨rfl, h1⟩
    have HB1 := hid (HBX.out.trans (h1.mono HBX.out.size))
    have HM1 := hid ((h1.block _ (heap_lt HM.out)).trans HM.out)
    have k1 : ∀ j, w1.cell? ⟨w.heap.size, j, none⟩ = #[Value.int .i64 (14), .string lb, .string nm, .string bd, .int .i64 m, .int .i64 n, .slice A1 t.length c1, .slice A2 u.length c2][j]? := fun j => Lib.cell_of_heap HM1.out j
    have hk1 : w.heap.size < w1.heap.size := heap_lt HM1.out
    clear h1
    go_wp2
    go_ret
    exact ⟨ret_bool (by first | rfl | simp), HB1.out⟩
  | true =>
    rw [Bool.true_and]
    generalize E.plain u = b_plu at *
    cases b_plu with
    | false =>
      rw [Bool.false_and]
      go_enter Tryz.func30, Tryz.ntmps30
      go_wp2_with fail
      refine (HPT.out _ HBX.out).mono ?_
      rintro e w1 ⟨rfl, h1⟩
      have HB1 := hid (HBX.out.trans (h1.mono HBX.out.size))
      have HM1 := hid ((h1.block _ (heap_lt HM.out)).trans HM.out)
      have k1 : ∀ j, w1.cell? ⟨w.heap.size, j, none⟩ = #[Value.int .i64 (14), .string lb, .string nm, .string bd, .int .i64 m, .int .i64 n, .slice A1 t.length c1, .slice A2 u.length c2][j]? := fun j => Lib.cell_of_heap HM1.out j
      have hk1 : w.heap.size < w1.heap.size := heap_lt HM1.out
      clear h1
      go_wp2_with fail
      refine (HPU.out _ HB1.out).mono ?_
      rintro e w2 ⟨rfl, h2⟩
      have HB2 := hid (HB1.out.trans (h2.mono HB1.out.size))
      have HM2 := hid ((h2.block _ (heap_lt HM1.out)).trans HM1.out)
      have k2 : ∀ j, w2.cell? ⟨w.heap.size, j, none⟩ = #[Value.int .i64 (14), .string lb, .string nm, .string bd, .int .i64 m, .int .i64 n, .slice A1 t.length c1, .slice A2 u.length c2][j]? := fun j => Lib.cell_of_heap HM2.out j
      have hk2 : w.heap.size < w2.heap.size := heap_lt HM2.out
      clear h2
      go_wp2
      go_ret
      exact ⟨ret_bool (by first | rfl | simp), HB2.out⟩
    | true =>
      rw [Bool.true_and]
      by_cases g_num : 0 ≤ n
      case neg =>
        rw [decide_eq_false g_num, Bool.false_and]
        go_enter Tryz.func30, Tryz.ntmps30
        go_wp2_with fail
        refine (HPT.out _ HBX.out).mono ?_
        rintro e w1 ⟨rfl, h1⟩
        have HB1 := hid (HBX.out.trans (h1.mono HBX.out.size))
        have HM1 := hid ((h1.block _ (heap_lt HM.out)).trans HM.out)
        have k1 : ∀ j, w1.cell? ⟨w.heap.size, j, none⟩ = #[Value.int .i64 (14), .string lb, .string nm, .string bd, .int .i64 m, .int .i64 n, .slice A1 t.length c1, .slice A2 u.length c2][j]? := fun j => Lib.cell_of_heap HM1.out j
        have hk1 : w.heap.size < w1.heap.size := heap_lt HM1.out
        clear h1
        go_wp2_with fail
        refine (HPU.out _ HB1.out).mono ?_
        rintro e w2 ⟨rfl, h2⟩
        have HB2 := hid (HB1.out.trans (h2.mono HB1.out.size))
        have HM2 := hid ((h2.block _ (heap_lt HM1.out)).trans HM1.out)
        have k2 : ∀ j, w2.cell? ⟨w.heap.size, j, none⟩ = #[Value.int .i64 (14), .string lb, .string nm, .string bd, .int .i64 m, .int .i64 n, .slice A1 t.length c1, .slice A2 u.length c2][j]? := fun j => Lib.cell_of_heap HM2.out j
        have hk2 : w.heap.size < w2.heap.size := heap_lt HM2.out
        clear h2
        go_wp2
        go_ret
        exact ⟨ret_bool (by first | rfl | simp), HB2.out⟩
      rw [decide_eq_true g_num, Bool.true_and]
      go_enter Tryz.func30, Tryz.ntmps30
      go_wp2_with fail
      refine (HPT.out _ HBX.out).mono ?_
      rintro e w1 ⟨rfl, h1⟩
      have HB1 := hid (HBX.out.trans (h1.mono HBX.out.size))
      have HM1 := hid ((h1.block _ (heap_lt HM.out)).trans HM.out)
      have k1 : ∀ j, w1.cell? ⟨w.heap.size, j, none⟩ = #[Value.int .i64 (14), .string lb, .string nm, .string bd, .int .i64 m, .int .i64 n, .slice A1 t.length c1, .slice A2 u.length c2][j]? := fun j => Lib.cell_of_heap HM1.out j
      have hk1 : w.heap.size < w1.heap.size := heap_lt HM1.out
      clear h1
      go_wp2_with fail
      refine (HPU.out _ HB1.out).mono ?_
      rintro e w2 ⟨rfl, h2⟩
      have HB2 := hid (HB1.out.trans (h2.mono HB1.out.size))
      have HM2 := hid ((h2.block _ (heap_lt HM1.out)).trans HM1.out)
      have k2 : ∀ j, w2.cell? ⟨w.heap.size, j, none⟩ = #[Value.int .i64 (14), .string lb, .string nm, .string bd, .int .i64 m, .int .i64 n, .slice A1 t.length c1, .slice A2 u.length c2][j]? := fun j => Lib.cell_of_heap HM2.out j
      have hk2 : w.heap.size < w2.heap.size := heap_lt HM2.out
      clear h2
      go_wp2_with fail
      refine (HC.out _ HB2.out).mono ?_
      rintro e w3 ⟨rfl, h3⟩
      have HB3 := hid (HB2.out.trans (h3.mono HB2.out.size))
      have HM3 := hid ((h3.block _ (heap_lt HM2.out)).trans HM2.out)
      have k3 : ∀ j, w3.cell? ⟨w.heap.size, j, none⟩ = #[Value.int .i64 (14), .string lb, .string nm, .string bd, .int .i64 m, .int .i64 n, .slice A1 t.length c1, .slice A2 u.length c2][j]? := fun j => Lib.cell_of_heap HM3.out j
      have hk3 : w.heap.size < w3.heap.size := heap_lt HM3.out
      clear h3
      go_wp2
      go_ret
      exact ⟨ret_bool (by first | rfl | simp), HB3.out⟩

set_option maxHeartbeats 8000000 in
set_option maxRecDepth 100000 in
theorem isSound_any (p : E.Pt) (hnm : p.name.size ≤ 2000000) (hbd : p.bind.size ≤ 2000000) (htn : ∀ x ∈ p.t, x.name.size ≤ 2000000) (hun : ∀ x ∈ p.u, x.name.size ≤ 2000000) (A1 A2 : Option Addr) (c1 c2 : Nat) (w : World) (hM : MCell w) (ht : Rd w w.heap.size (.slice A1 p.t.length c1) p.t) (hu : Rd w w.heap.size (.slice A2 p.u.length c2) p.u) :
    Calls Tryz.prog 30 #[partV p (.slice A1 p.t.length c1) (.slice A2 p.u.length c2)] w fun e w' => e = .returned (.bool (E.sound p)) ∧ Below w.heap.size w w' := by
  obtain ⟨k, lb, nm, bd, m, n, t, u⟩ := p
  unfold partV E.sound
  simp only at *
  by_cases e0 : k = 0
  · subst e0
    rw [if_pos rfl]
    exact sound_0 lb nm bd m n t u hnm hbd htn hun A1 A2 c1 c2 w hM ht hu
  rw [if_neg e0]
  by_cases e1 : k = 1
  · subst e1
    rw [if_pos rfl]
    exact sound_1 lb nm bd m n t u hnm hbd htn hun A1 A2 c1 c2 w hM ht hu
  rw [if_neg e1]
  by_cases e2 : k = 2
  · subst e2
    rw [if_pos rfl]
    exact sound_2 lb nm bd m n t u hnm hbd htn hun A1 A2 c1 c2 w hM ht hu
  rw [if_neg e2]
  by_cases e3 : k = 3
  · subst e3
    rw [if_pos rfl]
    exact sound_3 lb nm bd m n t u hnm hbd htn hun A1 A2 c1 c2 w hM ht hu
  rw [if_neg e3]
  by_cases e4 : k = 4
  · subst e4
    rw [if_pos rfl]
    exact sound_4 lb nm bd m n t u hnm hbd htn hun A1 A2 c1 c2 w hM ht hu
  rw [if_neg e4]
  by_cases e5 : k = 5
  · subst e5
    rw [if_pos rfl]
    exact sound_5 lb nm bd m n t u hnm hbd htn hun A1 A2 c1 c2 w hM ht hu
  rw [if_neg e5]
  by_cases e6 : k = 6
  · subst e6
    rw [if_pos rfl]
    exact sound_6 lb nm bd m n t u hnm hbd htn hun A1 A2 c1 c2 w hM ht hu
  rw [if_neg e6]
  by_cases e7 : k = 7
  · subst e7
    rw [if_pos rfl]
    exact sound_7 lb nm bd m n t u hnm hbd htn hun A1 A2 c1 c2 w hM ht hu
  rw [if_neg e7]
  by_cases e8 : k = 8
  · subst e8
    rw [if_pos rfl]
    exact sound_8 lb nm bd m n t u hnm hbd htn hun A1 A2 c1 c2 w hM ht hu
  rw [if_neg e8]
  by_cases e9 : k = 9
  · subst e9
    rw [if_pos rfl]
    exact sound_9 lb nm bd m n t u hnm hbd htn hun A1 A2 c1 c2 w hM ht hu
  rw [if_neg e9]
  by_cases e10 : k = 10
  · subst e10
    rw [if_pos rfl]
    exact sound_10 lb nm bd m n t u hnm hbd htn hun A1 A2 c1 c2 w hM ht hu
  rw [if_neg e10]
  by_cases e11 : k = 11
  · subst e11
    rw [if_pos rfl]
    exact sound_11 lb nm bd m n t u hnm hbd htn hun A1 A2 c1 c2 w hM ht hu
  rw [if_neg e11]
  by_cases e12 : k = 12
  · subst e12
    rw [if_pos rfl]
    exact sound_12 lb nm bd m n t u hnm hbd htn hun A1 A2 c1 c2 w hM ht hu
  rw [if_neg e12]
  by_cases e13 : k = 13
  · subst e13
    rw [if_pos rfl]
    exact sound_13 lb nm bd m n t u hnm hbd htn hun A1 A2 c1 c2 w hM ht hu
  rw [if_neg e13]
  by_cases e14 : k = 14
  · subst e14
    rw [if_pos rfl]
    exact sound_14 lb nm bd m n t u hnm hbd htn hun A1 A2 c1 c2 w hM ht hu
  rw [if_neg e14]
  clear ht hu hM htn hun hnm hbd
  have HBX := hid (below_new (w := w) (.cells #[.int .i64 k, .string lb, .string nm, .string bd, .int .i64 m, .int .i64 n, .slice A1 t.length c1, .slice A2 u.length c2] 39))
  have f0 : (k == 0) = false := by simp [e0]
  have f1 : (k == 1) = false := by simp [e1]
  have f2 : (k == 2) = false := by simp [e2]
  have f3 : (k == 3) = false := by simp [e3]
  have f4 : (k == 4) = false := by simp [e4]
  have f5 : (k == 5) = false := by simp [e5]
  have f6 : (k == 6) = false := by simp [e6]
  have f7 : (k == 7) = false := by simp [e7]
  have f8 : (k == 8) = false := by simp [e8]
  have f9 : (k == 9) = false := by simp [e9]
  have f10 : (k == 10) = false := by simp [e10]
  have f11 : (k == 11) = false := by simp [e11]
  have f12 : (k == 12) = false := by simp [e12]
  have f13 : (k == 13) = false := by simp [e13]
  have f14 : (k == 14) = false := by simp [e14]
  clear e0 e1 e2 e3 e4 e5 e6 e7 e8 e9 e10 e11 e12 e13 e14
  go_enter Tryz.func30, Tryz.ntmps30
  go_wp2
  go_ret
  exact ⟨rfl, HBX.out⟩

end Go.Proofs.YthbieinbpfjgkaaGreatDoor
end

section
/-
  slices.Contains at a slice that reads as texts; the walk of mayStand. Conditions: labels of at most 2000000 bytes.
-/
namespace Go.Proofs.YthbieinbpfjgkaaGreatDoor
open Go.RowKit

namespace E
/-- May kid be child k of p, after children with these labels? -/
def may (p : Pt) (k : Int) (before : List ByteArray) (kid : Pt) : Bool :=
  if p.kind = 10 then !decide (kid.kind = 8) && (nameB 97 122 kid.label && !Lib.containsS before kid.label)
  else if p.kind = 7 ∧ 0 < k then decide (kid.kind = 8) && (nameB 65 90 kid.label && !Lib.containsS before kid.label)
  else bare kid
end E

theorem contains_any (ss : List ByteArray) (hs : ss.length ≤ 1000000) (x : ByteArray) (v : Value) (w : World) (B : Nat) (h : RdS w B v ss) :
    Calls Tryz.prog 50 #[v, .string x] w fun e w' => e = .returned (.bool (Lib.containsS ss x)) ∧ w' = w := by
  obtain ⟨A, cap, rfl, hc⟩ := h
  by_cases hn : ss = []
  · subst hn
    exact (Tryz.slices_Contains_string_empty A cap x w)
  · obtain ⟨b, o, rfl, hb, hx⟩ := hc hn
    have H := Tryz.slices_Contains_string b o ss.length cap ss x w (Nat.le_refl _) (by omega) (fun j hj => by
      have := (hx j hj)
  
      simp [List.getElem?_eq_getElem hj, this])
    rw [List.take_length] at H
    exact H

set_option maxHeartbeats 8000000 in
set_option maxRecDepth 100000 in
theorem amay_any (p : E.Pt) (k : Int) (before : List ByteArray) (kid : E.Pt) (hl : kid.label.size ≤ 2000000) (hs : before.length ≤ 1000000) (vt vu wt wu v : Value) (w : World) (hR : RdS w w.heap.size v before) :
    Calls Tryz.prog 32 #[partV p vt vu, .int .i64 k, v, partV kid wt wu] w fun e w' => e = .returned (.bool (E.may p k before kid)) ∧ Below w.heap.size w w' := by
  have HC := hid (fun (w1 : World) (hb : Below w.heap.size w w1) => contains_any before hs kid.label v w1 w.heap.size (hR.low hb))
  have HWB := hid (fun (w1 : World) => isWord_any kid.label hl w1)
  have HTB := hid (fun (w1 : World) => isTag_any kid.label hl w1)
  have HBB := hid (fun (w1 : World) => isBare_any kid wt wu w1)
  obtain ⟨A, cap, rfl, -⟩ := hR
  obtain ⟨pk, plb, pnm, pbd, pm, pn, pt, pu⟩ := p
  obtain ⟨kk, lb, knm, kbd, km, kn, kt, ku⟩ := kid
  simp only at HC HWB HTB HBB hl
  unfold E.may partV at *
  simp only at *
  have HA0 := hid (below_new (w := w) (.cells #[.int .i64 pk, .string plb, .string pnm, .string pbd, .int .i64 pm, .int .i64 pn, vt, vu] 39))
  have M0 := hid (heap_alloc_new w (.cells #[.int .i64 pk, .string plb, .string pnm, .string pbd, .int .i64 pm, .int .i64 pn, vt, vu] 39))
  have HA1 := hid (HA0.out.trans ((below_new (w := w.alloc (.cells #[.int .i64 pk, .string plb, .string pnm, .string pbd, .int .i64 pm, .int .i64 pn, vt, vu] 39)) (.cells #[.int .i64 kk, .string lb, .string knm, .string kbd, .int .i64 km, .int .i64 kn, wt, wu] 39)).mono HA0.out.size))
  clear hl hs
  generalize E.bare ⟨kk, lb, knm, kbd, km, kn, kt, ku⟩ = bb at *
  generalize nameB 97 122 lb = bw at *
  generalize nameB 65 90 lb = bt at *
  generalize Lib.containsS before lb = bc at *
  by_cases e1 : pk = 10
  · subst e1
    rw [if_pos rfl]
    by_cases e8 : kk = 8
    · subst e8
      go_enter Tryz.func32, Tryz.ntmps32
      go_wp2
      go_ret
      exact ⟨ret_bool (by simp), HA1.out⟩
    · have f8 : (kk != 8) = true := by simpa using e8
      rw [decide_eq_false e8, Bool.not_false, Bool.true_and]
      clear e8
      cases bw with
      | false =>
        go_enter Tryz.func32, Tryz.ntmps32
        go_wp2_with fail
        refine (HWB.out _).mono ?_
        rintro e w1 ⟨rfl, h1⟩
        have HB1 := hid (HA1.out.trans (h1.mono HA1.out.size))
        go_wp2
        go_ret
        exact ⟨ret_bool (by simp), HB1.out⟩
      | true =>
        go_enter Tryz.func32, Tryz.ntmps32
        go_wp2_with fail
        refine (HWB.out _).mono ?_
        rintro e w1 ⟨rfl, h1⟩
        have HB1 := hid (HA1.out.trans (h1.mono HA1.out.size))
        have hc : w1.cell? ⟨w.heap.size + 1, 1, none⟩ = some (.string lb) := by
          rw [h1.cell (p := ⟨w.heap.size + 1, 1, none⟩) (by simp)]
          simp
        go_wp2_with fail
        refine (HC.out _ HB1.out).mono ?_
        rintro e w2 ⟨rfl, rfl⟩
        go_wp2
        go_ret
        exact ⟨ret_bool (by simp [*]), HB1.out⟩
  rw [if_neg e1]
  have f1 : (pk == 10) = false := by simpa using e1
  clear e1
  by_cases e7 : pk = 7
  · subst e7
    by_cases e0 : 0 < k
    · rw [if_pos ⟨rfl, e0⟩]
      by_cases e8 : kk = 8
      · subst e8
        rw [decide_eq_true (rfl : (8 : Int) = 8), Bool.true_and]
        cases bt with
        | false =>
          go_enter Tryz.func32, Tryz.ntmps32
          go_wp2_with fail
          refine (HTB.out _).mono ?_
          rintro e w1 ⟨rfl, h1⟩
          have HB1 := hid (HA1.out.trans (h1.mono HA1.out.size))
          go_wp2
          go_ret
          exact ⟨ret_bool (by simp), HB1.out⟩
        | true =>
          go_enter Tryz.func32, Tryz.ntmps32
          go_wp2_with fail
          refine (HTB.out _).mono ?_
          rintro e w1 ⟨rfl, h1⟩
          have HB1 := hid (HA1.out.trans (h1.mono HA1.out.size))
          have hc : w1.cell? ⟨w.heap.size + 1, 1, none⟩ = some (.string lb) := by
            rw [h1.cell (p := ⟨w.heap.size + 1, 1, none⟩) (by simp)]
            simp
          go_wp2_with fail
          refine (HC.out _ HB1.out).mono ?_
          rintro e w2 ⟨rfl, rfl⟩
          go_wp2
          go_ret
          exact ⟨ret_bool (by simp [*]), HB1.out⟩
      · have f8 : (kk == 8) = false := by simpa using e8
        rw [decide_eq_false e8, Bool.false_and]
        clear e8
        go_enter Tryz.func32, Tryz.ntmps32
        go_wp2
        go_ret
        exact ⟨ret_bool (by simp), HA1.out⟩
    · rw [if_neg (fun h => e0 h.2)]
      go_enter Tryz.func32, Tryz.ntmps32
      go_wp2_with fail
      refine (HBB.out _).mono ?_
      rintro e w1 ⟨rfl, h1⟩
      have HB1 := hid (HA1.out.trans (h1.mono HA1.out.size))
      go_wp2
      go_ret
      exact ⟨rfl, HB1.out⟩
  · rw [if_neg (fun h => e7 h.1)]
    have f7 : (pk == 7) = false := by simpa using e7
    clear e7
    go_enter Tryz.func32, Tryz.ntmps32
    go_wp2_with fail
    refine (HBB.out _).mono ?_
    rintro e w1 ⟨rfl, h1⟩
    have HB1 := hid (HA1.out.trans (h1.mono HA1.out.size))
    go_wp2
    go_ret
    exact ⟨rfl, HB1.out⟩

end Go.Proofs.YthbieinbpfjgkaaGreatDoor
end

section
/-
  What ast.Right asks, in plain lists: a part's children one behind the other; an expression is a tree of sound parts.
-/
namespace Go.Proofs.YthbieinbpfjgkaaGreatDoor.E
open Go

/-- The children from number k on, the one ahead of them labelled so, may stand under x. -/
def Fo.stand (x : Pt) : Nat → List ByteArray → Fo → Bool
  | _, _, .nil => true
  | k, b, .cons y _ r => may x k b y && Fo.stand x (k + 1) (b ++ [y.label]) r

/-- Each part is such as it may be, has as many children as it says, and these may stand under it. -/
def Fo.ok : Fo → Bool
  | .nil => true
  | .cons x ks r => sound x && decide (many x = ks.count) && Fo.stand x 0 [] ks && ks.ok && r.ok

theorem many_of_sound {x : Pt} (h : sound x = true) : 0 ≤ many x ∧ many x ≤ 60 := by
  obtain ⟨k, lb, nm, bd, m, n, t, u⟩ := x
  by_cases hk : k < 0 ∨ 15 ≤ k
  · unfold many
    rw [if_pos hk]
    omega
  unfold many
  rw [if_neg hk]
  simp only at hk ⊢
  rcases (by omega : k = 0 ∨ k = 1 ∨ k = 2 ∨ k = 3 ∨ k = 4 ∨ k = 5 ∨ k = 6 ∨ k = 7 ∨ k = 8 ∨ k = 9 ∨ k = 10 ∨ k = 11 ∨ k = 12 ∨ k = 13 ∨ k = 14) with rfl | rfl | rfl | rfl | rfl | rfl | rfl | rfl | rfl | rfl | rfl | rfl | rfl | rfl | rfl
  case inl =>
    have hm : m = 0 := by
      have h2 : litOK ⟨0, lb, nm, bd, m, n, t, u⟩ = true := h
      unfold litOK at h2
      split at h2
      · obtain ⟨-, h3⟩ := (Bool.and_eq_true _ _).mp h2
        simp only [only, useP] at h3
        repeat' split at h3
        all_goals simp at h3
        all_goals first | exact of_decide_eq_true h3.2.2.2.2.1 | exact of_decide_eq_true h3.2.1 | exact of_decide_eq_true h3.2.2.1
      · cases h2
    subst hm
    simp [base, kidsA]
  all_goals simp [sound, only] at h
  all_goals simp [base, kidsA]
  all_goals omega

/-- What stands behind one tree, with so many levels left. -/
def kidsF (V : List Pt → Option (List Pt)) (x : Pt) : Nat → Nat → List ByteArray → List Pt → Option (List Pt)
  | 0, _, _, l => some l
  | _ + 1, _, _, [] => none
  | c + 1, k, b, y :: r => if may x k b y then (V (y :: r)).bind (kidsF V x c (k + 1) (b ++ [y.label])) else none

def visitF : Nat → List Pt → Option (List Pt)
  | 0, _ => none
  | _ + 1, [] => none
  | m + 1, x :: r => if sound x then kidsF (visitF m) x (many x).toNat 0 [] r else none

/-- Is it an expression? -/
def rightL (l : List Pt) : Bool :=
  match l with
  | [] => false
  | x :: _ => decide (l.length ≤ 10000) && bare x && decide (visitF 100 l = some [])

theorem kidsF_iff {V : List Pt → Option (List Pt)} {m : Nat} (hV : ∀ l r, V l = some r ↔ ∃ x ks, l = x :: (ks.flat ++ r) ∧ (Fo.cons x ks .nil).ok = true ∧ ks.deep + 1 ≤ m) (x : Pt) :
    ∀ (c k : Nat) (b : List ByteArray) (l r : List Pt), kidsF V x c k b l = some r ↔ ∃ f : Fo, l = f.flat ++ r ∧ f.count = c ∧ f.ok = true ∧ Fo.stand x k b f = true ∧ f.deep ≤ m := by
  intro c
  induction c with
  | zero =>
    intro k b l r
    rw [kidsF]
    constructor
    · intro h
      cases h
      exact ⟨.nil, rfl, rfl, rfl, rfl, Nat.zero_le _⟩
    · rintro ⟨f, rfl, hc, _⟩
      cases f with
      | nil => rfl
      | cons x ks r => simp [Fo.count] at hc
  | succ c ih =>
    intro k b l r
    cases l with
    | nil =>
      rw [kidsF]
      constructor
      · intro h; cases h
      · rintro ⟨f, hf, hc, _⟩
        cases f with
        | nil => simp [Fo.count] at hc
        | cons x ks r => simp [Fo.flat] at hf
    | cons y l =>
      rw [kidsF]
      constructor
      · intro h
        split at h
        · rename_i hm
          obtain ⟨r1, h1, h2⟩ := Option.bind_eq_some_iff.1 h
          obtain ⟨z, ks, hz, hok, hd⟩ := (hV _ _).1 h1
          obtain ⟨f, hf, hc, hfo, hfs, hfd⟩ := (ih _ _ _ _).1 h2
          injection hz with hz1 hz2
          subst hz1
          refine ⟨.cons y ks f, ?_, ?_, ?_, ?_, ?_⟩
          · simp [Fo.flat, hz2, hf]
          · simp [Fo.count, hc]
          · simp [Fo.ok] at hok ⊢
            exact ⟨hok, hfo⟩
          · simp [Fo.stand, hm, hfs]
          · simp [Fo.deep]; omega
        · cases h
      · rintro ⟨f, hf, hc, hfo, hfs, hfd⟩
        cases f with
        | nil => simp [Fo.count] at hc
        | cons z ks g =>
          simp only [Fo.flat, List.cons_append, List.cons.injEq] at hf
          obtain ⟨rfl, hf⟩ := hf
          simp [Fo.count] at hc
          simp [Fo.stand] at hfs
          simp [Fo.deep] at hfd
          simp [Fo.ok] at hfo
          rw [if_pos hfs.1, Option.bind_eq_some_iff]
          refine ⟨g.flat ++ r, (hV _ _).2 ⟨y, ks, by rw [hf]; simp, by simp [Fo.ok]; exact hfo.1, by omega⟩, (ih _ _ _ _).2 ⟨g, rfl, hc, hfo.2, hfs.2, by omega⟩⟩

theorem visitF_iff (m : Nat) : ∀ l r, visitF m l = some r ↔ ∃ x ks, l = x :: (ks.flat ++ r) ∧ (Fo.cons x ks .nil).ok = true ∧ ks.deep + 1 ≤ m := by
  induction m with
  | zero =>
    intro l r
    rw [visitF]
    constructor
    · intro h; cases h
    · rintro ⟨_, _, _, _, h⟩; omega
  | succ m ih =>
    intro l r
    cases l with
    | nil =>
      rw [visitF]
      constructor
      · intro h; cases h
      · rintro ⟨_, _, h, _⟩; cases h
    | cons x l =>
      rw [visitF]
      constructor
      · intro h
        split at h
        · rename_i hn
          obtain ⟨f, hf, hc, hfo, hfs, hfd⟩ := (kidsF_iff ih x _ _ _ _ _).1 h
          have := many_of_sound hn
          refine ⟨x, f, by rw [hf], ?_, by omega⟩
          simp [Fo.ok, hn, hfo, hfs, hc]
          omega
        · cases h
      · rintro ⟨y, ks, hl, hok, hd⟩
        injection hl with h1 h2
        subst h1
        simp [Fo.ok] at hok
        obtain ⟨⟨⟨hn, hm⟩, hs⟩, hk⟩ := hok
        rw [if_pos hn]
        exact (kidsF_iff ih x _ _ _ _ _).2 ⟨ks, h2, by omega, hk, hs, by omega⟩

/-- An expression is a tree, each of whose parts is such as it may be. -/
theorem rightL_iff (l : List Pt) : rightL l = true ↔ ∃ x ks, l = x :: Fo.flat ks ∧ l.length ≤ 10000 ∧ bare x = true ∧ (Fo.cons x ks .nil).ok = true ∧ ks.deep + 1 ≤ 100 := by
  cases l with
  | nil => simp [rightL]
  | cons y l =>
    simp only [rightL, Bool.and_eq_true, decide_eq_true_eq]
    constructor
    · rintro ⟨⟨h1, h2⟩, h3⟩
      obtain ⟨x, ks, hl, hok, hd⟩ := (visitF_iff _ _ _).1 h3
      rw [List.append_nil] at hl
      injection hl with ha hb
      subst ha
      exact ⟨y, ks, by rw [hb], h1, h2, hok, hd⟩
    · rintro ⟨x, ks, hl, h1, h2, hok, hd⟩
      injection hl with ha hb
      subst ha
      exact ⟨⟨h1, h2⟩, (visitF_iff _ _ _).2 ⟨y, ks, by rw [hb]; simp, hok, hd⟩⟩

end Go.Proofs.YthbieinbpfjgkaaGreatDoor.E
end
