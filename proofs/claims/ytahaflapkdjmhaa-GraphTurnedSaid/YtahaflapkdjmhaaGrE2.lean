/-
  The walks of graph's queue's Pop, Swap, Less. Conditions: places within it.
-/
import Derived.Test.YtahaflapkdjmhaaGrE
import Derived.Deep.Draws
namespace Go.Proofs.Ytahaflapkdjmhaa
open Go.RowKit

theorem Qu.shape {w : World} {B q : Nat} {lv : Value} {A : Option Addr} {c : Nat} {its : List Nat} (h : Qu w B q lv A c its) (hne : 0 < its.length) : ∃ g, A = some ⟨g, 0, none⟩ ∧ g ≠ q ∧ its.length ≤ c ∧ c ≤ maxLen := by
  rcases h.row.2 with ⟨_, h0⟩ | ⟨g, cap, cur, hv, _, _, h1, h2, _⟩
  · omega
  · simp only [Value.slice.injEq, true_and] at hv
    obtain ⟨rfl, rfl⟩ := hv
    exact ⟨g, rfl, fun e => h.off (by simp [e]), h1, h2⟩
theorem Qu.item {w : World} {B q : Nat} {lv : Value} {g c : Nat} {its : List Nat} (h : Qu w B q lv (some ⟨g, 0, none⟩) c its) {i : Nat} (hi : i < its.length) : w.cell? ⟨g, i, none⟩ = some (.int .i64 (its[i] : Int)) ∧ w.frozen? ⟨g, i, none⟩ = false := by
  refine ⟨?_, h.row.frozenAt i⟩
  rw [h.row.cellAt i (by omega)]
  simp [numV, hi]

theorem Qu.popped {w : World} {B q : Nat} {lv : Value} {g c : Nat} {its : List Nat} {x : Nat} (h : Qu w B q lv (some ⟨g, 0, none⟩) c (its ++ [x])) :
    Qu (w.setCell ⟨q, 1, none⟩ (.slice (some ⟨g, 0, none⟩) its.length c)) B q lv (some ⟨g, 0, none⟩) c its ∧ QK w (w.setCell ⟨q, 1, none⟩ (.slice (some ⟨g, 0, none⟩) its.length c)) q (some ⟨g, 0, none⟩) (some ⟨g, 0, none⟩) := by
  have hgq : g ≠ q := fun e => h.off (by simp [e])
  refine ⟨⟨heap_setCell_same w q 1 _ _ _ h.box, ?_, h.off, h.lo⟩, ⟨rfl, rfl, rfl, by simp, fun k _ hk _ => Below.heap_setCell _ _ _ _ hk, Or.inl rfl⟩⟩
  refine ownsRow_setCell_other ?_ (a := ⟨q, 1, none⟩) (by rw [ownBlock_slice]; simpa using hgq) _
  refine ⟨by simp [numV], Or.inr ?_⟩
  rcases h.row.2 with ⟨h0, _⟩ | ⟨g', cap, cur, hv, hb, hg, h1, h2, h3, h4⟩
  · simp at h0
  · simp only [Value.slice.injEq, Option.some.injEq, Addr.mk.injEq, and_true, true_and] at hv
    obtain ⟨rfl, rfl⟩ := hv
    refine ⟨g, c, cur, rfl, hb, hg, by simp at h1; omega, h2, h3, ?_⟩
    have e : cur.toList.take (its.length * 1) = (cur.toList.take ((its ++ [x]).length * 1)).take (its.length * 1) := by rw [List.take_take]; congr 1; simp
    rw [e, h4]
    simp [numV]

def swapL (its : List Nat) (i j : Nat) : List Nat := (its.set i (its.getD j 0)).set j (its.getD i 0)
theorem swapL_length (its : List Nat) (i j : Nat) : (swapL its i j).length = its.length := by simp [swapL]

theorem Qu.swapped {w : World} {B q : Nat} {lv : Value} {g c : Nat} {its : List Nat} (h : Qu w B q lv (some ⟨g, 0, none⟩) c its) {i j : Nat} (hi : i < its.length) (hj : j < its.length) :
    Qu ((w.setCell ⟨g, i, none⟩ (.int .i64 (its[j] : Int))).setCell ⟨g, j, none⟩ (.int .i64 (its[i] : Int))) B q lv (some ⟨g, 0, none⟩) c (swapL its i j) ∧ QK w ((w.setCell ⟨g, i, none⟩ (.int .i64 (its[j] : Int))).setCell ⟨g, j, none⟩ (.int .i64 (its[i] : Int))) q (some ⟨g, 0, none⟩) (some ⟨g, 0, none⟩) := by
  have hgq : g ≠ q := fun e => h.off (by simp [e])
  have hs1 := (h.row.stored i (.int .i64 (its[j] : Int))).1
  have hs2 := (hs1.stored j (.int .i64 (its[i] : Int))).1
  refine ⟨⟨?_, ?_, h.off, h.lo⟩, ⟨rfl, rfl, rfl, by simp, fun k _ _ hk => ?_, Or.inl rfl⟩⟩
  · rw [Below.heap_setCell _ _ _ _ (fun e => hgq e.symm), Below.heap_setCell _ _ _ _ (fun e => hgq e.symm), swapL_length]
    exact h.box
  · rw [swapL_length]
    have e : ((numV its).set i (.int .i64 (its[j] : Int))).set j (.int .i64 (its[i] : Int)) = numV (swapL its i j) := by
      simp [numV, swapL, List.map_set, List.getD, hi, hj]
    rw [e] at hs2
    exact hs2
  · have hk2 : k ≠ g := fun e => hk (by simp [e])
    rw [Below.heap_setCell _ _ _ _ hk2, Below.heap_setCell _ _ _ _ hk2]

set_option maxHeartbeats 2000000 in
set_option maxRecDepth 100000 in
theorem qpop_any {w : World} {B q : Nat} {lv : Value} {A : Option Addr} {c : Nat} {its : List Nat} {x : Nat} (h : Qu w B q lv A c (its ++ [x])) (hl : its.length ≤ 1000) :
    Calls Try.prog 48 #[.pointer (some ⟨q, 0, none⟩)] w fun e w' => e = .returned (.iface 3 (.int .i64 (x : Int))) ∧ Qu w' B q lv A c its ∧ QK w w' q A A := by
  obtain ⟨g, rfl, hgq, hgc, hgm⟩ := h.shape (by simp)
  have H := hid h
  have c1 := h.c1
  have f1 := h.f1
  have x1 := (h.item (i := its.length) (by simp)).1
  simp only [List.getElem_concat_length] at x1
  have hlen : (its ++ [x]).length = its.length + 1 := by simp
  rw [hlen] at c1 hgc
  unfold maxLen at hgm
  obtain ⟨n, hn⟩ : ∃ n, n = its.length := ⟨_, rfl⟩
  rw [← hn] at c1 x1 hgc hl
  have HN := hid hn
  clear hn hlen h
  have e1 : ((n : Int) + 1).toNat = n + 1 := by omega
  go_enter Try.func48, Try.ntmps48
  go_wp2
  go_ret
  have e := HN.out
  subst e
  exact ⟨rfl, H.out.popped⟩

set_option maxHeartbeats 4000000 in
set_option maxRecDepth 1000000 in
theorem qswap_any {w : World} {B q : Nat} {lv : Value} {A : Option Addr} {c : Nat} {its : List Nat} (h : Qu w B q lv A c its) (hl : its.length ≤ 1000) {i j : Nat} (hi : i < its.length) (hj : j < its.length) (hij : i ≠ j) :
    Calls Try.prog 50 #[.pointer (some ⟨q, 0, none⟩), .int .i64 (i : Int), .int .i64 (j : Int)] w fun e w' => e = .returned (.tuple #[]) ∧ Qu w' B q lv A c (swapL its i j) ∧ QK w w' q A A := by
  obtain ⟨g, rfl, hgq, hgc, hgm⟩ := h.shape (by omega)
  have H := hid (h.swapped hi hj)
  have c1 := h.c1
  obtain ⟨x1, z1⟩ := h.item hi
  obtain ⟨x2, z2⟩ := h.item hj
  obtain ⟨n, hn⟩ : ∃ n, n = its.length := ⟨_, rfl⟩
  have hin : (i : Int) < (n : Int) := by omega
  have hjn : (j : Int) < (n : Int) := by omega
  rw [← hn] at c1
  obtain ⟨xi, hxi⟩ : ∃ xi, xi = its[i] := ⟨_, rfl⟩
  obtain ⟨xj, hxj⟩ : ∃ xj, xj = its[j] := ⟨_, rfl⟩
  rw [← hxi] at x1 H
  rw [← hxj] at x2 H
  clear h hn hxi hxj hi hj hl hgc hgm
  go_enter Try.func50, Try.ntmps50
  go_wp2_with fail
  go_region
  all_goals go_wp2
  all_goals go_end0
  all_goals exact ⟨rfl, H.out.1.heap rfl, H.out.2.heap rfl rfl rfl rfl⟩

end Go.Proofs.Ytahaflapkdjmhaa
