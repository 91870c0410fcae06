/-
  The walks of slices.Index, Contains at numbers, of slices.Backward and of what it returns. Conditions: slices that read as numbers.
-/
import Derived.Test.YtahaflapkdjmhaaGrP3
import Derived.RangeFuncNested
import Derived.RangeFuncBound
import Derived.RangeFuncCalls
import Derived.RangeFuncLeaves
import Derived.RangeFuncBox
import Derived.Shelf.RegionOpen
import Derived.OwnWalkIn
import Derived.TacticsInMore
import Derived.LoopNIn
import Derived.LoopIn
namespace Go.Proofs.Ytahaflapkdjmhaa
open Go.RowKit
attribute [local go_sem] Oper.semAt_some

/-- The place of a number in a row; below 0: it is not there. -/
def Gr.idx (x : Nat) : List Nat → Nat → Int
  | [], _ => -1
  | a :: l, k => if a = x then (k : Int) else Gr.idx x l (k + 1)
theorem Gr.idx_mem (x : Nat) : ∀ (l : List Nat) (k : Nat), decide (0 ≤ Gr.idx x l k) = decide (x ∈ l)
  | [], _ => by simp [Gr.idx]
  | a :: l, k => by
    rw [Gr.idx]
    by_cases e : a = x
    · simp [e]
    · have : ¬ x = a := fun h => e h.symm
      rw [if_neg e, Gr.idx_mem x l]
      simp [this]

set_option maxHeartbeats 2000000 in
set_option maxRecDepth 100000 in
theorem index_any (l : List Nat) (x : Nat) (v : Value) (w : World) (hx : RdN w w.heap.size v l) (hl : l.length ≤ 1000) :
    Calls Try.prog 30 #[v, .int .i64 (x : Int)] w fun e w' => e = .returned (.int .i64 (Gr.idx x l 0)) ∧ w = w' := by
  have HX := hid hx
  obtain ⟨A, cap, rfl, -, -, -⟩ := hx
  go_enter Try.func30, Try.ntmps30
  go_wp2
  go_loop [8] (fun vi => ∃ k : Nat, vi = .int .i64 k ∧ k ≤ l.length ∧ Hid (Gr.idx x (l.drop k) k = Gr.idx x l 0)) (fun vi => l.length - (intOf vi).toNat)
  case atStart => exact ⟨0, rfl, by omega, hid rfl⟩
  case round =>
    obtain ⟨k, rfl, hk, hE⟩ := hrel
    by_cases hlt : k < l.length
    · have hkz : (k : Int) < (l.length : Int) := by omega
      obtain ⟨b, rfl, -, x0⟩ := HX.out.atv (Below.refl _ _) hlt
      have hst := hE.out
      rw [List.drop_eq_getElem_cons hlt, Gr.idx] at hst
      obtain ⟨t, ht⟩ : ∃ t, t = l[k] := ⟨_, rfl⟩
      rw [← ht] at x0 hst
      clear ht hE
      by_cases g : t = x
      · have e1 : ((x : Int) == (t : Int)) = true := by simp [g]
        rw [if_pos g] at hst
        have HV := hid hst
        clear hst g
        go_wp2
        go_ret
        exact ⟨ret_int HV.out, rfl⟩
      · have e1 : ((x : Int) == (t : Int)) = false := by simp; omega
        rw [if_neg g] at hst
        have HV := hid hst
        clear hst g
        go_wp2
        go_round
        case rel => exact ⟨k + 1, by go_num, by omega, HV⟩
        case measure => simp [intOf]; omega
    · have hkz : ¬ (k : Int) < (l.length : Int) := by omega
      have HV : Hid (Gr.idx x l 0 = -1) := hid (by rw [← hE.out, List.drop_eq_nil_of_le (by omega)]; rfl)
      clear hE
      go_wp2
      go_ret
      exact ⟨ret_int HV.out.symm, rfl⟩

set_option maxHeartbeats 2000000 in
set_option maxRecDepth 100000 in
theorem contains_any (l : List Nat) (x : Nat) (v : Value) (w : World) (hx : RdN w w.heap.size v l) (hl : l.length ≤ 1000) :
    Calls Try.prog 23 #[v, .int .i64 (x : Int)] w fun e w' => e = .returned (.bool (decide (x ∈ l))) ∧ w = w' := by
  have HC := hid (index_any l x v w hx hl)
  have HE := hid (Gr.idx_mem x l 0)
  obtain ⟨A, cap, rfl, -, -, -⟩ := hx
  go_enter Try.func23, Try.ntmps23
  go_wp2_with fail
  refine (HC.out).mono ?_
  rintro e w1 ⟨rfl, rfl⟩
  go_wp2_with fail
  go_ret
  exact ⟨ret_bool (by have := HE.out; simpa using this), rfl⟩

theorem backward_any (A : Option Addr) (len cap : Nat) (w : World) :
    Calls Try.prog 21 #[.slice A len cap] w fun e w' => e = .returned (.func (.func 28) #[] #[.pointer (some ⟨w.heap.size, 0, none⟩)]) ∧ w.alloc (.cells #[.slice A len cap] 30) = w' := by
  go_enter Try.func21, Try.ntmps21
  go_wp2
  go_ret
  exact ⟨rfl, rfl⟩

/-- What a round is handed: an index, a number below n. -/
def BkE (n : Nat) : Type := { x : Nat × Nat // x.2 < n }
def bkV {n : Nat} (x : BkE n) : Nat := x.1.2
def bkMk {n : Nat} (i v : Nat) (h : v < n) : BkE n := ⟨(i, v), h⟩
def bkEnc {n : Nat} (x : BkE n) : Array Value := #[.int .i64 ((x.1.1 : Nat) : Int), .int .i64 ((x.1.2 : Nat) : Int)]

/-- What the iterator reads stays: its box, its row. -/
def KB (Bs : Nat) (A : Option Addr) (W W' : World) : Prop := W'.heap[Bs]? = W.heap[Bs]? ∧ ∀ g, A.map (·.block) = some g → W'.heap[g]? = W.heap[g]?
theorem KB.refl (Bs : Nat) (A : Option Addr) (W : World) : KB Bs A W W := ⟨rfl, fun _ _ => rfl⟩
theorem KB.trans {Bs : Nat} {A : Option Addr} {a b c : World} (h : KB Bs A a b) (k : KB Bs A b c) : KB Bs A a c := ⟨k.1.trans h.1, fun g hg => (k.2 g hg).trans (h.2 g hg)⟩

set_option maxRecDepth 100000 in
set_option maxHeartbeats 2000000 in
theorem back1_in (n : Nat) (F : Fence) (m : Nat) (h43 : F.fn 28) (hro : F.round = none) (hm : 1 ≤ m) (l Bs : Nat) (D : List Nat) (hD : D.length ≤ 1000) (hDn : ∀ d ∈ D, d < n) (A : Option Addr) (cap : Nat) (J Jx : List (BkE n) → World → Prop)
    (hY : ∀ pre x W, J pre W → pre.length < D.length → YieldAt F (m - 1) Try.prog l (bkEnc x) W fun e W' =>
      (e = .returned (.bool true) ∧ J (pre ++ [x]) W' ∧ KB Bs A W W') ∨ (e = .returned (.bool false) ∧ Jx (pre ++ [x]) W'))
    (W : World) (hBs : W.cell? ⟨Bs, 0, none⟩ = some (.slice A D.length cap)) (hR : RdN W W.heap.size (.slice A D.length cap) D) (h0 : J [] W) :
    CallsIn F m Try.prog 28 #[.func (.yield l) #[] #[], .pointer (some ⟨Bs, 0, none⟩)] W fun e W' => (∃ v, e = .returned v) ∧
      ((∃ ys, ys.map bkV = D.reverse ∧ J ys W') ∨ (∃ pre, True ∧ Jx pre W')) := by
  have HR := hid hR
  have HDn := hid hDn
  clear hR hDn
  refine callsIn_of_wp Try.func28 rfl h43 ?_ hro
  simp only [Try.ntmps28, List.size_toArray, List.length_cons, List.length_nil, Nat.reduceAdd, Nat.reduceSub, Array.replicate_succ, Array.replicate_zero, List.push_toArray, List.append_toArray, List.nil_append, List.cons_append]
  gi_wp2
  gi_loopw [3] (fun i wr => ∃ (q : Nat) (z : Int) (pre : List (BkE n)), i = .int .i64 z ∧ q ≤ D.length ∧ Hid (z = (q : Int) - 1 ∧ pre.map bkV = (D.drop q).reverse) ∧ pre.length = D.length - q ∧ J pre wr ∧ KB Bs A W wr)
    (fun i _ => (intOf i + 1).toNat)
  case atStart => exact ⟨D.length, _, [], rfl, Nat.le_refl _, hid ⟨rfl, by simp⟩, by simp, h0, KB.refl _ _ _⟩
  case round =>
    obtain ⟨q, z, pre, rfl, hq, hE, hpl, hJs, hnx⟩ := hrel
    have hbx : wr.cell? ⟨Bs, 0, none⟩ = some (.slice A D.length cap) := (World.cell?_of_block (a := ⟨Bs, 0, none⟩) hnx.1).trans hBs
    cases q with
    | zero =>
      have hz : ¬ (0 : Int) ≤ z := by have := hE.out.1; omega
      have HJ := hid hJs
      clear hpl hJs
      gi_wp2
      go_end0
      exact ⟨⟨_, rfl⟩, .inl ⟨pre, by have := hE.out.2; simpa using this, HJ.out⟩⟩
    | succ q =>
      have hqz : z = (q : Int) := by have := hE.out.1; omega
      subst hqz
      have hql : q < D.length := by omega
      obtain ⟨b, rfl, hb, x0w⟩ := HR.out.atv (Below.refl _ _) hql
      have x0 : wr.cell? ⟨b, q, none⟩ = some (.int .i64 (D[q] : Int)) := (World.cell?_of_block (a := ⟨b, q, none⟩) (hnx.2 b rfl)).trans x0w
      clear x0w
      have hdn := HDn.out _ (List.getElem_mem hql)
      have hqz2 : (q : Int) < (D.length : Int) := by omega
      obtain ⟨fn, tmps, assign, body, hy, hRR⟩ := hY pre (bkMk q D[q] hdn) wr hJs (by omega)
      dsimp only [bkEnc, bkMk] at hy
      have HE := hid (show (pre ++ [bkMk q D[q] hdn]).map bkV = (D.drop q).reverse from by
        rw [List.map_append, hE.out.2, List.drop_eq_getElem_cons hql, List.reverse_cons]
        rfl)
      have HL := hid hpl
      clear hE hpl
      gi_wp2
      refine hRR.mono ?_
      rintro e W3 (⟨rfl, hJ3, hk3⟩ | ⟨rfl, hJx3⟩)
      · gi_wp2
        go_roundw
        case rel => exact ⟨q, _, _, rfl, by omega, hid ⟨rfl, HE.out⟩, by have := HL.out; rw [List.length_append, List.length_singleton]; omega, hJ3, hnx.trans hk3⟩
        case measure => simp [intOf]
      · gi_wp2
        refine bodyPost_ret (results_none rfl _ _ _) rfl ?_
        exact ⟨⟨_, rfl⟩, .inr ⟨_, trivial, hJx3⟩⟩

end Go.Proofs.Ytahaflapkdjmhaa
