/-
  The walks of graph's marker and of what it returns. Conditions: few rows of few numbers.
-/
import Derived.Test.YtahaflapkdjmhaaGrN2
import Derived.Laws.EntriesVeiled
import Derived.Deep.LoopGhost
import Derived.Deep.OwnRows
namespace Go.Proofs.Ytahaflapkdjmhaa
open Go.RowKit Go.Deep

section
variable {w : World} {s n : Nat} {nv vo : Value} {A : Option Addr} {c : Nat} {P R : List Nat}
theorem MkS.setOp (h : MkS w s n nv vo A c P R) (v : Value) : MkS (w.setCell ⟨s + 2, 0, none⟩ v) s n nv v A c P R where
  nx := (Below.heap_setCell _ _ _ _ (by show s ≠ s + 2; omega)).trans h.nx
  re := (Below.heap_setCell _ _ _ _ (by show s + 1 ≠ s + 2; omega)).trans h.re
  op := one_setCell h.op
  se := (Below.heap_setCell _ _ _ _ (by show s + 4 ≠ s + 2; omega)).trans h.se
  mb := (Below.heap_setCell _ _ _ _ (by show s + 5 ≠ s + 2; omega)).trans h.mb
  seen := row_kept h.seen (fun g hg => by
    simp only [Value.ownBlock, Option.some.injEq] at hg
    subst hg
    exact Below.heap_setCell _ _ _ _ (by show s + 3 ≠ s + 2; omega))
  row := row_kept h.row (fun g hg => by
    rw [ownBlock_slice] at hg
    exact Below.heap_setCell _ _ _ _ (by have := h.far g hg; show g ≠ s + 2; omega))
  far := h.far
theorem MkS.setRe (h : MkS w s n nv vo A c P R) : MkS (w.setCell ⟨s + 1, 0, none⟩ (.slice none 0 0)) s n nv vo none 0 (P ++ R) [] where
  nx := (Below.heap_setCell _ _ _ _ (by show s ≠ s + 1; omega)).trans h.nx
  re := one_setCell h.re
  op := (Below.heap_setCell _ _ _ _ (by show s + 2 ≠ s + 1; omega)).trans h.op
  se := (Below.heap_setCell _ _ _ _ (by show s + 4 ≠ s + 1; omega)).trans h.se
  mb := (Below.heap_setCell _ _ _ _ (by show s + 5 ≠ s + 1; omega)).trans h.mb
  seen := by
    rw [List.append_nil]
    exact row_kept h.seen (fun g hg => by
      simp only [Value.ownBlock, Option.some.injEq] at hg
      subst hg
      exact Below.heap_setCell _ _ _ _ (by show s + 3 ≠ s + 1; omega))
  row := World.ownsRow_nil _ _ _ _
  far := fun g hg => by simp at hg
theorem MkS.c1 (h : MkS w s n nv vo A c P R) : w.cell? ⟨s + 1, 0, none⟩ = some (.slice A R.length c) ∧ w.frozen? ⟨s + 1, 0, none⟩ = false := ⟨(heap_cell h.re 0).trans rfl, heap_free h.re 0⟩
theorem MkS.c2 (h : MkS w s n nv vo A c P R) : w.cell? ⟨s + 2, 0, none⟩ = some vo ∧ w.frozen? ⟨s + 2, 0, none⟩ = false := ⟨(heap_cell h.op 0).trans rfl, heap_free h.op 0⟩
end
theorem KK.set {P : Nat → Prop} {w w1 : World} {A A1 : Option Addr} (h : KK P w w1 A A1) (k : Nat) (hk : P k) (v : Value) : KK P w (w1.setCell ⟨k, 0, none⟩ v) A A1 :=
  ⟨h.os, h.tape, h.output, by simpa using h.size, fun j hj hP hA => (Below.heap_setCell _ _ _ _ (fun e => hP (by rw [show j = k from e]; exact hk))).trans (h.block j hj hP hA), h.loc⟩
theorem KK.alloc (P : Nat → Prop) (w : World) (A : Option Addr) (o : Obj) : KK P w (w.alloc o) A A := ⟨rfl, rfl, rfl, by simp, fun k hk _ _ => Below.heap_alloc w o k hk, Or.inl rfl⟩
theorem KK.none {P : Nat → Prop} {w w1 : World} {A A1 : Option Addr} (h : KK P w w1 A A1) : KK P w w1 A Option.none := ⟨h.os, h.tape, h.output, h.size, h.block, Or.inr (Or.inl rfl)⟩

set_option maxHeartbeats 8000000 in
set_option maxRecDepth 1000000 in
theorem walk_any (rows : List (List Nat)) (n : Nat) (hrl : rows.length = n) (hn : n ≤ 20) (hr : ∀ r ∈ rows, ∀ k ∈ r, k < n) (hl : ∀ r ∈ rows, r.length ≤ 400) (s : Nat) (nv : Value) (w0 : World) (hx : RdG w0 s nv rows)
    {vo : Value} {A : Option Addr} {c : Nat} {P R : List Nat} {w : World} (i : Nat) (hi : i < n) (hd : (P ++ R).Nodup) (hlt : ∀ t ∈ P ++ R, t < n) (hM : MkS w s n nv vo A c P R) (hB : Below s w0 w) (hvo : ∃ a b c, vo = .slice a b c) :
    Calls Try.prog 27 #[.int .i64 (i : Int), .pointer (some ⟨s + 1, 0, none⟩), .pointer (some ⟨s + 2, 0, none⟩), .pointer (some ⟨s + 5, 0, none⟩)] w fun e w' => ∃ vo' A' c' R', e = .returned (.slice A' R'.length c') ∧ Gr.dfs (Gr.rowsF rows) (n + 1) i (P ++ R) = P ++ R ++ R' ∧ MkS w' s n nv vo' A' c' (P ++ R) R' ∧ KK (MkP s) w w' A A' ∧ ∃ a b c, vo' = .slice a b c := by
  have hM0 := hM.alloc (.cells #[.int .i64 (i : Int)] 3)
  obtain ⟨a0, b0, c0, rfl⟩ := hvo
  have hM1 := hM0.setRe.setOp (.slice (some ⟨w.heap.size, 0, none⟩) 1 1)
  have hsl := hM.lt
  have hfar := hM.far
  have hK1 := (((KK.alloc (MkP s) w A (.cells #[.int .i64 (i : Int)] 3)).set (s + 1) (Or.inl rfl) (.slice none 0 0)).set (s + 2) (Or.inr (Or.inl rfl)) (.slice (some ⟨w.heap.size, 0, none⟩) 1 1)).none
  have hL1 : ((((w.alloc (.cells #[.int .i64 (i : Int)] 3)).setCell ⟨s + 1, 0, none⟩ (.slice none 0 0)).setCell ⟨s + 2, 0, none⟩ (.slice (some ⟨w.heap.size, 0, none⟩) 1 1))).heap[w.heap.size]? = some (.cells #[.int .i64 (i : Int)] 3 (0, 0)) := by
    rw [Below.heap_setCell _ _ _ _ (by show w.heap.size ≠ s + 2; omega), Below.heap_setCell _ _ _ _ (by show w.heap.size ≠ s + 1; omega)]
    exact heap_alloc_new w _
  have r1 : (w.alloc (.cells #[.int .i64 (i : Int)] 3)).cell? ⟨s + 1, 0, none⟩ = some (.slice A R.length c) := hM0.c1.1
  have r2 : (w.alloc (.cells #[.int .i64 (i : Int)] 3)).frozen? ⟨s + 1, 0, none⟩ = false := hM0.c1.2
  have r3 : ((w.alloc (.cells #[.int .i64 (i : Int)] 3)).setCell ⟨s + 1, 0, none⟩ (.slice none 0 0)).cell? ⟨s + 2, 0, none⟩ = some (.slice a0 b0 c0) := hM0.setRe.c2.1
  have r4 : ((w.alloc (.cells #[.int .i64 (i : Int)] 3)).setCell ⟨s + 1, 0, none⟩ (.slice none 0 0)).frozen? ⟨s + 2, 0, none⟩ = false := hM0.setRe.c2.2
  have HM1 := hid hM1
  have HK1 := hid hK1
  have HL1 := hid hL1
  have HB := hid hB
  have HFAR := hid hfar
  have HMK := hid (mark_any rows n hrl hn hr hl s nv w0 hx)
  have HD := hid hd
  have HLT := hid hlt
  clear hM0 hM1 hK1 hL1 hB hM hx hrl hr hl hd hlt hfar
  go_enter Try.func27, Try.ntmps27
  go_wp2_with fail
  go_loopg [6] 1 (fun g v wr => (g = 1 ∧ MkS wr s n nv (.slice (some ⟨w.heap.size, 0, none⟩) 1 1) none 0 (P ++ R) [] ∧ wr.heap[w.heap.size]? = some (.cells #[.int .i64 (i : Int)] 3 (0, 0)) ∧ KK (MkP s) w wr A none) ∨ (g = 0 ∧ ∃ A' c' R', Gr.dfs (Gr.rowsF rows) (n + 1) i (P ++ R) = P ++ R ++ R' ∧ MkS wr s n nv (.slice (some ⟨w.heap.size, 0, none⟩) 0 1) A' c' (P ++ R) R' ∧ KK (MkP s) w wr A A'))
  case atStart => exact Or.inl ⟨rfl, HM1.out, HL1.out, HK1.out⟩
  case round =>
    clear HM1 HK1 HL1 r1 r2 r3 r4
    rcases hrel with ⟨hg, hM, hL, hK⟩ | ⟨hg, A', c', R', hd, hM, hK⟩
    · have HG := hid hg
      have HM2 := hid (hM.setOp (.slice (some ⟨w.heap.size, 0, none⟩) 0 1))
      have HK2 := hid (hK.set (s + 2) (Or.inr (Or.inl rfl)) (.slice (some ⟨w.heap.size, 0, none⟩) 0 1))
      have HC := hid (HMK.out (n + 1) 0 i _ _ _ (P ++ R) [] _ hi (by simpa using HD.out) (by simpa using HLT.out) (by omega) (by omega) HM2.out (HB.out.trans (HK2.out.below (MkP.le s) (fun g hg => Nat.le_trans (by omega) (HFAR.out g hg)) (by omega))))
      obtain ⟨q1, q2⟩ := hM.c2
      have q3 : wr.cell? ⟨w.heap.size, 0, none⟩ = some (.int .i64 (i : Int)) := (heap_cell hL 0).trans rfl
      have q5 : (wr.setCell ⟨s + 2, 0, none⟩ (.slice (some ⟨w.heap.size, 0, none⟩) 0 1)).cell? ⟨s + 5, 0, none⟩ = some (.func (.func 26) #[] #[.pointer (some ⟨s + 4, 0, none⟩), .pointer (some ⟨s + 2, 0, none⟩), .pointer (some ⟨s + 1, 0, none⟩), .pointer (some ⟨s, 0, none⟩), .pointer (some ⟨s + 5, 0, none⟩)]) := mk_cell5 HM2.out
      clear hM hL hK hg
      go_wp2_with fail
      refine (HC.out).mono ?_
      rintro e w4 ⟨rfl, A2, c2, R2, hd2, hM2, hK2⟩
      have HE := hid (show Gr.dfs (Gr.rowsF rows) (n + 1) i (P ++ R) = P ++ R ++ R2 ∧ MkS w4 s n nv (.slice (some ⟨w.heap.size, 0, none⟩) 0 1) A2 c2 (P ++ R) R2 ∧ KK (MkP s) w w4 A A2 from ⟨by rw [List.append_nil] at hd2; exact hd2, hM2, HK2.out.trans hK2⟩)
      clear hd2 hM2 hK2
      go_wp2_with fail
      go_roundg 0
      case measure => have := HG.out; omega
      case rel => exact Or.inr ⟨rfl, A2, c2, R2, HE.out⟩
    · obtain ⟨q1, -⟩ := hM.c2
      obtain ⟨q2, -⟩ := hM.c1
      have HE := hid (show Gr.dfs (Gr.rowsF rows) (n + 1) i (P ++ R) = P ++ R ++ R' ∧ MkS wr s n nv (.slice (some ⟨w.heap.size, 0, none⟩) 0 1) A' c' (P ++ R) R' ∧ KK (MkP s) w wr A A' from ⟨hd, hM, hK⟩)
      clear hd hM hK hg
      go_wp2_with fail
      go_ret
      exact ⟨_, A', c', R', rfl, HE.out.1, HE.out.2.1, HE.out.2.2, _, _, _, rfl⟩

end Go.Proofs.Ytahaflapkdjmhaa
