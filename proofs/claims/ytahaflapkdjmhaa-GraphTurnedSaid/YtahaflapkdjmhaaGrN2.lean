/-
  The walk of graph's mark, which calls itself. Conditions: few rows of few numbers; steps enough.
-/
import Derived.Test.YtahaflapkdjmhaaGrN
import Derived.Test.YtahaflapkdjmhaaGrM
namespace Go.Proofs.Ytahaflapkdjmhaa
open Go.RowKit

/-- What a walk has made of what was seen, as it goes on. -/
def MkI (nx : Nat → List Nat) (n f : Nat) (P R : List Nat) (ks : List Nat) (R0 : List Nat) : Prop := ks.foldl (fun S k => Gr.dfs nx f k S) (P ++ R0) = P ++ R ∧ (P ++ R).Nodup ∧ (∀ t ∈ P ++ R, t < n) ∧ n < f + (P ++ R).length

theorem MkI.step {nx : Nat → List Nat} {n f : Nat} {P R R0 ks R' : List Nat} {k : Nat} (hn : ∀ i, i < n → ∀ k ∈ nx i, k < n) (h : MkI nx n f P R ks R0) (hk : k < n) (hd : Gr.dfs nx f k (P ++ R) = P ++ R') : MkI nx n f P R' (ks ++ [k]) R0 := by
  obtain ⟨h1, h2, h3, h4⟩ := h
  have g := Gr.dfs_grown hn f k (P ++ R) hk h2 h3 h4
  rw [hd] at g
  obtain ⟨R2, e, _⟩ := g.eq
  refine ⟨?_, g.nodup, g.lt, ?_⟩
  · rw [List.foldl_append, h1]
    exact hd
  · rw [e, List.length_append]
    omega

theorem MkI.start {nx : Nat → List Nat} {n f : Nat} {P R : List Nat} {i : Nat} (hd : (P ++ R).Nodup) (hl : ∀ t ∈ P ++ R, t < n) (hf : n < f + 1 + (P ++ R).length) (hm : i ∉ P ++ R) (hi : i < n) : MkI nx n f P (R ++ [i]) (List.take 0 []) (R ++ [i]) := by
  refine ⟨rfl, ?_, ?_, ?_⟩
  · rw [← List.append_assoc, List.nodup_append]
    exact ⟨hd, by simp, fun a ha b hb => by rw [List.mem_singleton] at hb; rintro rfl; exact hm (hb ▸ ha)⟩
  · intro t ht
    rw [← List.append_assoc] at ht
    rcases List.mem_append.1 ht with h | h
    · exact hl t h
    · rw [List.mem_singleton.1 h]; exact hi
  · rw [← List.append_assoc, List.length_append]
    simp
    simp at hf
    omega
theorem MkP.le (s : Nat) : ∀ k, MkP s k → s ≤ k := by rintro k (h | h | h) <;> omega
theorem mk_cell0 {w : World} {s n : Nat} {nv vo : Value} {A : Option Addr} {c : Nat} {P R : List Nat} (h : MkS w s n nv vo A c P R) : w.cell? ⟨s, 0, none⟩ = some nv := (heap_cell h.nx 0).trans rfl
theorem mk_cell5 {w : World} {s n : Nat} {nv vo : Value} {A : Option Addr} {c : Nat} {P R : List Nat} (h : MkS w s n nv vo A c P R) : w.cell? ⟨s + 5, 0, none⟩ = some (.func (.func 26) #[] #[.pointer (some ⟨s + 4, 0, none⟩), .pointer (some ⟨s + 2, 0, none⟩), .pointer (some ⟨s + 1, 0, none⟩), .pointer (some ⟨s, 0, none⟩), .pointer (some ⟨s + 5, 0, none⟩)]) := (heap_cell h.mb 0).trans rfl

set_option maxHeartbeats 8000000 in
set_option maxRecDepth 1000000 in
theorem mark_any (rows : List (List Nat)) (n : Nat) (hrl : rows.length = n) (hn : n ≤ 20) (hr : ∀ r ∈ rows, ∀ k ∈ r, k < n) (hl : ∀ r ∈ rows, r.length ≤ 400) (s : Nat) (nv : Value) (w0 : World) (hx : RdG w0 s nv rows) :
    ∀ (f d i : Nat) (vo : Value) (A : Option Addr) (c : Nat) (P R : List Nat) (w : World), i < n → (P ++ R).Nodup → (∀ t ∈ P ++ R, t < n) → n < f + (P ++ R).length → d + f ≤ 900 → MkS w s n nv vo A c P R → Below s w0 w →
    Calls Try.prog 26 #[.int .i64 (i : Int), .int .i64 (d : Int), .pointer (some ⟨s + 4, 0, none⟩), .pointer (some ⟨s + 2, 0, none⟩), .pointer (some ⟨s + 1, 0, none⟩), .pointer (some ⟨s, 0, none⟩), .pointer (some ⟨s + 5, 0, none⟩)] w fun e w' => e = .returned (.tuple #[]) ∧ ∃ A' c' R', Gr.dfs (Gr.rowsF rows) f i (P ++ R) = P ++ R' ∧ MkS w' s n nv vo A' c' P R' ∧ KK (MkP s) w w' A A' := by
  have hnx : ∀ i, i < n → ∀ k ∈ Gr.rowsF rows i, k < n := fun i hi k hk => by
    have h1 : i < rows.length := by rw [hrl]; exact hi
    simp only [Gr.rowsF, List.getElem?_eq_getElem h1, Option.getD_some] at hk
    exact hr _ (List.getElem_mem h1) k hk
  have HNX := hid hnx
  have HX := hid hx
  have HRL := hid hrl
  have HR := hid hr
  have HLL := hid hl
  obtain ⟨bn, hnv, hbn, -⟩ := hx
  rw [hrl] at hnv
  subst hnv
  clear hnx hrl hr hl
  intro f
  induction f with
  | zero =>
    intro d i vo A c P R w hi hd hlt hf
    have := Gr.nodup_le n _ hd hlt
    omega
  | succ f ih =>
    intro d i vo A c P R w hi hd hlt hf hdf hM hB
    have HIH := hid ih
    clear ih
    have HM := hid hM
    have HB := hid hB
    have HD := hid hd
    have HLT := hid hlt
    have HF := hid hf
    have hsl := hM.lt
    have y0 : w.cell? ⟨s + 4, 0, none⟩ = some (.slice (some ⟨s + 3, 0, none⟩) n n) := (heap_cell hM.se 0).trans rfl
    obtain ⟨y1, y1f⟩ := hM.seen_at hi
    have hiz : (i : Int) < (n : Int) := by omega
    clear hd hlt hf hM hB
    by_cases hm : i ∈ P ++ R
    · rw [decide_eq_true hm] at y1
      have HMM := hid hm
      clear hm
      go_enter Try.func26, Try.ntmps26
      go_wp2_with fail
      first | go_end0 | refine bodyPost_ret (results_none rfl _ _ _) rfl ?_
      exact ⟨rfl, A, c, R, by rw [Gr.dfs, if_pos HMM.out], HM.out, KK.refl _ _ _⟩
    · rw [decide_eq_false hm] at y1
      have HMM := hid hm
      clear hm
      have hd1 : ((d : Int) == 1000) = false := by simp; omega
      obtain ⟨i0, hi0, hz0, hz1, hz2⟩ := info_parts info_int
      have hln : R.length ≤ n := Nat.le_trans (by simp) (Gr.nodup_le n _ HD.out HLT.out)
      have HR1 : Hid ((w.setCell ⟨s + 3, i, none⟩ (.bool true)).ownsRow s 3 1 (.slice A R.length c) R.length (numV R)) := hid (row_kept HM.out.row (fun g hg => by
        rw [ownBlock_slice] at hg
        exact Below.heap_setCell _ _ _ _ (by have := HM.out.far g hg; show g ≠ s + 3; omega)))
      have y2 : (w.setCell ⟨s + 3, i, none⟩ (.bool true)).cell? ⟨s + 1, 0, none⟩ = some (.slice A R.length c) := (heap_cell ((Below.heap_setCell _ _ _ _ (by show s + 1 ≠ s + 3; omega)).trans HM.out.re) 0).trans rfl
      have HAF : Hid (∀ o w2, ((w.setCell ⟨s + 3, i, none⟩ (.bool true)).alloc o).grownBy w2 (Value.slice A R.length c).ownBlock → w2.cell? ⟨s + 1, 0, none⟩ = some (.slice A R.length c) ∧ w2.frozen? ⟨s + 1, 0, none⟩ = false) := hid (fun o w2 hg => by
        have h1 : ((w.setCell ⟨s + 3, i, none⟩ (.bool true)).alloc o).heap[s + 1]? = some (.cells #[.slice A R.length c] 30 (0, 0)) := (Below.heap_alloc _ o (s + 1) (by simp; omega)).trans ((Below.heap_setCell _ _ _ _ (by show s + 1 ≠ s + 3; omega)).trans HM.out.re)
        have h2 := (hg.block (s + 1) (heap_lt h1) (by rw [ownBlock_slice]; intro e; have := HM.out.far (s + 1) e.symm; omega)).trans h1
        exact ⟨(heap_cell h2 0).trans rfl, heap_free h2 0⟩)
      have hir : i < rows.length := by rw [HRL.out]; exact hi
      have HKL := hid (HR.out _ (List.getElem_mem hir))
      have hk4 := HLL.out _ (List.getElem_mem hir)
      have HRF : Hid (Gr.rowsF rows i = rows[i]) := hid (by simp [Gr.rowsF, hir])
      have HVX := hid (fun (W : World) (hW : Below s w0 W) => HX.out.atv hW hir)
      have HVI := hid (fun (o : Obj) (w2 : World) (g' cap' : Nat) => HM.out.visit (w2 := w2) (o := o) (g' := g') (cap' := cap') hi)
      obtain ⟨ks, hks⟩ : ∃ ks, rows[i] = ks := ⟨_, rfl⟩
      rw [hks] at HKL HRF HVX hk4
      have HFAR := hid HM.out.far
      clear hks
      go_enter Try.func26, Try.ntmps26
      have HNW : Hid (∀ j u, [Value.int .i64 (i : Int)][j]? = some u → ((w.setCell ⟨s + 3, i, none⟩ (.bool true)).alloc (.cells #[.int .i64 (i : Int)] 3)).cell? ((⟨w.heap.size, 0, none⟩ : Addr).add j) = some u) := hid (by
        have := cell_one_new (w.setCell ⟨s + 3, i, none⟩ (.bool true)) (.int .i64 (i : Int)) 3
        rw [World.size_setCell] at this
        exact this)
      go_wp2_with (at_builtin; refine wpList_append_own_at _ rfl _ _ 30 rfl s 3 i0 (.int .i64 0) 1 8 Try.underlying30 hi0 hz0 hz1 hz2 rfl (by decide) _ _ _ rfl (HR1.out.alloc _) ⟨w.heap.size, 0, none⟩ 1 1 [.int .i64 (i : Int)] rfl rfl HNW.out (ints_oneCell .i64 [(i : Int)]) (by unfold maxLen; omega) (by omega) (by simp; omega) ?_; intro v' w2 hown' hgrow hnil hloc; obtain ⟨g', cap', rfl⟩ := row_succ hown'; obtain ⟨z1, z2⟩ := HAF.out _ _ hgrow; have HV := hid (HVI.out _ _ _ _ hown' hgrow hloc); clear hown' hgrow hnil hloc; have q0 := mk_cell0 HV.out.1; have HB3 := hid (HB.out.trans (HV.out.2.below (MkP.le s) (fun g hg => Nat.le_trans (by omega) (HFAR.out g hg)) (by omega))); obtain ⟨Ai, ci, -, x0, HKS⟩ := HVX.out _ HB3.out; have HKS := hid HKS)
      go_loopw [33] (fun vj wr => ∃ (j : Nat) (A1 : Option Addr) (c1 : Nat) (Rj : List Nat), vj = .int .i64 j ∧ j ≤ ks.length ∧ Hid (MkI (Gr.rowsF rows) n f P Rj (ks.take j) (R ++ [i])) ∧ MkS wr s n (.slice (some ⟨bn, 0, none⟩) n n) vo A1 c1 P Rj ∧ KK (MkP s) w wr A A1) (fun vj _ => ks.length - (intOf vj).toNat)
      case atStart => exact ⟨0, _, _, R ++ [i], rfl, by omega, hid (MkI.start HD.out HLT.out HF.out HMM.out hi), HV.out.1, HV.out.2⟩
      case round =>
        clear HV HB3 q0 x0 HVI HAF HR1 HNW
        obtain ⟨j, A1, c1, Rj, rfl, hj, hI, hM1, hK1⟩ := hrel
        have HM1 := hid hM1
        have HK1 := hid hK1
        have HB1 := hid (HB.out.trans (hK1.below (MkP.le s) (fun g hg => Nat.le_trans (by omega) (HFAR.out g hg)) (by omega)))
        clear hM1 hK1
        by_cases hjl : j < ks.length
        · have hjz : (j : Int) < (ks.length : Int) := by omega
          obtain ⟨bk, rfl, -, z0⟩ := HKS.out.atv HB1.out hjl
          have hql := HKL.out ks[j] (List.getElem_mem hjl)
          have HC := hid (HIH.out (d + 1) ks[j] vo A1 c1 P Rj wr hql hI.out.2.1 hI.out.2.2.1 hI.out.2.2.2 (by omega) HM1.out HB1.out)
          have HST := hid (fun R' => hI.out.step (R' := R') HNX.out hql)
          rw [← List.take_succ_eq_append_getElem hjl] at HST
          have q5 := mk_cell5 HM1.out
          rw [show ((d + 1 : Nat) : Int) = (d : Int) + 1 by omega] at HC
          obtain ⟨q, hq⟩ : ∃ q, ks[j] = q := ⟨_, rfl⟩
          simp only [hq] at z0 hql HC HST
          clear hq
          go_wp2_with fail
          refine (HC.out).mono ?_
          rintro e w4 ⟨rfl, A2, c2, R2, hd2, hM2, hK2⟩
          have HE := hid (show MkI (Gr.rowsF rows) n f P R2 (ks.take (j + 1)) (R ++ [i]) ∧ MkS w4 s n (.slice (some ⟨bn, 0, none⟩) n n) vo A2 c2 P R2 ∧ KK (MkP s) w w4 A A2 from ⟨HST.out R2 hd2, hM2, HK1.out.trans hK2⟩)
          clear hd2 hM2 hK2
          go_wp2_with fail
          go_roundw
          case rel => exact ⟨j + 1, A2, c2, R2, by go_num, by omega, hid HE.out.1, HE.out.2.1, HE.out.2.2⟩
          case measure => simp [intOf]; omega
        · have hjz : ¬ (j : Int) < (ks.length : Int) := by omega
          have HE := hid (show Gr.dfs (Gr.rowsF rows) (f + 1) i (P ++ R) = P ++ Rj from by
            have e : j = ks.length := by omega
            subst e
            have h1 := hI.out.1
            rw [List.take_length] at h1
            rw [Gr.dfs, if_neg HMM.out, HRF.out, List.append_assoc]
            exact h1)
          clear hI
          go_wp2_with fail
          go_end0
          exact ⟨rfl, A1, c1, Rj, HE.out, HM1.out, HK1.out⟩

end Go.Proofs.Ytahaflapkdjmhaa
