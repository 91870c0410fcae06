/-
  The walk of graph's reversed. Conditions: few rows of few numbers, each below their number.
-/
import Derived.Test.YtahaflapkdjmhaaGrC2
namespace Go.Proofs.Ytahaflapkdjmhaa
open Go.RowKit Go.Maps Go.Deep

namespace Gr
theorem turnRow_len (b : Nat → List Nat) (i x : Nat) (ks : List Nat) : (turnRow b i ks x).length ≤ (b x).length + ks.length := by
  rw [turnRow_eq, List.length_append, List.length_replicate]
  have := List.count_le_length (a := x) (l := ks)
  omega
theorem turnAll_len (x : Nat) : ∀ (rows : List (List Nat)) (b : Nat → List Nat) (j : Nat), (∀ r ∈ rows, r.length ≤ 20) → (turnAll b j rows x).length ≤ (b x).length + 20 * rows.length
  | [], _, _, _ => by simp [turnAll]
  | r :: rows, b, j, h => by
    rw [turnAll, List.length_cons]
    have h1 := turnAll_len x rows (turnRow b j r) (j + 1) (fun r hr => h r (by simp [hr]))
    have h2 := turnRow_len b j x r
    have h3 := h r (by simp)
    omega
/-- The rows when k rows, and j numbers of the next one, have been turned. -/
def turnF (rows : List (List Nat)) (k : Nat) (ks : List Nat) (j : Nat) : Nat → List Nat := turnRow (turnAll (fun _ => []) 0 (rows.take k)) k (ks.take j)
def backL (rows : List (List Nat)) : List (List Nat) := (List.range rows.length).map (turned rows)
theorem turnF_start (rows : List (List Nat)) (k : Nat) (ks : List Nat) (i : Nat) : turnAll (fun _ => []) 0 (rows.take k) i = turnF rows k ks 0 i := by simp [turnF, turnRow]
theorem turnF_put (rows : List (List Nat)) (k : Nat) (ks : List Nat) (j q : Nat) (hj : j < ks.length) (hq : ks[j] = q) (i : Nat) : putR (turnF rows k ks j) q k i = turnF rows k ks (j + 1) i := by
  rw [turnF, turnF, List.take_succ_eq_append_getElem hj, turnRow_snoc, hq]
theorem turnF_end (rows : List (List Nat)) (k : Nat) (hk : k < rows.length) {ks : List Nat} (e : rows[k] = ks) (i : Nat) : turnF rows k ks ks.length i = turnAll (fun _ => []) 0 (rows.take (k + 1)) i := by
  subst e
  rw [turnF, List.take_length, List.take_succ_eq_append_getElem hk, turnAll_snoc]
  simp [Nat.min_eq_left (Nat.le_of_lt hk)]
theorem turnF_len (rows : List (List Nat)) (k : Nat) (ks : List Nat) (j q : Nat) (hr : ∀ r ∈ rows, r.length ≤ 20) (hn : rows.length ≤ 20) (hk : ks.length ≤ 20) : (turnF rows k ks j q).length ≤ 1000 := by
  have h1 := turnRow_len (turnAll (fun _ => []) 0 (rows.take k)) k q (ks.take j)
  have h2 := turnAll_len q (rows.take k) (fun _ => []) 0 (fun r h => hr r (List.mem_of_mem_take h))
  have h3 := List.length_take_le j ks
  have h4 := List.length_take_le k rows
  rw [List.length_take] at h1 h2
  simp only [List.length_nil] at h2
  unfold turnF
  omega
theorem backL_length (rows : List (List Nat)) : (backL rows).length = rows.length := by simp [backL]
theorem backL_at (rows : List (List Nat)) (i : Nat) (hi : i < (backL rows).length) : turnAll (fun _ => []) 0 rows i = (backL rows)[i] := by simp [backL, turned]
theorem backL_rows (rows : List (List Nat)) (i : Nat) (hi : i < rows.length) : rowsF (backL rows) i = turned rows i := by simp [rowsF, backL, hi]
theorem backL_lt (rows : List (List Nat)) : ∀ r ∈ backL rows, ∀ k ∈ r, k < (backL rows).length := by
  intro r hr k hk
  simp only [backL, List.mem_map, List.mem_range] at hr
  obtain ⟨i, _, rfl⟩ := hr
  rw [backL_length]
  exact turned_lt rows i k hk
theorem backL_few (rows : List (List Nat)) (hr : ∀ r ∈ rows, r.length ≤ 20) (hn : rows.length ≤ 20) : ∀ r ∈ backL rows, r.length ≤ 400 := by
  intro r h
  simp only [backL, List.mem_map, List.mem_range] at h
  obtain ⟨i, _, rfl⟩ := h
  have := turnAll_len i rows (fun _ => []) 0 hr
  simp only [List.length_nil] at this
  unfold turned
  omega
end Gr

set_option maxHeartbeats 4000000 in
set_option maxRecDepth 100000 in
theorem reversed_any (rows : List (List Nat)) (hr : ∀ r ∈ rows, ∀ k ∈ r, k < rows.length) (hl : ∀ r ∈ rows, r.length ≤ 20) (hn : rows.length ≤ 20) (v : Value) (w : World) (hx : RdG w w.heap.size v rows) :
    Calls Try.prog 14 #[v] w fun e w' => ∃ r, e = .returned r ∧ RdG w' w'.heap.size r (Gr.backL rows) ∧ Below w.heap.size w w' := by
  have HX := hid hx
  have HR := hid hr
  have HL := hid hl
  clear hr hl
  obtain ⟨i0, hi, hz0, hz1, hz2⟩ := info_parts info_int
  obtain ⟨bo, rfl, hbo, -⟩ := hx
  have hmk := run_make_row' (P := Try.prog) 40 30 (.slice none 0 0) 24 Try.underlying40 info_ints rfl .i64 .i64 rows.length (by omega) (by omega)
  go_enter Try.func14, Try.ntmps14
  go_wp2
  go_loopw [13] (fun vi wr => ∃ (k : Nat) (AA : Nat → Option Addr) (CC : Nat → Nat), vi = .int .i64 k ∧ k ≤ rows.length ∧ OwnG wr w.heap.size w.heap.size rows.length AA CC (Gr.turnAll (fun _ => []) 0 (rows.take k)) ∧ Below w.heap.size w wr) (fun vi _ => rows.length - (intOf vi).toNat)
  case atStart => exact ⟨0, _, _, rfl, by omega, (OwnG.made w rows.length (by omega)).congr (fun i => rfl), below_new _⟩
  case round =>
    obtain ⟨k, AA, CC, rfl, hk, hO, hbel⟩ := hrel
    obtain ⟨wo, hwo⟩ : ∃ wo : World, wo = wr := ⟨_, rfl⟩
    subst hwo
    have hsz := hO.lt.2
    by_cases hlt : k < rows.length
    · have hkz : (k : Int) < (rows.length : Int) := by omega
      obtain ⟨b', Ai, ci, hv, hb, x0, hS⟩ := HX.out.at_ hbel hlt
      simp only [Value.slice.injEq, Option.some.injEq, Addr.mk.injEq, and_true] at hv
      subst hv
      have hil := HL.out rows[k] (List.getElem_mem hlt)
      have his := HR.out rows[k] (List.getElem_mem hlt)
      have hcut : ∀ ks : List Nat, ks.length ≤ 20 → ∀ j q, (Gr.turnF rows k ks j q).length ≤ 1000 := fun ks h j q => Gr.turnF_len rows k ks j q HL.out hn h
      obtain ⟨ks, hni⟩ : ∃ ks, rows[k] = ks := ⟨_, rfl⟩
      rw [hni] at x0 hS hil his
      have HEND := hid (Gr.turnF_end rows k hlt hni)
      have HIS := hid his
      have HCUT := hid (hcut ks hil)
      have HS := hid hS
      have HO := hid (hO.congr (Gr.turnF_start rows k ks))
      have HB0 := hid hbel
      clear hni his hS hO hbel hcut
      go_wp2
      go_loopw [20] (fun vj wi => ∃ (j : Nat) (AA : Nat → Option Addr) (CC : Nat → Nat), vj = .int .i64 j ∧ j ≤ ks.length ∧ OwnG wi w.heap.size w.heap.size rows.length AA CC (Gr.turnF rows k ks j) ∧ Below w.heap.size w wi) (fun vj _ => ks.length - (intOf vj).toNat)
      case atStart => exact ⟨0, AA, CC, rfl, by omega, HO.out, HB0.out⟩
      case round =>
        obtain ⟨j, A2, C2, rfl, hj, hO, hbel⟩ := hrel
        obtain ⟨wj, hwj⟩ : ∃ wj : World, wj = wr := ⟨_, rfl⟩
        subst hwj
        have hsz2 := hO.lt.2
        by_cases hjl : j < ks.length
        · have hjz : (j : Int) < (ks.length : Int) := by omega
          obtain ⟨b2, c', hv, hb2, y0⟩ := HS.out.at_ hbel hjl
          simp only [Value.slice.injEq, true_and] at hv
          obtain ⟨rfl, rfl⟩ := hv
          have hq := HIS.out ks[j] (List.getElem_mem hjl)
          obtain ⟨q, hqe⟩ : ∃ q, ks[j] = q := ⟨_, rfl⟩
          rw [hqe] at y0 hq
          have HP := hid (Gr.turnF_put rows k ks j q hjl hqe)
          clear hqe
          have hqz : (q : Int) < (rows.length : Int) := by omega
          have HO := hid hO
          have HB := hid hbel
          have hll := HCUT.out j q
          obtain ⟨y1, y2⟩ := hO.cell hq
          have HRR := hid (hO.row q hq)
          have HAF := hid (fun (o : Obj) (w1 : World) => hO.after (o := o) (w1 := w1) hq)
          obtain ⟨xs, hxs⟩ : ∃ xs, xs = Gr.turnF rows k ks j q := ⟨_, rfl⟩
          rw [← hxs] at y1 HRR HAF hll
          clear hO hbel
          have HXS := hid hxs
          clear hxs
          go_wp2_with (at_builtin; refine wpList_append_own_at _ rfl _ _ 30 rfl w.heap.size 3 i0 (.int .i64 0) 1 8 Try.underlying30 hi hz0 hz1 hz2 rfl (by decide) _ _ _ rfl (HRR.out.alloc _) ⟨wj.heap.size, 0, none⟩ 1 1 [.int .i64 (k : Int)] rfl rfl (cell_one_new _ _ _) (ints_oneCell .i64 [(k : Int)]) (by unfold maxLen; omega) (by omega) (by simp; omega) ?_; intro v' w1 hown' hgrow hnil hloc; obtain ⟨g', cap', rfl⟩ := row_succ hown'; obtain ⟨z1, z2, z3⟩ := HAF.out _ _ hgrow)
          go_roundw
          case rel =>
            have e2 := HXS.out
            subst e2
            exact ⟨j + 1, _, _, by go_num, by omega, (HO.out.push hq hown' hgrow hloc).congr HP.out, (HB.out.trans z3).setCell (Nat.le_refl _) _⟩
          case measure => simp [intOf]; omega
        · have hjz : ¬ (j : Int) < (ks.length : Int) := by omega
          have HO := hid hO
          have HB := hid hbel
          clear hO hbel
          go_wp2
          go_roundw
          case rel =>
            have e : j = ks.length := by omega
            subst e
            exact ⟨k + 1, _, _, by go_num, by omega, HO.out.congr HEND.out, HB.out⟩
          case measure => simp [intOf]; omega
    · have hkz : ¬ (k : Int) < (rows.length : Int) := by omega
      have HO := hid hO
      have HB := hid hbel
      clear hO hbel
      go_wp2
      go_ret
      have e : k = rows.length := by omega
      subst e
      have h1 := HO.out
      rw [List.take_length] at h1
      exact ⟨_, rfl, h1.rd (Gr.backL rows) (Gr.backL_length rows) (fun i hi => Gr.backL_at rows i hi), HB.out⟩

end Go.Proofs.Ytahaflapkdjmhaa
