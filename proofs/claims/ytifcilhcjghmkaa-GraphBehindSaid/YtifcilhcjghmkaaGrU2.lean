/-
  The walk of graph's Needs: its answer. Conditions: few modules, short names.
-/
import Derived.Test.YtifcilhcjghmkaaGrU
import Derived.Test.YtifcilhcjghmkaaShelf
namespace Go.Proofs.Ytifcilhcjghmkaa
open Go.RowKit

namespace Gr
/-- What sorting makes of numbers. -/
theorem sorted_nums (l : List Nat) (hd : l.Nodup) : ∃ ns : List Nat, (numV ns = (((l.map fun k : Nat => (k : Int)).mergeSort fun x y => decide (x ≤ y)).map fun x => Value.int .i64 x)) ∧ ns.Perm l ∧ ns.Pairwise (· < ·) := by
  obtain ⟨s, hs⟩ : ∃ s, (l.map fun k : Nat => (k : Int)).mergeSort (fun x y => decide (x ≤ y)) = s := ⟨_, rfl⟩
  have hp : s.Perm (l.map fun k : Nat => (k : Int)) := hs ▸ List.mergeSort_perm _ _
  have hw : s.Pairwise fun a b => decide (a ≤ b) = true := hs ▸ List.pairwise_mergeSort (le := fun x y : Int => decide (x ≤ y)) (fun a b c h1 h2 => by simp at *; omega) (fun a b => by simp; omega) _
  rw [hs]
  have hpos : ∀ x ∈ s, 0 ≤ x := by
    intro x hx
    have := hp.mem_iff.1 hx
    simp at this
    obtain ⟨a, _, rfl⟩ := this
    omega
  have hback : (s.map Int.toNat).map (fun k : Nat => (k : Int)) = s := by
    rw [List.map_map]
    conv => rhs; rw [← List.map_id s]
    apply List.map_congr_left
    intro x hx
    have := hpos x hx
    simp; omega
  have hpn : (s.map Int.toNat).Perm l := by
    have := hp.map Int.toNat
    rw [List.map_map] at this
    have e : (Int.toNat ∘ fun k : Nat => (k : Int)) = id := by funext k; simp
    rw [e, List.map_id] at this
    exact this
  have hnd : (s.map Int.toNat).Nodup := hpn.nodup_iff.2 hd
  refine ⟨s.map Int.toNat, ?_, hpn, ?_⟩
  · show (s.map Int.toNat).map (fun k : Nat => Value.int .i64 (k : Int)) = _
    conv => rhs; rw [← hback]
    simp only [List.map_map, Function.comp_def]
  · have h1 : (s.map Int.toNat).Pairwise (· ≤ ·) := by
      rw [List.pairwise_map]
      refine hw.imp ?_
      intro a b hab
      simp at hab
      omega
    have h2 : (s.map Int.toNat).Pairwise (fun a b => a ≤ b ∧ a ≠ b) := by
      rw [List.pairwise_and_iff]
      exact ⟨h1, hnd⟩
    exact h2.imp fun hab => by omega
inductive NeedsAns (l : List Md) (i : Int) (ns : List Nat) : Prop
  | out (h : i < 0 ∨ (l.length : Int) ≤ i) (h2 : ns = [])
  | of (k : Nat) (h : i = k) (hk : k < l.length) (h1 : ns.Pairwise (· < ·)) (h2 : ∀ j, j ∈ ns ↔ Rch (nxL l) k j)
end Gr

def NeedsPost (l : List Gr.Md) (i : Int) (w : World) (e : Ending) (w' : World) : Prop := ∃ v ns, e = .returned v ∧ RdN w' w'.heap.size v ns ∧ Gr.NeedsAns l i ns ∧ Below w.heap.size w w' ∧ ∀ g, v.ownBlock = some g → w.heap.size ≤ g

open Go.Sort in
theorem own_holds {w : World} {B g n c : Nat} {l : List Nat} (h : w.ownsRow B 3 1 (.slice (some ⟨g, 0, none⟩) n c) n (numV l)) : Holds (Value.int .i64) w g 0 (l.map fun k : Nat => (k : Int)).toArray := by
  intro j hj
  have hl : (numV l).length = n := by simpa using h.1
  simp [numV] at hl
  simp at hj
  refine ⟨?_, h.frozenAt (0 + j)⟩
  rw [h.cellAt (0 + j) (by omega)]
  simp [numV, hj]
open Go.Sort in
/-- A row that was sorted in place reads as its numbers. -/
theorem sorted_rd {w : World} {B g n c k : Nat} {l ns : List Nat} {os : Array Obj} (h : w.ownsRow B 3 1 (.slice (some ⟨g, 0, none⟩) n c) n (numV l)) (hc : n ≤ c) (hm : c ≤ maxLen) (hs : numV ns = (((l.map fun k : Nat => (k : Int)).mergeSort fun x y => decide (x ≤ y)).map fun x => Value.int .i64 x)) :
    RdN (grow (putRow (Value.int .i64) (Sort.ahead w k) g 0 ((l.map fun k : Nat => (k : Int)).mergeSort fun x y => decide (x ≤ y)).toArray) os) (grow (putRow (Value.int .i64) (Sort.ahead w k) g 0 ((l.map fun k : Nat => (k : Int)).mergeSort fun x y => decide (x ≤ y)).toArray) os).heap.size (.slice (some ⟨g, 0, none⟩) n c) ns ∧ Below B w (grow (putRow (Value.int .i64) (Sort.ahead w k) g 0 ((l.map fun k : Nat => (k : Int)).mergeSort fun x y => decide (x ≤ y)).toArray) os) := by
  have hH := own_holds h
  have hl : (numV l).length = n := by simpa using h.1
  have hgl := h.lt g rfl
  obtain ⟨s, hse⟩ : ∃ s, (l.map fun k : Nat => (k : Int)).mergeSort (fun x y => decide (x ≤ y)) = s := ⟨_, rfl⟩
  have hsl : s.length = l.length := by rw [← hse]; simp
  rw [hse] at hs ⊢
  simp [numV] at hl
  have hnl : ns.length = n := by
    have := congrArg List.length hs
    simp [numV] at this
    omega
  constructor
  · refine ⟨_, _, by rw [hnl], by omega, hm, fun _ => ⟨g, rfl, by simp; omega, fun i hi => ?_⟩⟩
    rw [cell?_grow _ _ _ (by simp; exact hgl.2)]
    have := cell?_putRow (Value.int .i64) (Sort.ahead w k) g 0 _ s.toArray (holds_ahead _ _ _ _ _ _ hH) (by simp [hsl]) i (by simp; omega)
    rw [Nat.zero_add] at this
    rw [this]
    have h2 := congrArg (fun l => l[i]?) hs
    have hi2 : i < s.length := by omega
    simp [numV, hi, hi2] at h2
    simp [hi2, h2]
  · refine ⟨rfl, rfl, rfl, by simp, fun i hi => ?_⟩
    rw [heap_grow_old _ _ (by simp; omega)]
    simp only [putRow, mapBlock]
    rw [Array.getElem?_modify, if_neg (by omega)]
    rfl

set_option maxRecDepth 1000000 in
set_option maxHeartbeats 8000000 in
theorem needs_any (l : List Gr.Md) (hq : Gr.Few l) (v : Value) (i : Int) (hi1 : -9223372036854775808 ≤ i) (hi2 : i < 9223372036854775808) (w : World) (hx : RdM w w.heap.size v l) :
    Calls Try.prog 14 #[v, .int .i64 i] w (NeedsPost l i w) := by
  have HX := hid hx
  have HQ := hid hq
  have hn := hq.n
  have HF := hid (firsts_any l hq v w hx)
  obtain ⟨Al, capl, rfl, -, -, -⟩ := hx
  clear hq
  go_enter Try.func14, Try.ntmps14
  by_cases h0 : i < 0
  · have H0 := hid h0
    go_wp2_with fail
    go_ret
    exact ⟨_, [], rfl, rdN_nil _ _, .out (Or.inl H0.out) rfl, Below.refl _ _, fun g hg => by simp [Value.ownBlock] at hg⟩
  · by_cases h1 : i < (l.length : Int)
    · obtain ⟨k, rfl⟩ : ∃ k : Nat, i = k := ⟨i.toNat, by omega⟩
      have hk : k < l.length := by omega
      have HK := hid hk
      clear hi1 hi2 hk
      go_wp2_with fail
      refine (HF.out).mono ?_
      rintro e w1 ⟨bm, rfl, -, hbm, hm, hb⟩
      have HB1 := hid hb
      have HX1 := hid ((HX.out.below hb).mono hb.size)
      have HLK := hid (links_any l HQ.out _ bm w1 HX1.out hm hbm)
      clear hb hm HF
      go_wp2_with fail
      refine (HLK.out).mono ?_
      rintro e w2 ⟨r, rfl, hr, hb⟩
      have HB2 := hid (HB1.out.trans (hb.mono HB1.out.size))
      have HR2 := hid hr
      have hll := Gr.linksL_length l
      obtain ⟨bi, rfl, -, -⟩ := hr
      rw [hll] at HR2 ⊢
      have HLLN := hid hll
      have HMA := hid (marker_any bi l.length hn w2)
      clear hb HLK hll
      go_wp2_with fail
      refine (HMA.out).mono ?_
      rintro e w3 ⟨rfl, hMk, hb⟩
      have HB3 := hid (HB2.out.trans (hb.mono HB2.out.size))
      have HWK := hid (walk_any (Gr.linksL l) l.length HLLN.out hn (Gr.linksL_lt l) (fun r hr => by have := Gr.linksL_few HQ.out r hr; omega) w2.heap.size _ w2 HR2.out (w := w3) k HK.out (by simp) (by simp) hMk hb ⟨_, _, _, rfl⟩)
      have HBs := hid hb.size
      clear hb hMk
      go_wp2_with fail
      refine (HWK.out).mono ?_
      rintro e w4 ⟨vo', A', c', R', rfl, hdf, hM4, hK4, -⟩
      have HDF := hid hdf
      have HM4 := hid hM4
      have hB4 : Below w2.heap.size w3 w4 := ⟨hK4.os, hK4.tape, hK4.output, hK4.size, fun q hq => hK4.block q (by have := HBs.out; omega) (by rintro (h | h | h) <;> omega) (by simp)⟩
      have HB4 := hid (HB3.out.trans (hB4.mono HB2.out.size))
      have hdf2 : Gr.dfs (Gr.nxL l) (l.length + 1) k [] = R' := by simpa [Gr.nxL] using hdf
      have hrch := Gr.dfs_reach (Gr.nxL_lt l) (f := l.length + 1) HK.out (Nat.lt_succ_self _)
      have hgrw := Gr.dfs_grown (Gr.nxL_lt l) (l.length + 1) k [] HK.out (by simp) (by simp) (by simp)
      rw [hdf2] at hrch hgrw
      have HRC := hid hrch
      have HGR := hid hgrw
      have hne : R' ≠ [] := by
        intro e
        have := hgrw.has k (by simp)
        rw [e] at this; cases this
      obtain ⟨q, hq⟩ : ∃ q, R'.length = q + 1 := ⟨R'.length - 1, by have := List.length_pos_iff.2 hne; omega⟩
      have hrow := hM4.row
      rw [hq] at hrow
      obtain ⟨g, cg, he⟩ := row_succ hrow
      simp only [Value.slice.injEq] at he
      obtain ⟨rfl, -, rfl⟩ := he
      have hRn : R'.length ≤ l.length := by
        have := Gr.nodup_le l.length R' hgrw.nodup hgrw.lt
        exact this
      have HRD := own_rd hM4.row
      have hcap : q + 1 ≤ c' ∧ c' ≤ maxLen := by
        obtain ⟨A, cap, hv, h1, h2, -⟩ := HRD
        simp only [Value.slice.injEq] at hv
        obtain ⟨-, -, rfl⟩ := hv
        omega
      have HCP := hid hcap
      have HROW := hid hrow
      have hg4 := hrow.lt g rfl
      have hSo := Try.slices_Sort_int g 0 c' (R'.map fun k : Nat => (k : Int)) w4 (own_holds hrow) hg4.2 (by simp; omega)
      have HSo := hid hSo
      simp only [List.length_map] at HSo
      rw [hq] at HSo ⊢
      clear hdf hM4 hK4 hB4 hdf2 hrch hgrw hne hrow HRD hcap hSo HWK HMA
      go_wp2_with fail
      refine (HSo.out).mono ?_
      rintro e w5 ⟨rfl, n5, os5, rfl⟩
      obtain ⟨ns, hns, hpm, hpw⟩ := Gr.sorted_nums R' HGR.out.nodup
      have hfin := sorted_rd (k := n5) (os := os5) HROW.out HCP.out.1 HCP.out.2 hns
      obtain ⟨w5, hw5⟩ : ∃ w5, Sort.grow (Sort.putRow (Value.int .i64) (Sort.ahead w4 n5) g 0 ((R'.map fun k : Nat => (k : Int)).mergeSort fun x y => decide (x ≤ y)).toArray) os5 = w5 := ⟨_, rfl⟩
      rw [hw5] at hfin ⊢
      have HFI := hid hfin
      have HNS := hid (And.intro hpm hpw)
      have HIS := hid HB2.out.size
      clear hfin hpm hpw hns hw5
      go_wp2_with fail
      go_ret
      exact ⟨_, ns, rfl, HFI.out.1, .of k rfl HK.out HNS.out.2 (fun j => by rw [HNS.out.1.mem_iff]; exact HRC.out j), HB4.out.trans (HFI.out.2.mono HIS.out), fun g2 hg2 => by
        have h1 := (HROW.out.lt g2 (by simpa [Value.ownBlock] using hg2)).1
        have := HIS.out
        omega⟩
    · have H1 := hid h1
      go_wp2_with fail
      go_ret
      exact ⟨_, [], rfl, rdN_nil _ _, .out (Or.inr (by have := H1.out; omega)) rfl, Below.refl _ _, fun g hg => by simp [Value.ownBlock] at hg⟩

end Go.Proofs.Ytifcilhcjghmkaa
