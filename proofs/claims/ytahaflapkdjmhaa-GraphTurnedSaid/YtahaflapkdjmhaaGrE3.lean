/-
  The walks of graph's queue's Swap at one place, and Less. Conditions: places within it.
-/
import Derived.Test.YtahaflapkdjmhaaGrE2
namespace Go.Proofs.Ytahaflapkdjmhaa
open Go.RowKit

theorem swapL_same (its : List Nat) (i : Nat) (hi : i < its.length) : swapL its i i = its := by
  apply List.ext_getElem?
  intro k
  simp only [swapL, List.getElem?_set, List.length_set]
  by_cases e : i = k
  · subst e; simp [hi]
  · simp [e]

set_option maxHeartbeats 4000000 in
set_option maxRecDepth 1000000 in
theorem qswap_one {w : World} {B q : Nat} {lv : Value} {A : Option Addr} {c : Nat} {its : List Nat} (h : Qu w B q lv A c its) (hl : its.length ≤ 1000) {i : Nat} (hi : i < its.length) :
    Calls Try.prog 50 #[.pointer (some ⟨q, 0, none⟩), .int .i64 (i : Int), .int .i64 (i : Int)] w fun e w' => e = .returned (.tuple #[]) ∧ Qu w' B q lv A c (swapL its i i) ∧ QK w w' q A A := by
  obtain ⟨g, rfl, hgq, hgc, hgm⟩ := h.shape (by omega)
  have H := hid (h.swapped hi hi)
  have c1 := h.c1
  obtain ⟨x1, z1⟩ := h.item hi
  obtain ⟨n, hn⟩ : ∃ n, n = its.length := ⟨_, rfl⟩
  have hin : (i : Int) < (n : Int) := by omega
  rw [← hn] at c1
  obtain ⟨xi, hxi⟩ : ∃ xi, xi = its[i] := ⟨_, rfl⟩
  rw [← hxi] at x1 H
  have x2 : (w.drew.setCell ⟨g, i, none⟩ (.int .i64 (xi : Int))).cell? ⟨g, i, none⟩ = some (.int .i64 (xi : Int)) := World.cell?_setCell_same _ _ _ (show w.cell? _ = _ from x1)
  clear h hn hxi hi hl hgc hgm
  go_enter Try.func50, Try.ntmps50
  go_wp2_with fail
  go_region
  all_goals go_wp2
  all_goals go_end0
  all_goals exact ⟨rfl, H.out.1.heap rfl, H.out.2.heap rfl rfl rfl rfl⟩

namespace Gr
def nm (l : List Md) (a : Nat) : ByteArray := ((l[a]?).map Md.name).getD ByteArray.empty
/-- Is one's name less than another one's? -/
def nlt (l : List Md) (a b : Nat) : Bool := Op.bytesLess (nm l a).toList (nm l b).toList
theorem nm_at {l : List Md} {a : Nat} (h : a < l.length) : nm l a = l[a].name := by simp [nm, h]
end Gr

set_option maxHeartbeats 4000000 in
set_option maxRecDepth 1000000 in
theorem qless_any {w : World} {B q : Nat} {lv : Value} {A : Option Addr} {c : Nat} {its : List Nat} (h : Qu w B q lv A c its) (hl : its.length ≤ 1000) {l : List Gr.Md} (hx : RdM w w.heap.size lv l) (hlt : ∀ a ∈ its, a < l.length) {i j : Nat} (hi : i < its.length) (hj : j < its.length) :
    Calls Try.prog 47 #[.pointer (some ⟨q, 0, none⟩), .int .i64 (i : Int), .int .i64 (j : Int)] w fun e w' => e = .returned (.bool (Gr.nlt l (its.getD i 0) (its.getD j 0))) ∧ ∃ n, w' = w.drewN n := by
  obtain ⟨g, rfl, hgq, hgc, hgm⟩ := h.shape (by omega)
  have ha := hlt its[i] (List.getElem_mem hi)
  have hb := hlt its[j] (List.getElem_mem hj)
  have HE : Hid (Gr.nlt l (its.getD i 0) (its.getD j 0) = Op.bytesLess l[its[i]].name.toList l[its[j]].name.toList) := hid (by simp [Gr.nlt, List.getD, hi, hj, Gr.nm_at ha, Gr.nm_at hb])
  have c0 := h.c0
  have c1 := h.c1
  obtain ⟨x1, -⟩ := h.item hi
  obtain ⟨x2, -⟩ := h.item hj
  obtain ⟨bl, ol, cl, Ai, ci, Ad, nd, cd, As, ns, cs, hv, hbl, y1, -⟩ := hx.at_ (Below.refl _ _) ha
  obtain ⟨bl', ol', cl', Ai', ci', Ad', nd', cd', As', ns', cs', hv', hbl', y2, -⟩ := hx.at_ (Below.refl _ _) hb
  rw [hv] at hv'
  simp only [Value.slice.injEq, Option.some.injEq, Addr.mk.injEq, and_true, true_and] at hv'
  obtain ⟨⟨rfl, rfl⟩, rfl⟩ := hv'
  rw [hv] at c0
  obtain ⟨m, hm⟩ : ∃ m, m = l.length := ⟨_, rfl⟩
  obtain ⟨n, hnn⟩ : ∃ n, n = its.length := ⟨_, rfl⟩
  have hin : (i : Int) < (n : Int) := by omega
  have hjn : (j : Int) < (n : Int) := by omega
  have ham : (its[i] : Int) < (m : Int) := by omega
  have hbm : (its[j] : Int) < (m : Int) := by omega
  rw [← hm] at c0
  rw [← hnn] at c1
  obtain ⟨si, hsi⟩ : ∃ s, s = l[its[i]].name := ⟨_, rfl⟩
  obtain ⟨sj, hsj⟩ : ∃ s, s = l[its[j]].name := ⟨_, rfl⟩
  rw [← hsi, ← hsj] at HE
  rw [← hsi] at y1
  rw [← hsj] at y2
  obtain ⟨xi, hxi⟩ : ∃ xi, xi = its[i] := ⟨_, rfl⟩
  obtain ⟨xj, hxj⟩ : ∃ xj, xj = its[j] := ⟨_, rfl⟩
  simp only [← hxi] at x1 y1 ham
  simp only [← hxj] at x2 y2 hbm
  clear h hx hlt hsi hsj hxi hxj hv ha hb hi hj hl hgc hgm hm hnn
  go_enter Try.func47, Try.ntmps47
  go_wp2_with fail
  go_quiet (fail)
  go_wp2
  go_ret
  exact ⟨ret_bool HE.out.symm, _, rfl⟩

end Go.Proofs.Ytahaflapkdjmhaa
