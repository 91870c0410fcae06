/-
  The walk of the laws' alive. No conditions.
-/
import Derived.Test.YtahaflapkdjmhaaGrXf
namespace Go.Proofs.Ytahaflapkdjmhaa
open Go.RowKit

namespace Gr
def lA : List Md := [⟨⟨#[98]⟩, [⟨#[97]⟩]⟩, ⟨⟨#[97]⟩, []⟩]
def lB : List Md := [⟨⟨#[99]⟩, [⟨#[100]⟩]⟩, ⟨⟨#[100]⟩, [⟨#[99]⟩]⟩]
theorem lA_few : Few lA := few_iff.2 ⟨by decide, fun m hm => by
  simp only [lA, List.mem_cons, List.not_mem_nil, or_false] at hm
  rcases hm with rfl | rfl
  · exact ⟨by decide, by decide, fun s hs => by simp only [List.mem_singleton] at hs; subst hs; decide⟩
  · exact ⟨by decide, by decide, fun s hs => by cases hs⟩⟩
theorem lB_few : Few lB := few_iff.2 ⟨by decide, fun m hm => by
  simp only [lB, List.mem_cons, List.not_mem_nil, or_false] at hm
  rcases hm with rfl | rfl
  · exact ⟨by decide, by decide, fun s hs => by simp only [List.mem_singleton] at hs; subst hs; decide⟩
  · exact ⟨by decide, by decide, fun s hs => by simp only [List.mem_singleton] at hs; subst hs; decide⟩⟩
theorem lA_again : againL lA = -1 := by decide +kernel
theorem lA_lost : lostL lA = -1 := by decide +kernel
theorem lB_again : againL lB = -1 := by decide +kernel
theorem lB_lost : lostL lB = -1 := by decide +kernel
theorem lA_nx0 : nxL lA 0 = [1] := by decide +kernel
theorem lA_nx1 : nxL lA 1 = [] := by decide +kernel
theorem lB_nx0 : nxL lB 0 = [1] := by decide +kernel
theorem lB_nx1 : nxL lB 1 = [0] := by decide +kernel
theorem lB_less : nlt lB 1 0 = false := by decide +kernel
theorem rch_end {nx : Nat → List Nat} {i j : Nat} (h : Rch nx i j) (h0 : nx i = []) : j = i := by
  cases h with
  | refl => rfl
  | step h1 _ => rw [h0] at h1; cases h1
theorem lA_ans {out : List Nat} {a e : Int} (h : OrderAns lA out a e) : e = 0 ∧ ∃ y, out = [1, y] := by
  have hl : lA.length = 2 := rfl
  cases h with
  | again h1 => rw [lA_again] at h1; omega
  | lost h0 h1 => rw [lA_lost] at h1; omega
  | cycle m h0 h1 hm =>
    obtain ⟨⟨h2, k, hk, hr⟩, -⟩ := hm.so m rfl
    rw [hl] at h2
    rcases (show m = 0 ∨ m = 1 by omega) with rfl | rfl
    · rw [lA_nx0, List.mem_singleton] at hk
      subst hk
      have := rch_end hr lA_nx1
      omega
    · rw [lA_nx1] at hk; cases hk
  | order h0 h1 hg hlen hc h3 h4 =>
    refine ⟨h4, ?_⟩
    rw [hl] at hlen
    cases hg with
    | nil => simp at hlen
    | @snoc o1 y g1 l1 =>
      cases g1 with
      | nil => simp at hlen
      | @snoc o2 x g2 l2 =>
        cases g2 with
        | snoc g3 l3 => simp at hlen
        | nil =>
          refine ⟨y, ?_⟩
          have h5 := l2.lt_
          rw [hl] at h5
          rcases (show x = 0 ∨ x = 1 by omega) with rfl | rfl
          · have := l2.so.2 1 (by rw [lA_nx0]; simp)
            cases this
          · rfl
theorem lB_ans {out : List Nat} {a e : Int} (h : OrderAns lB out a e) : e = 8 ∧ a = 0 := by
  have hl : lB.length = 2 := rfl
  have c0 : Cyc (nxL lB) 0 := ⟨1, by rw [lB_nx0]; simp, .one (by rw [lB_nx1]; simp)⟩
  cases h with
  | again h1 => rw [lB_again] at h1; omega
  | lost h0 h1 => rw [lB_lost] at h1; omega
  | cycle m h0 h1 hm h2 h3 h4 =>
    refine ⟨h4, ?_⟩
    obtain ⟨⟨h5, -⟩, h6⟩ := hm.so m rfl
    rw [hl] at h5
    rcases (show m = 0 ∨ m = 1 by omega) with rfl | rfl
    · rw [h3]; rfl
    · have := h6 0 ⟨by omega, c0⟩ (by omega)
      unfold ltP at this
      rw [lB_less] at this; cases this
  | order h0 h1 hg hlen hc => exact absurd c0 (hc 0 (by omega))
end Gr

theorem rdS_one (w : World) (b B : Nat) (s : ByteArray) (hb : b < B) (h : w.cell? ⟨b, 0, none⟩ = some (.string s)) : RdS w B (.slice (some ⟨b, 0, none⟩) 1 1) [s] :=
  ⟨_, _, rfl, fun _ => ⟨b, 0, rfl, hb, fun i hi => by
    have : i = 0 := by simpa using hi
    subst this; exact h⟩⟩
theorem rdS_none (w : World) (B : Nat) : RdS w B (.slice none 0 0) [] := ⟨none, 0, rfl, fun h => absurd rfl h⟩
theorem rdM_two {w : World} {B b : Nat} {s t : ByteArray} {vs vt a1 a2 a3 a4 : Value} {is it : List ByteArray} (e : TypeId) (hb : b < B) (h : w.heap[b]? = some (.cells #[.string s, vs, a1, a2, .string t, vt, a3, a4] e (0, 0))) (h1 : RdS w B vs is) (h2 : RdS w B vt it)
    (g1 : ∃ A n c, a1 = .slice A n c) (g2 : ∃ A n c, a2 = .slice A n c) (g3 : ∃ A n c, a3 = .slice A n c) (g4 : ∃ A n c, a4 = .slice A n c) :
    RdM w B (.slice (some ⟨b, 0, none⟩) 2 2) [⟨s, is⟩, ⟨t, it⟩] := by
  obtain ⟨As, cs, rfl, -⟩ := id h1
  obtain ⟨At, ct, rfl, -⟩ := id h2
  obtain ⟨A1, n1, c1, rfl⟩ := g1
  obtain ⟨A2, n2, c2, rfl⟩ := g2
  obtain ⟨A3, n3, c3, rfl⟩ := g3
  obtain ⟨A4, n4, c4, rfl⟩ := g4
  refine ⟨_, _, rfl, by simp, by unfold maxLen; omega, fun _ => ⟨b, 0, rfl, hb, fun i hi => ?_⟩⟩
  have hi2 : i < 2 := by simpa using hi
  rcases (show i = 0 ∨ i = 1 by omega) with rfl | rfl
  · exact ⟨_, _, _, _, _, _, _, _, (heap_cell h 0).trans rfl, (heap_cell h 1).trans rfl, (heap_cell h 2).trans rfl, (heap_cell h 3).trans rfl, h1⟩
  · exact ⟨_, _, _, _, _, _, _, _, (heap_cell h 4).trans rfl, (heap_cell h 5).trans rfl, (heap_cell h 6).trans rfl, (heap_cell h 7).trans rfl, h2⟩

set_option maxRecDepth 1000000 in
set_option maxHeartbeats 4000000 in
theorem law_alive (w : World) : Calls Try.prog 6 #[] w fun e w' => e = .returned (.bool true) ∧ Below w.heap.size w w' := by
  have HA := order_any Gr.lA Gr.lA_few (.slice (some ⟨w.heap.size + 1, 0, none⟩) 2 2) ((w.alloc (.cells #[.string ⟨#[97]⟩] 9)).alloc (.cells #[.string ⟨#[98]⟩, .slice (some ⟨w.heap.size, 0, none⟩) 1 1, .slice none 0 0, .slice none 0 0, .string ⟨#[97]⟩, .slice none 0 0, .slice none 0 0, .slice none 0 0] 29)) (by
    have h1 : ((w.alloc (.cells #[.string ⟨#[97]⟩] 9)).alloc (.cells #[.string ⟨#[98]⟩, .slice (some ⟨w.heap.size, 0, none⟩) 1 1, .slice none 0 0, .slice none 0 0, .string ⟨#[97]⟩, .slice none 0 0, .slice none 0 0, .slice none 0 0] 29)).heap[w.heap.size + 1]? = some (.cells #[.string ⟨#[98]⟩, .slice (some ⟨w.heap.size, 0, none⟩) 1 1, .slice none 0 0, .slice none 0 0, .string ⟨#[97]⟩, .slice none 0 0, .slice none 0 0, .slice none 0 0] 29 (0, 0)) := by
      have := heap_alloc_new (w.alloc (.cells #[.string ⟨#[97]⟩] 9)) (.cells #[.string ⟨#[98]⟩, .slice (some ⟨w.heap.size, 0, none⟩) 1 1, .slice none 0 0, .slice none 0 0, .string ⟨#[97]⟩, .slice none 0 0, .slice none 0 0, .slice none 0 0] 29)
      simpa using this
    refine rdM_two _ (by simp) h1 (rdS_one _ _ _ _ (by simp; omega) ?_) (rdS_none _ _) ⟨_, _, _, rfl⟩ ⟨_, _, _, rfl⟩ ⟨_, _, _, rfl⟩ ⟨_, _, _, rfl⟩
    exact ((below_new _).cell (p := ⟨w.heap.size, 0, none⟩) (by simp)).trans ((heap_cell (heap_alloc_new w _) 0).trans rfl))
  have HA := hid HA
  go_enter Try.func6, Try.ntmps6
  go_wp2_with fail
  refine (HA.out).mono ?_
  rintro e w1 ⟨v, out, at_, e0, rfl, hrd, hans, hb⟩
  obtain ⟨rfl, y, rfl⟩ := Gr.lA_ans hans
  have HB1 := hid ((((Below.refl w.heap.size w).alloc (Nat.le_refl _) (.cells #[.string ⟨#[97]⟩] 9)).alloc (by simp) (.cells #[.string ⟨#[98]⟩, .slice (some ⟨w.heap.size, 0, none⟩) 1 1, .slice none 0 0, .slice none 0 0, .string ⟨#[97]⟩, .slice none 0 0, .slice none 0 0, .slice none 0 0] 29)).trans (hb.mono (by simp; omega)))
  have HRD := hid hrd
  obtain ⟨A, cap, rfl, -, -, -⟩ := hrd
  clear hb hans HA
  have HB := order_any Gr.lB Gr.lB_few (.slice (some ⟨w1.heap.size + 2, 0, none⟩) 2 2) (((w1.alloc (.cells #[.string ⟨#[100]⟩] 9)).alloc (.cells #[.string ⟨#[99]⟩] 9)).alloc (.cells #[.string ⟨#[99]⟩, .slice (some ⟨w1.heap.size, 0, none⟩) 1 1, .slice none 0 0, .slice none 0 0, .string ⟨#[100]⟩, .slice (some ⟨w1.heap.size + 1, 0, none⟩) 1 1, .slice none 0 0, .slice none 0 0] 29)) (by
    have h1 : (((w1.alloc (.cells #[.string ⟨#[100]⟩] 9)).alloc (.cells #[.string ⟨#[99]⟩] 9)).alloc (.cells #[.string ⟨#[99]⟩, .slice (some ⟨w1.heap.size, 0, none⟩) 1 1, .slice none 0 0, .slice none 0 0, .string ⟨#[100]⟩, .slice (some ⟨w1.heap.size + 1, 0, none⟩) 1 1, .slice none 0 0, .slice none 0 0] 29)).heap[w1.heap.size + 2]? = some (.cells #[.string ⟨#[99]⟩, .slice (some ⟨w1.heap.size, 0, none⟩) 1 1, .slice none 0 0, .slice none 0 0, .string ⟨#[100]⟩, .slice (some ⟨w1.heap.size + 1, 0, none⟩) 1 1, .slice none 0 0, .slice none 0 0] 29 (0, 0)) := by
      have := heap_alloc_new ((w1.alloc (.cells #[.string ⟨#[100]⟩] 9)).alloc (.cells #[.string ⟨#[99]⟩] 9)) (.cells #[.string ⟨#[99]⟩, .slice (some ⟨w1.heap.size, 0, none⟩) 1 1, .slice none 0 0, .slice none 0 0, .string ⟨#[100]⟩, .slice (some ⟨w1.heap.size + 1, 0, none⟩) 1 1, .slice none 0 0, .slice none 0 0] 29)
      simpa using this
    refine rdM_two _ (by simp) h1 (rdS_one _ _ _ _ (by simp; omega) ?_) (rdS_one _ _ _ _ (by simp) ?_) ⟨_, _, _, rfl⟩ ⟨_, _, _, rfl⟩ ⟨_, _, _, rfl⟩ ⟨_, _, _, rfl⟩
    · exact ((below_new _).cell (p := ⟨w1.heap.size, 0, none⟩) (by simp; omega)).trans (((below_new _).cell (p := ⟨w1.heap.size, 0, none⟩) (by simp)).trans ((heap_cell (heap_alloc_new w1 _) 0).trans rfl))
    · exact ((below_new _).cell (p := ⟨w1.heap.size + 1, 0, none⟩) (by simp)).trans ((heap_cell (show ((w1.alloc (.cells #[.string ⟨#[100]⟩] 9)).alloc (.cells #[.string ⟨#[99]⟩] 9)).heap[w1.heap.size + 1]? = _ from by
        have := heap_alloc_new (w1.alloc (.cells #[.string ⟨#[100]⟩] 9)) (.cells #[.string ⟨#[99]⟩] 9)
        simpa using this) 0).trans rfl))
  have HB := hid HB
  go_wp2_with fail
  refine (HB.out).mono ?_
  rintro e w2 ⟨v, out, at_, e0, rfl, hrd, hans, hb⟩
  obtain ⟨rfl, rfl⟩ := Gr.lB_ans hans
  have hb3 := (((((Below.refl w1.heap.size w1).alloc (Nat.le_refl _) (.cells #[.string ⟨#[100]⟩] 9)).alloc (by simp) (.cells #[.string ⟨#[99]⟩] 9)).alloc (by simp; omega) (.cells #[.string ⟨#[99]⟩, .slice (some ⟨w1.heap.size, 0, none⟩) 1 1, .slice none 0 0, .slice none 0 0, .string ⟨#[100]⟩, .slice (some ⟨w1.heap.size + 1, 0, none⟩) 1 1, .slice none 0 0, .slice none 0 0] 29)).trans (hb.mono (by simp; omega)))
  obtain ⟨g, rfl, hg, x0⟩ := HRD.out.atv hb3 (k := 0) (by simp)
  have HB3 := hid (HB1.out.trans (hb3.mono HB1.out.size))
  obtain ⟨A2, c2, rfl, -, -, -⟩ := hrd
  clear hb hb3 hans HB
  simp only [List.getElem_cons_zero, Int.cast_ofNat_Int] at x0
  go_wp2_with fail
  go_ret
  exact ⟨rfl, HB3.out⟩

end Go.Proofs.Ytahaflapkdjmhaa
