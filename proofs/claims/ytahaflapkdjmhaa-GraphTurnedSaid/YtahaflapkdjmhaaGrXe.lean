/-
  The walk of the reference's Few. Conditions: modules that come in.
-/
import Derived.Test.YtahaflapkdjmhaaGrXd
namespace Go.Proofs.Ytahaflapkdjmhaa
open Go.RowKit

namespace Gr
structure Good (m : Md) : Prop where
  name : m.name.size ≤ 100
  imps : m.imps.length ≤ 20
  imp : ∀ s ∈ m.imps, s.size ≤ 100
theorem few_iff {l : List Md} : Few l ↔ l.length ≤ 20 ∧ ∀ m ∈ l, Good m := ⟨fun h => ⟨h.n, fun m hm => ⟨h.name m hm, h.imps m hm, h.imp m hm⟩⟩, fun h => ⟨h.1, fun m hm => (h.2 m hm).name, fun m hm => (h.2 m hm).imps, fun m hm => (h.2 m hm).imp⟩⟩
theorem mem_take_next {α : Type} {l : List α} {k : Nat} (hk : k < l.length) {P : α → Prop} (h : ∀ m ∈ l.take k, P m) (h2 : P l[k]) : ∀ m ∈ l.take (k + 1), P m := by
  intro m hm
  rw [List.take_succ_eq_append_getElem hk, List.mem_append, List.mem_singleton] at hm
  rcases hm with h1 | h1
  · exact h m h1
  · rw [h1]; exact h2
end Gr

def FewPost (l : List Gr.Md) (w : World) (e : Ending) (w' : World) : Prop := ∃ b, e = .returned (.bool b) ∧ (b = true ↔ Gr.Few l) ∧ w = w'

set_option maxRecDepth 1000000 in
set_option maxHeartbeats 8000000 in
theorem few_any (l : List Gr.Md) (v : Value) (w : World) (hx : RdM w w.heap.size v l) :
    Calls Try.prog 5 #[v] w (FewPost l w) := by
  have HX := hid hx
  obtain ⟨A, cap, rfl, h1, h2, -⟩ := hx
  unfold maxLen at h2
  go_enter Try.func5, Try.ntmps5
  go_wp2_with fail
  go_loop [3] (fun vi => ∃ k : Nat, vi = .int .i64 k ∧ k ≤ l.length ∧ k ≤ 20 ∧ Hid (∀ m ∈ l.take k, Gr.Good m)) (fun vi => l.length - (intOf vi).toNat)
  case atStart => exact ⟨0, rfl, by omega, by omega, hid (by simp)⟩
  case round =>
    obtain ⟨k, rfl, hk, hk20, hE⟩ := hrel
    by_cases hlt : k < l.length
    · have hkz : (k : Int) < (l.length : Int) := by omega
      by_cases e20 : k = 20
      · subst e20
        have HV := hid (show ¬ Gr.Few l from fun h => by have := h.n; omega)
        clear hE
        go_wp2_with fail
        go_ret
        exact ⟨false, rfl, by simp [HV.out], rfl⟩
      · have e20z : ((k : Int) == 20) = false := by simp; omega
        have hk19 : k + 1 ≤ 20 := by omega
        obtain ⟨b, o, c', Ai, ci, Ad, nd, cd, As, ns, cs, hv, hb, x0, x1, x2, x3, hS⟩ := HX.out.at_ (Below.refl _ _) hlt
        simp only [Value.slice.injEq, true_and] at hv
        obtain ⟨rfl, rfl⟩ := hv
        have HG := hid (show Gr.Few l → Gr.Good l[k] from fun h => (Gr.few_iff.1 h).2 _ (List.getElem_mem hlt))
        have HNX := hid (show Gr.Good l[k] → ∀ m ∈ l.take (k + 1), Gr.Good m from fun h => Gr.mem_take_next hlt hE.out h)
        obtain ⟨m, hm⟩ : ∃ m, l[k] = m := ⟨_, rfl⟩
        rw [hm] at HG HNX
        obtain ⟨t, ht⟩ : ∃ t, m.name = t := ⟨_, rfl⟩
        obtain ⟨is, hni⟩ : ∃ is, m.imps = is := ⟨_, rfl⟩
        simp only [hm, ht] at x0
        simp only [hm, hni] at x1 hS
        have HT := hid ht
        have HNI := hid hni
        have HS := hid hS
        clear hm ht hni hS hE e20 x2 x3
        by_cases ht : t.size ≤ 100
        · have htz : ¬ (100 : Int) < (t.size : Int) := by omega
          have HTL := hid ht
          clear ht
          by_cases hi : is.length ≤ 20
          · have hiz : ¬ (20 : Int) < (is.length : Int) := by omega
            go_wp2_with fail
            go_loop [4] (fun vj => ∃ j : Nat, vj = .int .i64 j ∧ j ≤ is.length ∧ Hid (∀ s ∈ is.take j, s.size ≤ 100)) (fun vj => is.length - (intOf vj).toNat)
            case atStart => exact ⟨0, rfl, by omega, hid (by simp)⟩
            case round =>
              obtain ⟨j, rfl, hj, hE⟩ := hrel
              by_cases hjl : j < is.length
              · have hjz : (j : Int) < (is.length : Int) := by omega
                obtain ⟨b2, o2, c', hv, hb2, y0⟩ := HS.out.at_ (Below.refl _ _) hjl
                simp only [Value.slice.injEq, true_and] at hv
                obtain ⟨rfl, rfl⟩ := hv
                have HM := hid (List.getElem_mem hjl)
                have HN := hid (show is[j].size ≤ 100 → ∀ s ∈ is.take (j + 1), s.size ≤ 100 from fun h => Gr.mem_take_next hjl hE.out h)
                obtain ⟨s, hs⟩ : ∃ s, is[j] = s := ⟨_, rfl⟩
                rw [hs] at y0 HM HN
                clear hs hE
                by_cases hsl : s.size ≤ 100
                · have hsz : ¬ (100 : Int) < (s.size : Int) := by omega
                  go_wp2_with fail
                  go_round
                  case rel => exact ⟨j + 1, by go_num, by omega, hid (HN.out hsl)⟩
                  case measure => simp [intOf]; omega
                · have hsz : (100 : Int) < (s.size : Int) := by omega
                  have HV := hid (show ¬ Gr.Few l from fun h => hsl ((HG.out h).imp s (by rw [HNI.out]; exact HM.out)))
                  go_wp2_with fail
                  go_ret
                  exact ⟨false, rfl, by simp [HV.out], rfl⟩
              · have hjz : ¬ (j : Int) < (is.length : Int) := by omega
                have HGD := hid (show Gr.Good m from ⟨by rw [HT.out]; exact HTL.out, by rw [HNI.out]; exact hi, fun s hs => by
                  rw [HNI.out] at hs
                  have := hE.out s
                  rw [List.take_of_length_le (by omega)] at this
                  exact this hs⟩)
                clear hE
                go_wp2_with fail
                go_round
                case rel => exact ⟨k + 1, by go_num, by omega, by omega, hid (HNX.out HGD.out)⟩
                case measure => simp [intOf]; omega
          · have hiz : (20 : Int) < (is.length : Int) := by omega
            have HV := hid (show ¬ Gr.Few l from fun h => hi (by rw [← HNI.out]; exact (HG.out h).imps))
            go_wp2_with fail
            go_ret
            exact ⟨false, rfl, by simp [HV.out], rfl⟩
        · have htz : (100 : Int) < (t.size : Int) := by omega
          have HV := hid (show ¬ Gr.Few l from fun h => ht (by rw [← HT.out]; exact (HG.out h).name))
          go_wp2_with fail
          go_ret
          exact ⟨false, rfl, by simp [HV.out], rfl⟩
    · have hkz : ¬ (k : Int) < (l.length : Int) := by omega
      have e : k = l.length := by omega
      have HV := hid (show Gr.Few l from Gr.few_iff.2 ⟨by omega, by have := hE.out; rw [e, List.take_length] at this; exact this⟩)
      clear hE
      go_wp2_with fail
      go_ret
      exact ⟨true, rfl, by simp [HV.out], rfl⟩

end Go.Proofs.Ytahaflapkdjmhaa
