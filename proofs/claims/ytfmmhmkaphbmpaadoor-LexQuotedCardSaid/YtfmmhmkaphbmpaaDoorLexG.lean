/-
  The walk of the reference's sign: the first sign that the text goes on with at a place. Condition: a text of at most 2000000 bytes.
-/
import Derived.Test.YtfmmhmkaphbmpaaDoorLexS
import Derived.IntWalk
namespace Go.Proofs.YtfmmhmkaphbmpaaDoor
open Go.RowKit

theorem below_drewN {B : Nat} {a w : World} (h : Below B a w) (n : Nat) : Below B a (w.drewN n) := ⟨h.os, h.tape, h.output, h.size, h.block⟩

theorem pre_cut {l g : List UInt8} : g.isPrefixOf l = (decide (g.length ≤ l.length) && (l.take g.length == g)) := by
  rw [Bool.eq_iff_iff]
  simp only [List.isPrefixOf_iff_prefix, Bool.and_eq_true, decide_eq_true_eq, beq_iff_eq]
  constructor
  · intro h
    exact ⟨h.length_le, (List.prefix_iff_eq_take.1 h).symm⟩
  · rintro ⟨_, h⟩
    rw [List.prefix_iff_eq_take]
    exact h.symm

set_option maxHeartbeats 2000000 in
set_option maxRecDepth 100000 in
theorem sign_any (s : ByteArray) (hs : s.size ≤ 2000000) (at_ : Nat) (hat : at_ ≤ s.size) (w : World) :
    Calls Tryd.prog 48 #[.string s, .int .i64 at_] w fun e w' => e = .returned (strV (L.signL (s.data.toList.drop at_))) ∧ Below w.heap.size w w' := by
  have HK := hid (show L.signL (s.data.toList.drop at_) = L.firstL (L.signsL.drop 0) (s.data.toList.drop at_) from rfl)
  have HG : Hid (∀ k, k < 24 → (rowV L.signsL)[k]? = some (strV (L.signsL.getD k []))) := hid fun k h => rowV_get _ k h
  have HM : Hid (∀ k, k < 24 → (L.signsL.getD k []).length ≤ 2) := hid (by decide)
  have HC := hid (refSigns_any w)
  generalize rowV L.signsL = K at *
  go_enter Tryd.func48, Tryd.ntmps48
  go_wp2_with fail
  refine (HC.out).mono ?_
  rintro e w1 ⟨rfl, hb, h1⟩
  have HB := hid fun k => Lib.cell_of_heap hb k
  clear hb
  go_wp2
  go_loopw [6] (fun vi wr => ∃ k n : Nat, wr = w1.drewN n ∧ k ≤ 24 ∧ vi = .int .i64 k ∧ L.firstL (L.signsL.drop k) (s.data.toList.drop at_) = L.signL (s.data.toList.drop at_)) (fun vi _ => 24 - (intOf vi).toNat)
  case atStart => exact ⟨0, 0, rfl, by omega, rfl, rfl⟩
  case round =>
    obtain ⟨k, n, rfl, hk, rfl, hrun⟩ := hrel
    have HR := hid hrun
    clear hrun
    by_cases hlt : k < 24
    · have hx := (HB.out k).trans (HG.out k hlt)
      have hml := HM.out k hlt
      have HST := signs_step (s.data.toList.drop at_) k hlt
      rw [pre_cut] at HST
      unfold strV at hx
      generalize L.signsL.getD k [] = g at *
      have hsz : (⟨g.toArray⟩ : ByteArray).size = g.length := by show g.toArray.size = _; simp
      have hdl : (s.data.toList.drop at_).length = s.size - at_ := by simp
      obtain ⟨G0, hG0⟩ : ∃ G0 : ByteArray, (⟨g.toArray⟩ : ByteArray) = G0 := ⟨_, rfl⟩
      rw [hG0] at hx hsz
      have hgl : g = G0.data.toList := by rw [← hG0]
      by_cases hfit : at_ + G0.size ≤ s.size
      · have d1 : decide ((at_ : Int) + (G0.size : Int) ≤ (s.size : Int)) = true := by simp; omega
        have hmz : G0.size ≤ 2 := by omega
        have HST' := hid (show L.firstL (L.signsL.drop k) (s.data.toList.drop at_) = if ((s.extract at_ (at_ + G0.size)).toList == G0.toList) = true then g else L.firstL (L.signsL.drop (k + 1)) (s.data.toList.drop at_) by
          rw [HST, hdl, ← hsz, decide_eq_true (show G0.size ≤ s.size - at_ by omega), Lib.toList_data, Lib.toList_data, cut_list, ← hgl]
          rfl)
        have HG0 := hid hG0
        clear HST hsz hgl hG0 hdl hml
        have e1 : IntKind.i64.wrap ((at_ : Int) + (G0.size : Int)) = (at_ : Int) + (G0.size : Int) := IntWalk.i64_in _ (by omega)
        have e2 : (0 : Int) ≤ (at_ : Int) + (G0.size : Int) := by omega
        have e3 : ((at_ : Int) + (G0.size : Int)).toNat = at_ + G0.size := by omega
        go_wp2
        go_quiet (fail)
        clear e1 e2 e3
        go_wp2
        · have ht : ((s.extract at_ (at_ + G0.size)).toList == G0.toList) = true := by assumption
          go_ret
          exact ⟨by rw [← HR.out, HST'.out, if_pos ht, ← HG0.out]; rfl, below_drewN h1 _⟩
        · have ht : ((s.extract at_ (at_ + G0.size)).toList == G0.toList) = false := by assumption
          go_roundw
          case rel => exact ⟨k + 1, _, rfl, by omega, by go_num, by rw [← HR.out, HST'.out, if_neg (by rw [ht]; simp)]⟩
          case measure => simp [intOf]; omega
      · have d1 : decide ((at_ : Int) + (G0.size : Int) ≤ (s.size : Int)) = false := by simp; omega
        have hmz : G0.size ≤ 2 := by omega
        have HST' := hid (show L.firstL (L.signsL.drop k) (s.data.toList.drop at_) = L.firstL (L.signsL.drop (k + 1)) (s.data.toList.drop at_) by
          rw [HST, hdl, ← hsz, decide_eq_false (show ¬ G0.size ≤ s.size - at_ by omega)]
          rfl)
        have HG0 := hid hG0
        clear HST hsz hgl hG0 hdl hml
        have e1 : IntKind.i64.wrap ((at_ : Int) + (G0.size : Int)) = (at_ : Int) + (G0.size : Int) := IntWalk.i64_in _ (by omega)
        have e2 : (0 : Int) ≤ (at_ : Int) + (G0.size : Int) := by omega
        have e3 : ((at_ : Int) + (G0.size : Int)).toNat = at_ + G0.size := by omega
        go_wp2
        go_quiet (fail)
        clear e1 e2 e3
        go_wp2
        go_roundw
        case rel => exact ⟨k + 1, _, rfl, by omega, by go_num, by rw [← HR.out, HST'.out]⟩
        case measure => simp [intOf]; omega
    · go_wp2
      go_ret
      obtain rfl : k = 24 := by omega
      exact ⟨by rw [← HR.out]; rfl, below_drewN h1 _⟩

end Go.Proofs.YtfmmhmkaphbmpaaDoor
