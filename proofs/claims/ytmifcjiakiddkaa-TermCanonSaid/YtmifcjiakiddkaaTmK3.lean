/-
  The walk of leavenref12.Types, where the types are the same. No conditions but that.
-/
import Derived.Test.YtmifcjiakiddkaaTmW1
import Derived.Lib.QuietBelow
import Derived.BigQuiet
import Derived.IntWalk
namespace Go.Proofs.Ytmifcjiakiddkaa
open Go.RowKit Go.Sort

set_option maxHeartbeats 4000000 in
set_option maxRecDepth 100000 in
theorem types_same (a b : List VT) (he : a.map (·.2) = b.map (·.2)) (va vb : Value) (w : World) (ha : RdR w w.heap.size va a) (hb : RdR w w.heap.size vb b) :
    Calls Try.prog 16 #[va, vb] w fun e w' => e = .returned (.bool true) ∧ Below w.heap.size w w' := by
  have HA := hid ha
  have HB := hid hb
  have HE := hid he
  obtain ⟨A, cap, rfl, hl1, hl2⟩ := ha.len
  obtain ⟨A2, cap2, rfl, hm1, hm2⟩ := hb.len
  unfold maxLen at hl2 hm2
  have hll : b.length = a.length := by have := congrArg List.length he; simpa using this.symm
  have HLL := hid hll
  clear ha hb he
  go_enter Try.func16, Try.ntmps16
  rw [hll]
  go_wp2
  go_loopw [5] (fun v5 wr => ∃ k : Nat, v5 = .int .i64 k ∧ k ≤ a.length ∧ Hid (Below w.heap.size w wr)) (fun v5 _ => a.length - (intOf v5).toNat)
  case atStart => exact ⟨0, rfl, by omega, hid (Below.refl _ _)⟩
  case round =>
    obtain ⟨k, rfl, hk, hB⟩ := hrel
    by_cases hlt : k < a.length
    · have hra := (HA.out.below hB.out).mono hB.out.size
      have hrb := (HB.out.below hB.out).mono hB.out.size
      have hltb : k < b.length := by omega
      obtain ⟨b1, o1, rfl, hb1, c1⟩ := hra.at hlt
      obtain ⟨b2, o2, rfl, hb2, c2⟩ := hrb.at hltb
      have r1 := hra.2 _ (List.getElem_mem hlt)
      have r2 := hrb.2 _ (List.getElem_mem hltb)
      have hx : a[k].2 = b[k].2 := by
        have := congrArg (·[k]?) HE.out
        simpa [hlt, hltb] using this
      rw [← hx] at r2
      have hCM := fun (d : Nat) (os : Array Obj) => Calls.regrown_of (d := d) (os := os) (w := wr) (one_any a[k].2 a[k].2 a[k].1 b[k].1 (grow (redrawn wr d) os) ((r1.below (below_regrown wr d os)).mono (below_regrown wr d os).size) ((r2.below (below_regrown wr d os)).mono (below_regrown wr d os).size))
      simp only at hCM
      have CM := hid hCM
      clear hra hrb r1 r2 hx hCM hll
      go_wp2
      have k1 := cell_regrown c1
      have k2 := cell_regrown c2
      clear c1 c2
      refine wp_region_quiet_below (by kernel_rfl) (by kernel_rfl) ?_
      repeat (go_big_quiet_step (exact CM.out _ _))
      refine wpQuiet_nil ?_
      intro _ hw'
      obtain ⟨⟨nq, osq⟩, hw''⟩ := hw'
      subst hw''
      have HB3 := hid (hB.out.trans ((below_regrown wr nq osq).mono hB.out.size))
      clear hB
      go_wp2
      go_roundw
      case rel => exact ⟨k + 1, by go_num, by omega, HB3⟩
      case measure => simp [intOf]; omega
    · go_wp2
      go_ret
      exact ⟨rfl, hB.out⟩
end Go.Proofs.Ytmifcjiakiddkaa
