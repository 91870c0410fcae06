/-
  The walk of the live question: it is true; the world grows above what was there. No conditions.
-/
import Derived.Test.YtieggbmniheiiaaGlyX
namespace Go.Proofs.Ytieggbmniheiiaa
open Go.RowKit

theorem live1 (w : World) : Calls Try.prog 18 #[.string ⟨#[34, 97, 92, 34, 98, 34, 99]⟩] w fun e w' => e = .returned (.tuple #[.string ⟨#[97, 34, 98]⟩, .int .i64 6, .int .i64 0]) ∧ Below w.heap.size w w' :=
  (unquote_any _ (by decide) w).mono fun _ _ ⟨he, hw⟩ => ⟨he.trans (by kernel_rfl), hw⟩
theorem live2 (w : World) : Calls Try.prog 20 #[.string ⟨#[97, 10, 98, 99]⟩, .int .i64 3] w fun e w' => e = .returned (.tuple #[.int .i64 2, .int .i64 2]) ∧ Below w.heap.size w w' :=
  (place_any _ (by decide) 3 w).mono fun _ _ ⟨he, hw⟩ => ⟨he.trans (by kernel_rfl), hw⟩
theorem live3 (w : World) : Calls Try.prog 16 #[.string ⟨#[97, 34, 98]⟩] w fun e w' => e = .returned (.string ⟨#[34, 97, 92, 34, 98, 34]⟩) ∧ Below w.heap.size w w' :=
  (quote_any _ (by decide) w).mono fun _ _ ⟨he, hw⟩ => ⟨he.trans (by kernel_rfl), hw⟩
theorem live4 (w : World) : Calls Try.prog 12 #[.string ⟨#[97, 66, 95, 49]⟩] w fun e w' => e = .returned (.bool true) ∧ Below w.heap.size w w' :=
  (isWord_any _ (by decide) w).mono fun _ _ ⟨he, hw⟩ => ⟨he.trans (by kernel_rfl), hw⟩
theorem live5 (w : World) : Calls Try.prog 14 #[.string ⟨#[97]⟩] w fun e w' => e = .returned (.bool false) ∧ Below w.heap.size w w' :=
  (isTag_any _ (by decide) w).mono fun _ _ ⟨he, hw⟩ => ⟨he.trans (by kernel_rfl), hw⟩

/-- One step more of a world that grows. -/
theorem up {B : Nat} {w w1 w2 : World} (h : Below B w w1) (h2 : Below w1.heap.size w1 w2) (hB : B ≤ w.heap.size) : Below B w w2 := h.trans (h2.mono (Nat.le_trans hB h.size))

set_option maxHeartbeats 1000000 in
set_option maxRecDepth 100000 in
theorem alive_any (w : World) : Calls Try.prog 11 #[] w fun e w' => e = .returned (.bool true) ∧ Below w.heap.size w w' := by
  go_enter Try.func11, Try.ntmps11
  go_wp2_with fail
  refine (live1 _).mono ?_
  rintro e w1 ⟨rfl, h1⟩
  go_wp2_with fail
  refine (live2 _).mono ?_
  rintro e w2 ⟨rfl, h2⟩
  go_wp2_with fail
  refine (live3 _).mono ?_
  rintro e w3 ⟨rfl, h3⟩
  go_wp2_with fail
  refine (live4 _).mono ?_
  rintro e w4 ⟨rfl, h4⟩
  go_wp2_with fail
  refine (live5 _).mono ?_
  rintro e w5 ⟨rfl, h5⟩
  go_wp2
  go_ret
  refine ⟨ret_bool ?_, ?_⟩
  · rfl
  · have hl := Nat.le_refl w.heap.size
    exact up (up (up (up h1 h2 hl) h3 hl) h4 hl) h5 hl

end Go.Proofs.Ytieggbmniheiiaa
