/-
  GlyphReads is true for every text: glyph and the reference tell the same of what it stands for. No conditions.
-/
import Derived.Test.YtieggbmniheiiaaRows
import Derived.Test.YtieggbmniheiiaaGlyL
import Derived.ProofKit
import Derived.OpenShut
namespace Go.Proofs.Ytieggbmniheiiaa.glyphReads
open Go.ChangeShapes Go.WideShapes Go.ChangeAt Go.RowKit
open Go.ChangeMaps (open_string shut_string)

theorem own : ownKnob Try.prog.godebug = none := by kernel_rfl

set_option maxHeartbeats 1000000 in
set_option maxRecDepth 100000 in
/-- The walk of GlyphReads: it is true. -/
theorem glyphReads_true (s : ByteArray) (ws : s.size ≤ maxLen) (w : World) :
    Calls Try.prog 4 #[.string s] w fun e w' => e = .returned (.bool true) ∧ Below w.heap.size w w' := by
  unfold maxLen at ws
  by_cases h : 2000 < s.size
  · go_enter Try.func4, Try.ntmps4
    go_wp2_with fail
    refine (alive_any _).mono ?_
    rintro e w1 ⟨rfl, h1⟩
    go_wp2
    go_ret
    exact ⟨rfl, h1⟩
  · have hs : s.size ≤ 2000000 := by omega
    obtain ⟨x, n, c, hx⟩ : ∃ (x : ByteArray) (n c : Int), unqV (G.unqL s.data.toList) = .tuple #[.string x, .int .i64 n, .int .i64 c] := by
      cases G.unqL s.data.toList with
      | none => exact ⟨_, _, _, rfl⟩
      | some y => exact ⟨_, _, _, rfl⟩
    have HX := hid hx
    have hp : ∀ w : World, Calls Try.prog 18 #[.string s] w fun e w' => e = .returned (.tuple #[.string x, .int .i64 n, .int .i64 c]) ∧ Below w.heap.size w w' := fun w => (unquote_any s hs w).mono fun _ _ ⟨he, hw⟩ => ⟨by rw [he, HX.out], hw⟩
    have hr : ∀ w : World, Calls Try.prog 19 #[.string s] w fun e w' => e = .returned (.tuple #[.string x, .int .i64 n, .int .i64 c]) ∧ Below w.heap.size w w' := fun w => (refUnquote_any s hs w).mono fun _ _ ⟨he, hw⟩ => ⟨by rw [he, HX.out], hw⟩
    have HP := hid hp
    have HR := hid hr
    clear hx hp hr
    go_enter Try.func4, Try.ntmps4
    go_wp2_with fail
    refine (HP.out _).mono ?_
    rintro e w1 ⟨rfl, h1⟩
    go_wp2_with fail
    refine (HR.out _).mono ?_
    rintro e w2 ⟨rfl, h2⟩
    go_wp2_with fail
    refine (alive_any _).mono ?_
    rintro e w3 ⟨rfl, h3⟩
    go_wp2
    all_goals go_ret
    all_goals refine ⟨ret_bool ?_, up (up h1 h2 (Nat.le_refl _)) h3 (Nat.le_refl _)⟩
    all_goals simp

set_option maxRecDepth 100000 in
theorem glyphReads_lifted (os : Os) (started : os.Started) (H : Type) (enc : TypeId × Value → H) :
    ReturnsInHanded {} Try.checked os 4 .any (Rows.glyphReadsSpec.pre6 enc Try.prog Try.f4 Rows.glyphReadsRow.domain false) (Rows.glyphReadsSpec.post enc Try.prog Try.f4 false true false false) := by
  refine returnsInHanded_of_change (C := Try.checked) own started (by kernel_rfl) Try.func4
    (ChangeSpec.witness6 (enc := enc) (C := Try.checked) false ⟨#[], #[.string ⟨#[]⟩], []⟩ 8 (by kernel_rfl) (by kernel_rfl) (by kernel_rfl) (by kernel_rfl)) ?_
  intro W base args ds gs before hval0 hW hcnd _
  have hval : ∀ (j : Nat) t v, Try.f4.params[j]? = some t → args[j]? = some v → Value.okWide Try.prog W .any base t v := hval0
  have hW' := hW
  obtain ⟨p, q, hA0, hV, rfl, hfz, hnd⟩ := hW
  have hA : DataW.TrodAll enc Try.prog W 0 (fun _ => true) true Try.f4.params.toList args.toList ds p := hA0
  rw [Try.params4] at hA hval
  obtain ⟨v0, vs0, d0, ds0, p0, q0, hargs, rfl, rfl, h0, r0⟩ := trodAll_cons hA
  obtain ⟨hn, rfl, rfl⟩ := trodAll_nil r0
  obtain rfl : args = #[v0] := by cases args; simp_all
  obtain ⟨rfl, rfl⟩ := trodVars_none hV
  obtain ⟨a0, rfl, rfl, rfl, w0⟩ := open_string Try.underlying9 (hval 0 9 v0 rfl rfl) h0
  clear hA0 hval0
  simp only [List.append_nil] at hW'
  refine (glyphReads_true a0 w0 W).mono fun e W' ⟨he, hB⟩ => ?_
  subst he
  refine ⟨_, rfl, _, _, _, [], [], [], hW', ?_, ?_, ?_, hB.frame _, fun h => by cases h⟩
  · exact trodAll_cons_mk (shut_bool Try.underlying4 _) trodAll_mk0
  · exact (trodAll_cons_mk (shut_string Try.underlying9 w0) trodAll_mk0)
  · rfl

/-- GlyphReads: the given statement. -/
theorem glyphReads_holds : Rows.GlyphReadsSaid :=
  OpenClaim.holds_of_wide 4 Try.f4 rfl rfl rfl rfl rfl rfl rfl ⟨rfl, rfl, rfl, rfl, rfl⟩ rfl rfl rfl rfl rfl (by kernel_rfl) Try.func4 (by kernel_rfl)
    (of_decide_eq_true (by kernel_rfl)) (by unfold Func.isWrapper; first | (rw [if_pos (by decide +kernel)]; kernel_rfl) | (rw [if_neg (by decide +kernel)]; exact ⟨rfl, rfl⟩))
    (fun os started H enc _ => glyphReads_lifted os started H enc)

end Go.Proofs.Ytieggbmniheiiaa.glyphReads
