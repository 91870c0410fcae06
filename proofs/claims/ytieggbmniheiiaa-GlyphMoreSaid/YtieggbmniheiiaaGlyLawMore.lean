/-
  GlyphMore is true for every text and every byte: with a byte more it is a word, or a tag, just if the byte may stand there. No conditions.
-/
import Derived.Test.YtieggbmniheiiaaRows
import Derived.Test.YtieggbmniheiiaaGlyH
import Derived.ProofKit
import Derived.OpenShut
namespace Go.Proofs.Ytieggbmniheiiaa.glyphMore
open Go.ChangeShapes Go.WideShapes Go.ChangeAt Go.RowKit
open Go.ChangeMaps (open_string shut_string)

theorem own : ownKnob Try.prog.godebug = none := by kernel_rfl

/-- The walk of GlyphMore: it is true. -/
theorem glyphMore_true (s : ByteArray) (a1 : Int) (ws : s.size ≤ maxLen) (wb : (Lit.int .u8 a1).wf = true) (w : World) :
    Calls Try.prog 8 #[.string s, .int .u8 a1] w fun e w' => e = .returned (.bool true) ∧ Below w.heap.size w w' := by
  have hx : 0 ≤ a1 ∧ a1 ≤ 255 := by simpa [Lit.wf, IntKind.min, IntKind.max, IntKind.signed, IntKind.bits] using wb
  unfold maxLen at ws
  by_cases h : 2000 < s.size
  · go_enter Try.func8, Try.ntmps8
    go_wp2_with fail
    refine (alive_any _).mono ?_
    rintro e w1 ⟨rfl, h1⟩
    go_wp2
    go_ret
    exact ⟨rfl, h1⟩
  by_cases h0 : 0 < s.size
  · cases hwd : nameB 97 122 s
    · cases htg : nameB 65 90 s
      · skip
        by_cases c0 : a1 ≤ 47
        · exact more_0_00 s a1 h0 (by omega) (by omega) (by omega) hwd htg w
        by_cases c1 : a1 ≤ 57
        · exact more_1_00 s a1 h0 (by omega) (by omega) (by omega) hwd htg w
        by_cases c2 : a1 ≤ 64
        · exact more_2_00 s a1 h0 (by omega) (by omega) (by omega) hwd htg w
        by_cases c3 : a1 ≤ 90
        · exact more_3_00 s a1 h0 (by omega) (by omega) (by omega) hwd htg w
        by_cases c4 : a1 ≤ 94
        · exact more_4_00 s a1 h0 (by omega) (by omega) (by omega) hwd htg w
        by_cases c5 : a1 ≤ 95
        · exact more_5_00 s a1 h0 (by omega) (by omega) (by omega) hwd htg w
        by_cases c6 : a1 ≤ 96
        · exact more_6_00 s a1 h0 (by omega) (by omega) (by omega) hwd htg w
        by_cases c7 : a1 ≤ 122
        · exact more_7_00 s a1 h0 (by omega) (by omega) (by omega) hwd htg w
        exact more_8_00 s a1 h0 (by omega) (by omega) (by omega) hwd htg w
      · skip
        by_cases c0 : a1 ≤ 47
        · exact more_0_01 s a1 h0 (by omega) (by omega) (by omega) hwd htg w
        by_cases c1 : a1 ≤ 57
        · exact more_1_01 s a1 h0 (by omega) (by omega) (by omega) hwd htg w
        by_cases c2 : a1 ≤ 64
        · exact more_2_01 s a1 h0 (by omega) (by omega) (by omega) hwd htg w
        by_cases c3 : a1 ≤ 90
        · exact more_3_01 s a1 h0 (by omega) (by omega) (by omega) hwd htg w
        by_cases c4 : a1 ≤ 94
        · exact more_4_01 s a1 h0 (by omega) (by omega) (by omega) hwd htg w
        by_cases c5 : a1 ≤ 95
        · exact more_5_01 s a1 h0 (by omega) (by omega) (by omega) hwd htg w
        by_cases c6 : a1 ≤ 96
        · exact more_6_01 s a1 h0 (by omega) (by omega) (by omega) hwd htg w
        by_cases c7 : a1 ≤ 122
        · exact more_7_01 s a1 h0 (by omega) (by omega) (by omega) hwd htg w
        exact more_8_01 s a1 h0 (by omega) (by omega) (by omega) hwd htg w
    · have htg : nameB 65 90 s = false := by
        have h2 := nameL_both s.data.toList
        rw [← nameB_list, ← nameB_list, hwd] at h2
        simpa using h2
      by_cases c0 : a1 ≤ 47
      · exact more_0_10 s a1 h0 (by omega) (by omega) (by omega) hwd htg w
      by_cases c1 : a1 ≤ 57
      · exact more_1_10 s a1 h0 (by omega) (by omega) (by omega) hwd htg w
      by_cases c2 : a1 ≤ 64
      · exact more_2_10 s a1 h0 (by omega) (by omega) (by omega) hwd htg w
      by_cases c3 : a1 ≤ 90
      · exact more_3_10 s a1 h0 (by omega) (by omega) (by omega) hwd htg w
      by_cases c4 : a1 ≤ 94
      · exact more_4_10 s a1 h0 (by omega) (by omega) (by omega) hwd htg w
      by_cases c5 : a1 ≤ 95
      · exact more_5_10 s a1 h0 (by omega) (by omega) (by omega) hwd htg w
      by_cases c6 : a1 ≤ 96
      · exact more_6_10 s a1 h0 (by omega) (by omega) (by omega) hwd htg w
      by_cases c7 : a1 ≤ 122
      · exact more_7_10 s a1 h0 (by omega) (by omega) (by omega) hwd htg w
      exact more_8_10 s a1 h0 (by omega) (by omega) (by omega) hwd htg w
  · have h0 : s.size = 0 := by omega
    by_cases c0 : a1 ≤ 47
    · exact more_0_e s a1 h0 (by omega) (by omega) w
    by_cases c1 : a1 ≤ 57
    · exact more_1_e s a1 h0 (by omega) (by omega) w
    by_cases c2 : a1 ≤ 64
    · exact more_2_e s a1 h0 (by omega) (by omega) w
    by_cases c3 : a1 ≤ 90
    · exact more_3_e s a1 h0 (by omega) (by omega) w
    by_cases c4 : a1 ≤ 94
    · exact more_4_e s a1 h0 (by omega) (by omega) w
    by_cases c5 : a1 ≤ 95
    · exact more_5_e s a1 h0 (by omega) (by omega) w
    by_cases c6 : a1 ≤ 96
    · exact more_6_e s a1 h0 (by omega) (by omega) w
    by_cases c7 : a1 ≤ 122
    · exact more_7_e s a1 h0 (by omega) (by omega) w
    exact more_8_e s a1 h0 (by omega) (by omega) w

set_option maxRecDepth 100000 in
theorem glyphMore_lifted (os : Os) (started : os.Started) (H : Type) (enc : TypeId × Value → H) :
    ReturnsInHanded {} Try.checked os 8 .any (Rows.glyphMoreSpec.pre6 enc Try.prog Try.f8 Rows.glyphMoreRow.domain false) (Rows.glyphMoreSpec.post enc Try.prog Try.f8 false true false false) := by
  refine returnsInHanded_of_change (C := Try.checked) own started (by kernel_rfl) Try.func8
    (ChangeSpec.witness6 (enc := enc) (C := Try.checked) false ⟨#[], #[.string ⟨#[]⟩, .int .u8 0], []⟩ 8 (by kernel_rfl) (by kernel_rfl) (by kernel_rfl) (by kernel_rfl)) ?_
  intro W base args ds gs before hval0 hW hcnd _
  have hval : ∀ (j : Nat) t v, Try.f8.params[j]? = some t → args[j]? = some v → Value.okWide Try.prog W .any base t v := hval0
  have hW' := hW
  obtain ⟨p, q, hA0, hV, rfl, hfz, hnd⟩ := hW
  have hA : DataW.TrodAll enc Try.prog W 0 (fun _ => true) true Try.f8.params.toList args.toList ds p := hA0
  rw [Try.params8] at hA hval
  obtain ⟨v0, vs0, d0, ds0, p0, q0, hargs, rfl, rfl, h0, r0⟩ := trodAll_cons hA
  obtain ⟨v1, vs1, d1, ds1, p1, q1, hargs1, rfl, rfl, h1, r1⟩ := trodAll_cons r0
  obtain ⟨hn, rfl, rfl⟩ := trodAll_nil r1
  obtain rfl : args = #[v0, v1] := by cases args; simp_all
  obtain ⟨rfl, rfl⟩ := trodVars_none hV
  obtain ⟨a0, rfl, rfl, rfl, w0⟩ := open_string Try.underlying9 (hval 0 9 v0 rfl rfl) h0
  obtain ⟨a1, rfl, rfl, rfl, w1⟩ := open_int Try.underlying5 (hval 1 5 v1 rfl rfl) h1
  clear hA0 hval0
  simp only [List.append_nil] at hW'
  refine (glyphMore_true a0 a1 w0 w1 W).mono fun e W' ⟨he, hB⟩ => ?_
  subst he
  refine ⟨_, rfl, _, _, _, [], [], [], hW', ?_, ?_, ?_, hB.frame _, fun h => by cases h⟩
  · exact trodAll_cons_mk (shut_bool Try.underlying4 _) trodAll_mk0
  · exact (trodAll_cons_mk (shut_string Try.underlying9 w0) (trodAll_cons_mk (shut_int Try.underlying5 w1) trodAll_mk0))
  · rfl

/-- GlyphMore: the given statement. -/
theorem glyphMore_holds : Rows.GlyphMoreSaid :=
  OpenClaim.holds_of_wide 8 Try.f8 rfl rfl rfl rfl rfl rfl rfl ⟨rfl, rfl, rfl, rfl, rfl⟩ rfl rfl rfl rfl rfl (by kernel_rfl) Try.func8 (by kernel_rfl)
    (of_decide_eq_true (by kernel_rfl)) (by unfold Func.isWrapper; first | (rw [if_pos (by decide +kernel)]; kernel_rfl) | (rw [if_neg (by decide +kernel)]; exact ⟨rfl, rfl⟩))
    (fun os started H enc _ => glyphMore_lifted os started H enc)

end Go.Proofs.Ytieggbmniheiiaa.glyphMore
