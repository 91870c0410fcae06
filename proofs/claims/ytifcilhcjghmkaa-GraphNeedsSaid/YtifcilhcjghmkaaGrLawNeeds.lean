/-
  GraphNeeds is true for any modules, any number. No conditions.
-/
import Derived.Test.YtifcilhcjghmkaaRows
import Derived.Test.YtifcilhcjghmkaaGrZa
namespace Go.Proofs.Ytifcilhcjghmkaa.graphNeeds
open Go.ChangeShapes Go.WideShapes Go.ChangeAt Go.RowKit

theorem own : ownKnob Try.prog.godebug = none := by kernel_rfl

abbrev Post (w : World) (e : Ending) (w' : World) : Prop := e = .returned (.bool true) ∧ Below w.heap.size w w'

set_option maxHeartbeats 4000000 in
set_option maxRecDepth 100000 in
theorem needs_true {W : World} (v : Value) (l : List Gr.Md) (hl : RdM W W.heap.size v l) (i : Int) (hi : (Lit.int .i64 i).wf = true) :
    Calls Try.prog 4 #[v, .int .i64 i] W (Post W) := by
  have hi2 : -9223372036854775808 ≤ i ∧ i < 9223372036854775808 := by
    simp only [Lit.wf, Bool.and_eq_true, decide_eq_true_eq] at hi
    exact ⟨hi.1, Int.lt_of_le_of_lt hi.2 (by decide)⟩
  have L0 := hid hl
  have HI := hid hi2
  have HF := hid (few_any l v W hl)
  obtain ⟨A, cap, rfl, -, -, -⟩ := hl
  clear hi hi2
  go_enter Try.func4, Try.ntmps4
  go_wp2_with fail
  refine (HF.out).mono ?_
  rintro e w1 ⟨b, rfl, hb, rfl⟩
  have HAL := hid (law_alive W)
  cases b with
  | false =>
    clear hb HF
    go_wp2_with fail
    refine (HAL.out).mono ?_
    rintro e w2 ⟨rfl, h0⟩
    have X2 := hid h0
    clear h0
    go_wp2_with fail
    go_ret
    exact ⟨rfl, X2.out⟩
  | true =>
    have HQ := hid (hb.1 rfl)
    clear hb HF
    go_wp2_with fail
    refine (HAL.out).mono ?_
    rintro e w2 ⟨rfl, h0⟩
    have X2 := hid h0
    have L2 := hid ((L0.out.below h0).mono h0.size)
    clear h0 HAL
    have HN := hid (needs_any l HQ.out _ i HI.out.1 HI.out.2 w2 L2.out)
    go_wp2_with fail
    refine (HN.out).mono ?_
    rintro e w3 ⟨v3, ns, rfl, hr, ha, h0, -⟩
    have X3 := hid (X2.out.trans (h0.mono X2.out.size))
    have L3 := hid ((L2.out.below h0).mono h0.size)
    have R3 := hid hr
    have A3 := hid ha
    clear h0 hr ha HN
    have HM := hid (rneeds_any l HQ.out _ i HI.out.1 HI.out.2 w3 L3.out)
    go_wp2_with fail
    refine (HM.out).mono ?_
    rintro e w4 ⟨v4, ms, rfl, hr, ha, hlen, h0⟩
    have e : ns = ms := A3.out.one ha
    subst e
    have X4 := hid (X3.out.trans (h0.mono X3.out.size))
    have hn := HQ.out.n
    have HE := hid (ints_any ns ns (by omega) (by omega) v3 v4 w4 ((R3.out.below h0).mono h0.size) hr)
    rw [decide_eq_true rfl] at HE
    clear h0 hr ha HM hlen
    go_wp2_with fail
    refine (HE.out).mono ?_
    rintro e w5 ⟨rfl, -, h0⟩
    have X5 := hid (X4.out.trans (h0.mono X4.out.size))
    clear h0
    go_wp2_with fail
    go_ret
    exact ⟨rfl, X5.out⟩

set_option maxRecDepth 100000 in
theorem graphNeeds_lifted (os : Os) (started : os.Started) (H : Type) (enc : TypeId × Value → H) :
    ReturnsInHanded {} Try.checked os 4 .any (Rows.graphNeedsSpec.pre6 enc Try.prog Try.f4 Rows.graphNeedsRow.domain false) (Rows.graphNeedsSpec.post enc Try.prog Try.f4 false true false false) := by
  refine returnsInHanded_of_change (C := Try.checked) own started (by kernel_rfl) Try.func4
    (ChangeSpec.witness6 (enc := enc) (C := Try.checked) false ⟨#[], #[.slice none 0 0, .int .i64 0], []⟩ 8 (by kernel_rfl) (by kernel_rfl) (by kernel_rfl) (by kernel_rfl)) ?_
  intro W base args ds gs before hval0 hW hcnd _
  have hlts := hW.lt
  have hval : ∀ (j : Nat) t v, Try.f4.params[j]? = some t → args[j]? = some v → Value.okWide Try.prog W .any base t v := hval0
  have hW' := hW
  obtain ⟨p, q, hA0, hV, rfl, hfz, hnd⟩ := hW
  have hA : DataW.TrodAll enc Try.prog W 0 (fun _ => true) true Try.f4.params.toList args.toList ds p := hA0
  rw [Try.params4] at hA hval
  obtain ⟨v0, vs0, d0, ds0, p0, q0, hargs0, rfl, rfl, h0, r0⟩ := trodAll_cons hA
  obtain ⟨v1, vs1, d1, ds1, p1, q1, hargs1, rfl, rfl, h1, r1⟩ := trodAll_cons r0
  obtain ⟨hn, rfl, rfl⟩ := trodAll_nil r1
  obtain rfl : args = #[v0, v1] := by cases args; simp_all
  obtain ⟨rfl, rfl⟩ := trodVars_none hV
  obtain ⟨sa0, sl0, sc0, hsv0⟩ := okWide_slice Try.underlying22 (hval 0 22 v0 rfl rfl)
  obtain ⟨fuel0, hf0⟩ := h0
  obtain ⟨u0, l0, hu0, hR0⟩ := rdm_of_trod hf0
  obtain rfl : v0 = u0 := by
    rw [hsv0] at hu0
    rw [hsv0]
    simpa [Value.cells] using hu0
  obtain ⟨a1, rfl, rfl, rfl, w1⟩ := open_int Try.underlying3 (hval 1 3 v1 rfl rfl) h1
  clear hA0 hval0
  simp only [List.append_nil] at hW' hlts
  refine (needs_true v0 l0 hR0 a1 w1 (W := W)).mono fun e W' ⟨he, hB⟩ => ?_
  subst he
  refine ⟨_, rfl, _, _, _, [], (p0 ++ ([] ++ [])), [], by simpa using hW', ?_, ?_, ?_, hB.frame _, fun h => by cases h⟩
  · exact trodAll_cons_mk (shut_bool Try.underlying4 _) trodAll_mk0
  · exact (trodAll_cons_mk (Below.trod (by kernel_rfl) (by kernel_rfl) (of_decide_eq_true (by kernel_rfl)) ⟨fuel0, hf0⟩ hB (fun x hx => hlts x (by simp [hx]))) (trodAll_cons_mk (shut_int Try.underlying3 w1) trodAll_mk0))
  · rfl

/-- GraphNeeds: the given statement. -/
theorem graphNeeds_holds : Rows.GraphNeedsSaid :=
  OpenClaim.holds_of_wide 4 Try.f4 rfl rfl rfl rfl rfl rfl rfl ⟨rfl, rfl, rfl, rfl, rfl⟩ rfl rfl rfl rfl rfl (by kernel_rfl) Try.func4 (by kernel_rfl)
    (of_decide_eq_true (by kernel_rfl)) (by unfold Func.isWrapper; first | (rw [if_pos (by decide +kernel)]; kernel_rfl) | (rw [if_neg (by decide +kernel)]; exact ⟨rfl, rfl⟩))
    (fun os started H enc _ => graphNeeds_lifted os started H enc)

end Go.Proofs.Ytifcilhcjghmkaa.graphNeeds
