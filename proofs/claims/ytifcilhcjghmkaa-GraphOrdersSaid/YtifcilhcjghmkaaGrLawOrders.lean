/-
  GraphOrders is true for any modules. No conditions.
-/
import Derived.Test.YtifcilhcjghmkaaRows
import Derived.Test.YtifcilhcjghmkaaGrZa
namespace Go.Proofs.Ytifcilhcjghmkaa.graphOrders
open Go.ChangeShapes Go.WideShapes Go.ChangeAt Go.RowKit

theorem own : ownKnob Try.prog.godebug = none := by kernel_rfl

abbrev Post (w : World) (e : Ending) (w' : World) : Prop := e = .returned (.bool true) ∧ Below w.heap.size w w'

set_option maxHeartbeats 4000000 in
set_option maxRecDepth 100000 in
theorem orders_true {W : World} (v : Value) (l : List Gr.Md) (hl : RdM W W.heap.size v l) :
    Calls Try.prog 3 #[v] W (Post W) := by
  have L0 := hid hl
  have HF := hid (few_any l v W hl)
  obtain ⟨A, cap, rfl, -, -, -⟩ := hl
  go_enter Try.func3, Try.ntmps3
  go_wp2_with fail
  refine (HF.out).mono ?_
  rintro e w1 ⟨b, rfl, hb, rfl⟩
  have HAL := hid (law_alive W)
  cases b with
  | false =>
    clear hb HF
    go_wp2_with fail
    refine (HAL.out).mono ?_
    rintro e w2 ⟨rfl, h0⟩
    have X2 := hid h0
    clear h0
    go_wp2_with fail
    go_ret
    exact ⟨rfl, X2.out⟩
  | true =>
    have HQ := hid (hb.1 rfl)
    clear hb HF HAL
    have HN := hid (order_any l HQ.out _ W L0.out)
    go_wp2_with fail
    refine (HN.out).mono ?_
    rintro e w3 ⟨v3, out, at1, e1, rfl, hr, ha, h0⟩
    have X3 := hid h0
    have L3 := hid ((L0.out.below h0).mono h0.size)
    have R3 := hid hr
    have A3 := hid ha
    clear h0 hr ha HN
    have HM := hid (rorder_any l HQ.out _ w3 L3.out)
    go_wp2_with fail
    refine (HM.out).mono ?_
    rintro e w4 ⟨v4, out2, at2, e2, rfl, hr, ha, h0⟩
    obtain ⟨e3, e4, e5⟩ := A3.out.one ha
    subst e3 e4 e5
    have X4 := hid (X3.out.trans (h0.mono X3.out.size))
    have R4 := hid ((R3.out.below h0).mono h0.size)
    have S4 := hid hr
    have hn := A3.out.len
    have hn2 := HQ.out.n
    have HAL := hid (law_alive w4)
    clear h0 hr ha HM
    go_wp2_with fail
    refine (HAL.out).mono ?_
    rintro e w5 ⟨rfl, h0⟩
    have X5 := hid (X4.out.trans (h0.mono X4.out.size))
    have HE := hid (ints_any out out (by omega) (by omega) v3 v4 w5 ((R4.out.below h0).mono h0.size) ((S4.out.below h0).mono h0.size))
    rw [decide_eq_true rfl] at HE
    clear h0 HAL
    go_wp2_with fail
    refine (HE.out).mono ?_
    rintro e w6 ⟨rfl, -, h0⟩
    have X6 := hid (X5.out.trans (h0.mono X5.out.size))
    clear h0
    go_wp2_with fail
    go_ret
    exact ⟨rfl, X6.out⟩

set_option maxRecDepth 100000 in
theorem graphOrders_lifted (os : Os) (started : os.Started) (H : Type) (enc : TypeId × Value → H) :
    ReturnsInHanded {} Try.checked os 3 .any (Rows.graphOrdersSpec.pre6 enc Try.prog Try.f3 Rows.graphOrdersRow.domain false) (Rows.graphOrdersSpec.post enc Try.prog Try.f3 false true false false) := by
  refine returnsInHanded_of_change (C := Try.checked) own started (by kernel_rfl) Try.func3
    (ChangeSpec.witness6 (enc := enc) (C := Try.checked) false ⟨#[], #[.slice none 0 0], []⟩ 8 (by kernel_rfl) (by kernel_rfl) (by kernel_rfl) (by kernel_rfl)) ?_
  intro W base args ds gs before hval0 hW hcnd _
  have hlts := hW.lt
  have hval : ∀ (j : Nat) t v, Try.f3.params[j]? = some t → args[j]? = some v → Value.okWide Try.prog W .any base t v := hval0
  have hW' := hW
  obtain ⟨p, q, hA0, hV, rfl, hfz, hnd⟩ := hW
  have hA : DataW.TrodAll enc Try.prog W 0 (fun _ => true) true Try.f3.params.toList args.toList ds p := hA0
  rw [Try.params3] at hA hval
  obtain ⟨v0, vs0, d0, ds0, p0, q0, hargs0, rfl, rfl, h0, r0⟩ := trodAll_cons hA
  obtain ⟨hn, rfl, rfl⟩ := trodAll_nil r0
  obtain rfl : args = #[v0] := by cases args; simp_all
  obtain ⟨rfl, rfl⟩ := trodVars_none hV
  obtain ⟨sa0, sl0, sc0, hsv0⟩ := okWide_slice Try.underlying22 (hval 0 22 v0 rfl rfl)
  obtain ⟨fuel0, hf0⟩ := h0
  obtain ⟨u0, l0, hu0, hR0⟩ := rdm_of_trod hf0
  obtain rfl : v0 = u0 := by
    rw [hsv0] at hu0
    rw [hsv0]
    simpa [Value.cells] using hu0
  clear hA0 hval0
  simp only [List.append_nil] at hW' hlts
  refine (orders_true v0 l0 hR0 (W := W)).mono fun e W' ⟨he, hB⟩ => ?_
  subst he
  refine ⟨_, rfl, _, _, _, [], (p0 ++ []), [], by simpa using hW', ?_, ?_, ?_, hB.frame _, fun h => by cases h⟩
  · exact trodAll_cons_mk (shut_bool Try.underlying4 _) trodAll_mk0
  · exact (trodAll_cons_mk (Below.trod (by kernel_rfl) (by kernel_rfl) (of_decide_eq_true (by kernel_rfl)) ⟨fuel0, hf0⟩ hB (fun x hx => hlts x (by simp [hx]))) trodAll_mk0)
  · rfl

/-- GraphOrders: the given statement. -/
theorem graphOrders_holds : Rows.GraphOrdersSaid :=
  OpenClaim.holds_of_wide 3 Try.f3 rfl rfl rfl rfl rfl rfl rfl ⟨rfl, rfl, rfl, rfl, rfl⟩ rfl rfl rfl rfl rfl (by kernel_rfl) Try.func3 (by kernel_rfl)
    (of_decide_eq_true (by kernel_rfl)) (by unfold Func.isWrapper; first | (rw [if_pos (by decide +kernel)]; kernel_rfl) | (rw [if_neg (by decide +kernel)]; exact ⟨rfl, rfl⟩))
    (fun os started H enc _ => graphOrders_lifted os started H enc)

end Go.Proofs.Ytifcilhcjghmkaa.graphOrders
