/-
  AstMay is true for any two rows of parts: whether they are expressions, and the same, is told as the reference tells it. No conditions but the card's own.
-/
import Derived.Test.YtddabgiphdkjnaaGreatDoorRows
import Derived.Test.YtddabgiphdkjnaaGreatDoorCards
import Derived.Test.YtddabgiphdkjnaaGreatDoorTie
import Derived.Test.YtddabgiphdkjnaaGreatDoorMA17
import Derived.Test.YtddabgiphdkjnaaGreatDoorMA16
import Derived.Test.YtddabgiphdkjnaaGreatDoorMA7
import Derived.SevenTiedAt
namespace Go.Proofs.YtddabgiphdkjnaaGreatDoor.astMay
open Go.ChangeShapes Go.WideShapes Go.ChangeAt Go.RowKit

theorem own : ownKnob Tryz.prog.godebug = none := by kernel_rfl

set_option maxHeartbeats 4000000 in
set_option maxRecDepth 100000 in
theorem astMay_true {W : World} (va : Value) (la : List E.Pt) (ha : RdP W W.heap.size va la) (_ : ∀ y ∈ la, NumP y) (vb : Value) (lb : List E.Pt) (hb : RdP W W.heap.size vb lb) (_ : ∀ y ∈ lb, NumP y) (hT : Tab W) (hK : KTab W) (hM : MCell W) :
    Calls Tryz.prog 3 #[va, vb] W fun e w' => e = .returned (.bool true) ∧ Below W.heap.size W w' := by
  have FA := hid (rfew_any la 120 (by decide) va W ha)
  have FB := hid (rfew_any lb 120 (by decide) vb W hb)
  have AL := hid (aalive_any W hT hK hM)
  have HA := hid ha
  have HB := hid hb
  have HK := hid hK
  have HM := hid hM
  obtain ⟨Aa, ca, rfl, -⟩ := ha
  obtain ⟨Ab, cb, rfl, -⟩ := hb
  clear hT hK hM
  cases hfa : E.fewL la 120 with
  | false =>
    rw [hfa] at FA
    clear hfa
    go_enter Tryz.func3, Tryz.ntmps3
    go_wp2_with fail
    refine (FA.out).mono ?_
    rintro e w1 ⟨rfl, rfl⟩
    go_wp2_with fail
    refine (AL.out).mono ?_
    rintro e w1 ⟨rfl, h1⟩
    go_wp2
    go_ret
    exact ⟨rfl, h1⟩
  | true =>
    rw [hfa] at FA
    have HSA : Hid (∀ x ∈ la, Small x) := hid fun x hx => E.small_of_few (List.all_eq_true.1 ((Bool.and_eq_true _ _).mp hfa).2 x hx)
    clear hfa
    cases hfb : E.fewL lb 120 with
    | false =>
      rw [hfb] at FB
      clear hfb
      go_enter Tryz.func3, Tryz.ntmps3
      go_wp2_with fail
      refine (FA.out).mono ?_
      rintro e w1 ⟨rfl, rfl⟩
      go_wp2_with fail
      refine (FB.out).mono ?_
      rintro e w1 ⟨rfl, rfl⟩
      go_wp2_with fail
      refine (AL.out).mono ?_
      rintro e w1 ⟨rfl, h1⟩
      go_wp2
      go_ret
      exact ⟨rfl, h1⟩
    | true =>
      rw [hfb] at FB
      clear hfb
      go_enter Tryz.func3, Tryz.ntmps3
      go_wp2_with fail
      refine (FA.out).mono ?_
      rintro e w1 ⟨rfl, rfl⟩
      go_wp2_with fail
      refine (FB.out).mono ?_
      rintro e w1 ⟨rfl, rfl⟩
      go_wp2_with fail
      refine (AL.out).mono ?_
      rintro e w1 ⟨rfl, h1⟩
      have B1 := hid h1
      have A1 := hid (HA.out.below h1)
      have C1 := hid (HB.out.below h1)
      have HC := hid (aright_all la HSA.out _ _ A1.out (HK.out.grows h1) (HM.out.grows h1))
      clear h1 HA HB AL FA FB
      go_wp2_with fail
      refine (HC.out).mono ?_
      rintro e w2 ⟨rfl, h2⟩
      have B2 := hid (B1.out.trans (h2.mono B1.out.size))
      have A2 := hid (A1.out.below h2)
      have C2 := hid (C1.out.below h2)
      have HC := hid (raright_any la HSA.out _ _ A2.out)
      clear h2 A1 C1 B1
      go_wp2_with fail
      refine (HC.out).mono ?_
      rintro e w3 ⟨rfl, h3⟩
      have B3 := hid (B2.out.trans (h3.mono B2.out.size))
      have A3 := hid (A2.out.below h3)
      have C3 := hid (C2.out.below h3)
      have HC := hid (asame_any la lb _ _ _ A3.out C3.out)
      clear h3 A2 C2 B2
      go_wp2_with fail
      refine (HC.out).mono ?_
      rintro e w4 ⟨rfl, h4⟩
      have B4 := hid (B3.out.trans (h4.mono B3.out.size))
      have A4 := hid (A3.out.below h4)
      have C4 := hid (C3.out.below h4)
      have HC := hid (refasame_any la lb _ _ _ A4.out C4.out)
      clear h4 A3 C3 B3
      go_wp2_with fail
      refine (HC.out).mono ?_
      rintro e w5 ⟨rfl, h5⟩
      have B5 := hid (B4.out.trans (h5.mono B4.out.size))
      clear h5 A4 C4 B4
      go_wp2
      go_ret
      exact ⟨ret_bool (by simp), B5.out⟩

set_option maxRecDepth 100000 in
theorem astMay_lifted (os : Os) (started : os.Started) (H : Type) (enc : TypeId × Value → H) :
    ReturnsInHanded {} Tryz.checked os 3 .any (fun w args => (Rows.astMaySpec.pre enc Tryz.prog Tryz.f3 [] false w args ∧ laidMetH Tryz.prog laidAll w) ∧ sizedMet enc Tryz.prog Tryz.f3 (OpenSpec.ofChange Rows.astMaySpec) false w args)
      (Rows.astMaySpec.post enc Tryz.prog Tryz.f3 false true false false) := by
  refine wrap_shaped (C := Tryz.checked) (X := fun w _ => laidMetH Tryz.prog laidAll w) (fun _ _ _ hh h => h.of_heap hh) own started (by kernel_rfl) Tryz.func3
    (ChangeSpec.witness_shaped (enc := enc) (C := Tryz.checked) (os := os) (X := fun w _ => laidMetH Tryz.prog laidAll w) false (World.doorLaid Tryz.prog 400 os) #[.slice none 0 0, .slice none 0 0] 8 rfl (World.shaped_of_RefB (by kernel_rfl) (by kernel_rfl)) (by kernel_rfl) (by kernel_rfl) (by kernel_rfl) (door_met os _)) ?_
  intro W base args ds gs before hval0 hW hSh hL
  obtain ⟨hT, hK⟩ := tabs_of_laid hL
  have hM := mcell_of_shaped hSh (by have := hT.size; omega)
  have hlts := hW.lt
  have hval : ∀ (j : Nat) t v, Tryz.f3.params[j]? = some t → args[j]? = some v → Value.okWide Tryz.prog W .any base t v := hval0
  have hW' := hW
  obtain ⟨p, q, hA0, hV, rfl, hfz, hnd⟩ := hW
  have hA : DataW.TrodAll enc Tryz.prog W 0 (fun _ => true) true Tryz.f3.params.toList args.toList ds p := hA0
  rw [Tryz.params3] at hA hval
  obtain ⟨v0, vs0, d0, ds0, p0, q0, hargs, rfl, rfl, h0, r0⟩ := trodAll_cons hA
  obtain ⟨v1, vs1, d1, ds1, p1, q1, hargs1, rfl, rfl, h1, r1⟩ := trodAll_cons r0
  obtain ⟨hn, rfl, rfl⟩ := trodAll_nil r1
  obtain rfl : args = #[v0, v1] := by cases args; simp_all
  obtain ⟨rfl, rfl⟩ := trodVars_none hV
  obtain ⟨sa0, sl0, sc0, hsv0⟩ := okWide_slice Tryz.underlying23 (hval 0 23 v0 rfl rfl)
  obtain ⟨sa1, sl1, sc1, hsv1⟩ := okWide_slice Tryz.underlying23 (hval 1 23 v1 rfl rfl)
  obtain ⟨fuel0, hf0⟩ := h0
  obtain ⟨u0, l0, hu0, hR0, hn0⟩ := rdp_of_trod hf0
  obtain rfl : v0 = u0 := by
    rw [hsv0] at hu0
    rw [hsv0]
    simpa [Value.cells] using hu0
  obtain ⟨fuel1, hf1⟩ := h1
  obtain ⟨u1, l1, hu1, hR1, hn1⟩ := rdp_of_trod hf1
  obtain rfl : v1 = u1 := by
    rw [hsv1] at hu1
    rw [hsv1]
    simpa [Value.cells] using hu1
  clear hA0 hval0
  simp only [List.append_nil] at hW' hlts
  refine (astMay_true v0 l0 hR0 hn0 v1 l1 hR1 hn1 hT hK hM).mono fun e W' ⟨he, hB⟩ => ?_
  subst he
  refine ⟨_, rfl, _, _, _, [], (p0 ++ (p1 ++ [])), [], by simpa using hW', ?_, ?_, ?_, hB.frame _, fun h => by cases h⟩
  · exact trodAll_cons_mk (shut_bool Tryz.underlying4 _) trodAll_mk0
  · exact (trodAll_cons_mk (Below.trod (by kernel_rfl) (by kernel_rfl) (of_decide_eq_true (by kernel_rfl)) ⟨fuel0, hf0⟩ hB (fun x hx => hlts x (by simp [hx]))) (trodAll_cons_mk (Below.trod (by kernel_rfl) (by kernel_rfl) (of_decide_eq_true (by kernel_rfl)) ⟨fuel1, hf1⟩ hB (fun x hx => hlts x (by simp [hx]))) trodAll_mk0))
  · rfl

/-- AstMay: the row. -/
theorem astMay_holds : Rows.AstMaySaid :=
  OpenClaim.holds_of_wide 3 Tryz.f3 rfl rfl rfl rfl rfl rfl rfl ⟨rfl, rfl, rfl, rfl, rfl⟩ rfl rfl rfl rfl rfl (by kernel_rfl) Tryz.func3 (by kernel_rfl)
    (of_decide_eq_true (by kernel_rfl)) (by unfold Func.isWrapper; first | (rw [if_pos (by decide +kernel)]; kernel_rfl) | (rw [if_neg (by decide +kernel)]; exact ⟨rfl, rfl⟩))
    (fun os started H enc _ => astMay_lifted os started H enc)

/-- AstMay: the given statement, the card: the four tables are tied to the program's text. -/
theorem astMay_card : Rows.AstMayCardSaid :=
  Claim7.holds_tied_plain_at .later [] [.data, .data, .data, .data] true Rows.astMayCard.stood.harness false
    astMay_holds (fun _ h => by cases h) (by kernel_rfl) (fun _ h => by cases h) astMay_row_tie rfl ⟨rfl, rfl⟩ (by kernel_rfl) rfl
    (fun f fn hf hfn => by
      obtain rfl : f = 3 := Option.some.inj ((show Tryz.prog.funcNamed "leaven/leavenlaw05.AstMay" = some 3 by kernel_rfl).symm.trans hf) |>.symm
      obtain rfl : fn = Tryz.f3 := (Option.some.inj (Tryz.func3.symm.trans hfn)).symm
      exact ⟨by kernel_rfl, fun j t ht => by
        rw [Tryz.params3] at ht
        have hm : t ∈ [23, 23] := by simpa using Array.mem_of_getElem? ht
        have hall : ([23, 23].all fun u => !Tryz.prog.wantsStandIn u) = true := by kernel_rfl
        exact (show Tryz.prog.wantsStandIn t = false by simpa using List.all_eq_true.1 hall t hm)⟩)
    (by kernel_rfl)

end Go.Proofs.YtddabgiphdkjnaaGreatDoor.astMay
