/-
  TyMay is true for any two types: whether they are right, plain, static and alike is told as the reference tells it. No conditions but the card's own.
-/
import Derived.Test.YtjcocjpenchplaaDoorRows
import Derived.Test.YtjcocjpenchplaaDoorCards
import Derived.Test.YtjcocjpenchplaaDoorTie
import Derived.Test.YtjcocjpenchplaaDoorTyLq
import Derived.Test.YtjcocjpenchplaaDoorTyAl
import Derived.Test.YtjcocjpenchplaaDoorTyT
import Derived.Test.YtjcocjpenchplaaDoorTyU
import Derived.SevenTiedAt
namespace Go.Proofs.YtjcocjpenchplaaDoor.tyMay
open Go.ChangeShapes Go.WideShapes Go.ChangeAt Go.RowKit

theorem own : ownKnob Tryd.prog.godebug = none := by kernel_rfl

theorem names_of {l : List L.Nd} (h : L.namedL l = true) : (∀ x ∈ l, x.name.size ≤ 200) ∧ l.length ≤ 200 := by
  simp only [L.namedL, Bool.and_eq_true, decide_eq_true_eq, List.all_eq_true] at h
  exact ⟨h.2, h.1⟩

set_option maxHeartbeats 2000000 in
set_option maxRecDepth 100000 in
theorem tyMay_true {W : World} (va : Value) (la : List L.Nd) (ha : Rd W W.heap.size va la) (_ : ∀ y ∈ la, y.n ≤ 9223372036854775807) (vb : Value) (lb : List L.Nd) (hb : Rd W W.heap.size vb lb) (_ : ∀ y ∈ lb, y.n ≤ 9223372036854775807) (hT : Tab W) :
    Calls Tryd.prog 3 #[va, vb] W fun e w' => e = .returned (.bool true) ∧ Below W.heap.size W w' := by
  have NA := hid (named_any la va W ha)
  have NB := hid (named_any lb vb W hb)
  have HA := hid ha
  have HB := hid hb
  have HT := hid hT
  obtain ⟨Aa, ca, rfl, -⟩ := ha
  obtain ⟨Ab, cb, rfl, -⟩ := hb
  clear hT
  cases hna : L.namedL la with
  | false =>
    rw [hna] at NA
    clear hna
    go_enter Tryd.func3, Tryd.ntmps3
    go_wp2_with fail
    refine (NA.out).mono ?_
    rintro e w1 ⟨rfl, rfl⟩
    go_wp2_with fail
    refine (alive_any _ HT.out).mono ?_
    rintro e w1 ⟨rfl, h1⟩
    go_wp2
    go_ret
    exact ⟨rfl, h1⟩
  | true =>
    rw [hna] at NA
    have HNA : Hid (∀ x ∈ la, x.name.size ≤ 2000000) := hid fun x hx => Nat.le_trans ((names_of hna).1 x hx) (by omega)
    clear hna
    cases hnb : L.namedL lb with
    | false =>
      rw [hnb] at NB
      clear hnb
      go_enter Tryd.func3, Tryd.ntmps3
      go_wp2_with fail
      refine (NA.out).mono ?_
      rintro e w1 ⟨rfl, rfl⟩
      go_wp2_with fail
      refine (NB.out).mono ?_
      rintro e w1 ⟨rfl, rfl⟩
      go_wp2_with fail
      refine (alive_any _ HT.out).mono ?_
      rintro e w1 ⟨rfl, h1⟩
      go_wp2
      go_ret
      exact ⟨rfl, h1⟩
    | true =>
      rw [hnb] at NB
      clear hnb
      go_enter Tryd.func3, Tryd.ntmps3
      go_wp2_with fail
      refine (NA.out).mono ?_
      rintro e w1 ⟨rfl, rfl⟩
      go_wp2_with fail
      refine (NB.out).mono ?_
      rintro e w1 ⟨rfl, rfl⟩
      go_wp2_with fail
      refine (alive_any _ HT.out).mono ?_
      rintro e w0 ⟨rfl, h0⟩
      have HB0 := hid h0
      have A0 := hid ((HA.out.below h0).mono h0.size)
      have B0 := hid ((HB.out.below h0).mono h0.size)
      clear h0 HA HB HT NA NB
      have HC := hid (right_any la HNA.out _ _ A0.out)
      go_wp2_with fail
      refine (HC.out).mono ?_
      rintro e w1 ⟨rfl, h0⟩
      have HB1 := hid (HB0.out.trans (h0.mono HB0.out.size))
      have A1 := hid ((A0.out.below h0).mono h0.size)
      have B1 := hid ((B0.out.below h0).mono h0.size)
      clear h0 HC A0 B0 HB0
      have HC := hid (refRight_any la HNA.out _ _ A1.out)
      go_wp2_with fail
      refine (HC.out).mono ?_
      rintro e w2 ⟨rfl, h0⟩
      have HB2 := hid (HB1.out.trans (h0.mono HB1.out.size))
      have A2 := hid ((A1.out.below h0).mono h0.size)
      have B2 := hid ((B1.out.below h0).mono h0.size)
      clear h0 HC A1 B1 HB1
      have HC := hid (plain_any la _ _ A2.out)
      go_wp2_with fail
      refine (HC.out).mono ?_
      rintro e w3 ⟨rfl, h0⟩
      have HB3 := hid (HB2.out.trans (h0.mono HB2.out.size))
      have A3 := hid ((A2.out.below h0).mono h0.size)
      have B3 := hid ((B2.out.below h0).mono h0.size)
      clear h0 HC A2 B2 HB2
      have HC := hid (ref_plain la _ _ A3.out)
      go_wp2_with fail
      refine (HC.out).mono ?_
      rintro e w4 ⟨rfl, rfl⟩
      clear HC
      have HC := hid (static_any la _ _ A3.out)
      go_wp2_with fail
      refine (HC.out).mono ?_
      rintro e w4 ⟨rfl, h0⟩
      have HB4 := hid (HB3.out.trans (h0.mono HB3.out.size))
      have A4 := hid ((A3.out.below h0).mono h0.size)
      have B4 := hid ((B3.out.below h0).mono h0.size)
      clear h0 HC A3 B3 HB3
      have HC := hid (ref_static la _ _ A4.out)
      go_wp2_with fail
      refine (HC.out).mono ?_
      rintro e w5 ⟨rfl, rfl⟩
      clear HC
      have HC := hid (same_any la lb _ _ _ A4.out B4.out)
      go_wp2_with fail
      refine (HC.out).mono ?_
      rintro e w5 ⟨rfl, h0⟩
      have HB5 := hid (HB4.out.trans (h0.mono HB4.out.size))
      have A5 := hid ((A4.out.below h0).mono h0.size)
      have B5 := hid ((B4.out.below h0).mono h0.size)
      clear h0 HC A4 B4 HB4
      have HC := hid (refSame_any la lb _ _ _ A5.out B5.out)
      go_wp2_with fail
      refine (HC.out).mono ?_
      rintro e w6 ⟨rfl, h0⟩
      have HB6 := hid (HB5.out.trans (h0.mono HB5.out.size))
      clear h0 HC A5 B5 HB5
      go_wp2
      go_ret
      exact ⟨ret_bool (by simp), HB6.out⟩

set_option maxRecDepth 100000 in
theorem tyMay_lifted (os : Os) (started : os.Started) (H : Type) (enc : TypeId × Value → H) :
    ReturnsInHanded {} Tryd.checked os 3 .any (fun w args => (Rows.tyMaySpec.pre enc Tryd.prog Tryd.f3 [] false w args ∧ laidMetH Tryd.prog laidAll w) ∧ sizedMet enc Tryd.prog Tryd.f3 (OpenSpec.ofChange Rows.tyMaySpec) false w args)
      (Rows.tyMaySpec.post enc Tryd.prog Tryd.f3 false true false false) := by
  refine returnsInHanded_of_change_and (C := Tryd.checked) (X := fun w _ => laidMetH Tryd.prog laidAll w) (fun _ _ _ hh h => h.of_heap hh) own started (by kernel_rfl) Tryd.func3
    (ChangeSpec.witness_shaped (enc := enc) (C := Tryd.checked) (os := os) (X := fun w _ => laidMetH Tryd.prog laidAll w) false (World.doorLaid Tryd.prog 400 os) #[.slice none 0 0, .slice none 0 0] 8 rfl (World.shaped_of_RefB (by kernel_rfl) (by kernel_rfl)) (by kernel_rfl) (by kernel_rfl) (by kernel_rfl) (door_met os _)) ?_
  intro W base args ds gs before hval0 hW _ _ hL _
  have hT := tab_of_laid hL
  have hlts := hW.lt
  have hval : ∀ (j : Nat) t v, Tryd.f3.params[j]? = some t → args[j]? = some v → Value.okWide Tryd.prog W .any base t v := hval0
  have hW' := hW
  obtain ⟨p, q, hA0, hV, rfl, hfz, hnd⟩ := hW
  have hA : DataW.TrodAll enc Tryd.prog W 0 (fun _ => true) true Tryd.f3.params.toList args.toList ds p := hA0
  rw [Tryd.params3] at hA hval
  obtain ⟨v0, vs0, d0, ds0, p0, q0, hargs, rfl, rfl, h0, r0⟩ := trodAll_cons hA
  obtain ⟨v1, vs1, d1, ds1, p1, q1, hargs1, rfl, rfl, h1, r1⟩ := trodAll_cons r0
  obtain ⟨hn, rfl, rfl⟩ := trodAll_nil r1
  obtain rfl : args = #[v0, v1] := by cases args; simp_all
  obtain ⟨rfl, rfl⟩ := trodVars_none hV
  obtain ⟨sa0, sl0, sc0, hsv0⟩ := okWide_slice Tryd.underlying23 (hval 0 23 v0 rfl rfl)
  obtain ⟨sa1, sl1, sc1, hsv1⟩ := okWide_slice Tryd.underlying23 (hval 1 23 v1 rfl rfl)
  obtain ⟨fuel0, hf0⟩ := h0
  obtain ⟨u0, l0, hu0, hR0, hn0⟩ := rd_of_trod hf0
  obtain rfl : v0 = u0 := by
    rw [hsv0] at hu0
    rw [hsv0]
    simpa [Value.cells] using hu0
  obtain ⟨fuel1, hf1⟩ := h1
  obtain ⟨u1, l1, hu1, hR1, hn1⟩ := rd_of_trod hf1
  obtain rfl : v1 = u1 := by
    rw [hsv1] at hu1
    rw [hsv1]
    simpa [Value.cells] using hu1
  clear hA0 hval0
  simp only [List.append_nil] at hW' hlts
  refine (tyMay_true v0 l0 hR0 hn0 v1 l1 hR1 hn1 hT).mono fun e W' ⟨he, hB⟩ => ?_
  subst he
  refine ⟨_, rfl, _, _, _, [], (p0 ++ (p1 ++ [])), [], by simpa using hW', ?_, ?_, ?_, hB.frame _, fun h => by cases h⟩
  · exact trodAll_cons_mk (shut_bool Tryd.underlying4 _) trodAll_mk0
  · exact (trodAll_cons_mk (Below.trod (by kernel_rfl) (by kernel_rfl) (of_decide_eq_true (by kernel_rfl)) ⟨fuel0, hf0⟩ hB (fun x hx => hlts x (by simp [hx]))) (trodAll_cons_mk (Below.trod (by kernel_rfl) (by kernel_rfl) (of_decide_eq_true (by kernel_rfl)) ⟨fuel1, hf1⟩ hB (fun x hx => hlts x (by simp [hx]))) trodAll_mk0))
  · rfl

/-- TyMay: the row. -/
theorem tyMay_holds : Rows.TyMaySaid :=
  OpenClaim.holds_of_wide 3 Tryd.f3 rfl rfl rfl rfl rfl rfl rfl ⟨rfl, rfl, rfl, rfl, rfl⟩ rfl rfl rfl rfl rfl (by kernel_rfl) Tryd.func3 (by kernel_rfl)
    (of_decide_eq_true (by kernel_rfl)) (by unfold Func.isWrapper; first | (rw [if_pos (by decide +kernel)]; kernel_rfl) | (rw [if_neg (by decide +kernel)]; exact ⟨rfl, rfl⟩))
    (fun os started H enc _ => tyMay_lifted os started H enc)

/-- TyMay: the given statement, the card: the three tables are tied to the program's text. -/
theorem tyMay_card : Rows.TyMayCardSaid :=
  Claim7.holds_tied_plain_at .later [] [.data, .data, .data] true Rows.tyMayCard.stood.harness false
    tyMay_holds (fun _ h => by cases h) (by kernel_rfl) (fun _ h => by cases h) tyMay_row_tie rfl ⟨rfl, rfl⟩ (by kernel_rfl) rfl
    (fun f fn hf hfn => by
      obtain rfl : f = 3 := Option.some.inj ((show Tryd.prog.funcNamed "leaven/leavenlaw03.TyMay" = some 3 by kernel_rfl).symm.trans hf) |>.symm
      obtain rfl : fn = Tryd.f3 := (Option.some.inj (Tryd.func3.symm.trans hfn)).symm
      exact ⟨by kernel_rfl, fun j t ht => by
        rw [Tryd.params3] at ht
        have hm : t ∈ [23, 23] := by simpa using Array.mem_of_getElem? ht
        have hall : ([23, 23].all fun u => !Tryd.prog.wantsStandIn u) = true := by kernel_rfl
        exact (show Tryd.prog.wantsStandIn t = false by simpa using List.all_eq_true.1 hall t hm)⟩)
    (by kernel_rfl)

end Go.Proofs.YtjcocjpenchplaaDoor.tyMay
