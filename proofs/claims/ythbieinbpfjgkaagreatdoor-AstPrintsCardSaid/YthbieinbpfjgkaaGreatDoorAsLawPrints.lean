/-
  AstPrints is true for any two rows of parts: expressions without casts, no name of which is a key, are printed alike just if they are the same, but for sites. No conditions but the card's own.
-/
import Derived.Test.YthbieinbpfjgkaaGreatDoorRows
import Derived.Test.YthbieinbpfjgkaaGreatDoorCards
import Derived.Test.YthbieinbpfjgkaaGreatDoorTie
import Derived.Test.YthbieinbpfjgkaaGreatDoorMA17
import Derived.Test.YthbieinbpfjgkaaGreatDoorMA16
import Derived.Test.YthbieinbpfjgkaaGreatDoorMA7
import Derived.Test.YthbieinbpfjgkaaGreatDoorAsKy
import Derived.Test.YthbieinbpfjgkaaGreatDoorAsPl
import Derived.Test.YthbieinbpfjgkaaGreatDoorAsPx
import Derived.Test.YthbieinbpfjgkaaGreatDoorMA11
import Derived.SevenTiedAt
namespace Go.Proofs.YthbieinbpfjgkaaGreatDoor.astPrints
open Go.ChangeShapes Go.WideShapes Go.ChangeAt Go.RowKit


theorem own : ownKnob Tryz.prog.godebug = none := by kernel_rfl

theorem same_print {la lb : List E.Pt} {x y : E.Pt} {ks ls : E.Fo} (hx : la = x :: ks.flat) (hy : lb = y :: ls.flat) (h1 : (E.Fo.cons x ks .nil).ok = true) (h2 : (E.Fo.cons y ls .nil).ok = true) (b1 : E.bare x = true) (b2 : E.bare y = true)
    (p1 : la.all E.plainP = true) (p2 : lb.all E.plainP = true) : ((⟨(E.prT x ks).toArray⟩ : ByteArray).toList == (⟨(E.prT y ls).toArray⟩ : ByteArray).toList) = E.sameE la lb := by
  have g1 := E.gd_of h1 (by rw [← hx]; exact p1)
  have g2 := E.gd_of h2 (by rw [← hy]; exact p2)
  rw [eqS, Bool.eq_iff_iff, decide_eq_true_eq, hx, hy, ← E.eprint_iff g1 g2 b1 b2]
  constructor
  · intro h
    have := congrArg (fun s : ByteArray => s.data.toList) h
    simpa using this
  · intro h
    rw [h]

set_option maxHeartbeats 8000000 in
set_option maxRecDepth 100000 in
theorem astPrints_true {W : World} (va : Value) (la : List E.Pt) (ha : RdP W W.heap.size va la) (na : ∀ y ∈ la, NumP y) (vb : Value) (lb : List E.Pt) (hb : RdP W W.heap.size vb lb) (nb : ∀ y ∈ lb, NumP y) (hT : Tab W) (hK : KTab W) (hM : MCell W) :
    Calls Tryz.prog 5 #[va, vb] W fun e w' => e = .returned (.bool true) ∧ Below W.heap.size W w' := by
  have FA := hid (rfew_any la 120 (by decide) va W ha)
  have FB := hid (rfew_any lb 120 (by decide) vb W hb)
  have AL := hid (fun (W' : World) (hW : Below W.heap.size W W') => aalive_any W' (hT.grows hW) (hK.grows hW) (hM.grows hW))
  have A0 := hid ha
  have C0 := hid hb
  have HK := hid hK
  have HT := hid hT
  have NA := hid na
  have NB := hid nb
  have X0 := hid (Below.refl W.heap.size W)
  obtain ⟨Aa, ca, rfl, -⟩ := ha
  obtain ⟨Ab, cb, rfl, -⟩ := hb
  clear hT hK hM na nb
  go_enter Tryz.func5, Tryz.ntmps5
  cases hf : E.fewL la 120 with
  | false =>
    rw [hf] at FA
    clear hf
    go_wp2_with fail
    refine (FA.out).mono ?_
    rintro e w1 ⟨rfl, hw⟩
    have hw2 := hw.symm
    subst hw2
    have HC := hid (AL.out _ X0.out)
    go_wp2_with fail
    refine (HC.out).mono ?_
    rintro e w9 ⟨rfl, h0⟩
    go_wp2
    go_ret
    exact ⟨rfl, X0.out.trans (h0.mono X0.out.size)⟩
  | true =>
  rw [hf] at FA
  have QA := hid hf
  have HSA : Hid (∀ x ∈ la, Small x) := hid fun x hx => E.small_of_few (List.all_eq_true.1 ((Bool.and_eq_true _ _).mp hf).2 x hx)
  clear hf
  go_wp2_with fail
  refine (FA.out).mono ?_
  rintro e w1 ⟨rfl, hw⟩
  have hw2 := hw.symm
  subst hw2
  clear FA
  cases hf : E.fewL lb 120 with
  | false =>
    rw [hf] at FB
    clear hf
    go_wp2_with fail
    refine (FB.out).mono ?_
    rintro e w1 ⟨rfl, hw⟩
    have hw2 := hw.symm
    subst hw2
    have HC := hid (AL.out _ X0.out)
    go_wp2_with fail
    refine (HC.out).mono ?_
    rintro e w9 ⟨rfl, h0⟩
    go_wp2
    go_ret
    exact ⟨rfl, X0.out.trans (h0.mono X0.out.size)⟩
  | true =>
  rw [hf] at FB
  have QB := hid hf
  have HSB : Hid (∀ x ∈ lb, Small x) := hid fun x hx => E.small_of_few (List.all_eq_true.1 ((Bool.and_eq_true _ _).mp hf).2 x hx)
  clear hf
  go_wp2_with fail
  refine (FB.out).mono ?_
  rintro e w1 ⟨rfl, hw⟩
  have hw2 := hw.symm
  subst hw2
  clear FB
  have HC := hid (raright_any la HSA.out _ _ A0.out)
  cases hr : E.rightL la with
  | false =>
    rw [hr] at HC
    clear hr
    go_wp2_with fail
    refine (HC.out).mono ?_
    rintro e w1 ⟨rfl, h0⟩
    have X1 := hid (X0.out.trans (h0.mono X0.out.size))
    have A1 := hid (A0.out.below h0)
    have C1 := hid (C0.out.below h0)
    clear h0 HC X0 A0 C0
    have HC := hid (AL.out _ X1.out)
    go_wp2_with fail
    refine (HC.out).mono ?_
    rintro e w9 ⟨rfl, h0⟩
    go_wp2
    go_ret
    exact ⟨rfl, X1.out.trans (h0.mono X1.out.size)⟩
  | true =>
  rw [hr] at HC
  have RA := hid hr
  clear hr
  go_wp2_with fail
  refine (HC.out).mono ?_
  rintro e w1 ⟨rfl, h0⟩
  have X1 := hid (X0.out.trans (h0.mono X0.out.size))
  have A1 := hid (A0.out.below h0)
  have C1 := hid (C0.out.below h0)
  clear h0 HC X0 A0 C0
  have HC := hid (raright_any lb HSB.out _ _ C1.out)
  cases hr : E.rightL lb with
  | false =>
    rw [hr] at HC
    clear hr
    go_wp2_with fail
    refine (HC.out).mono ?_
    rintro e w2 ⟨rfl, h0⟩
    have X2 := hid (X1.out.trans (h0.mono X1.out.size))
    have A2 := hid (A1.out.below h0)
    have C2 := hid (C1.out.below h0)
    clear h0 HC X1 A1 C1
    have HC := hid (AL.out _ X2.out)
    go_wp2_with fail
    refine (HC.out).mono ?_
    rintro e w9 ⟨rfl, h0⟩
    go_wp2
    go_ret
    exact ⟨rfl, X2.out.trans (h0.mono X2.out.size)⟩
  | true =>
  rw [hr] at HC
  have RB := hid hr
  clear hr
  go_wp2_with fail
  refine (HC.out).mono ?_
  rintro e w2 ⟨rfl, h0⟩
  have X2 := hid (X1.out.trans (h0.mono X1.out.size))
  have A2 := hid (A1.out.below h0)
  have C2 := hid (C1.out.below h0)
  clear h0 HC X1 A1 C1
  have HC := hid (aplain_any la _ _ A2.out)
  cases hp : la.all E.plainP with
  | false =>
    rw [hp] at HC
    clear hp
    go_wp2_with fail
    refine (HC.out).mono ?_
    rintro e w3 ⟨rfl, h0⟩
    have X3 := hid (X2.out.trans (h0.mono X2.out.size))
    have A3 := hid (A2.out.below h0)
    have C3 := hid (C2.out.below h0)
    clear h0 HC X2 A2 C2
    have HC := hid (AL.out _ X3.out)
    go_wp2_with fail
    refine (HC.out).mono ?_
    rintro e w9 ⟨rfl, h0⟩
    go_wp2
    go_ret
    exact ⟨rfl, X3.out.trans (h0.mono X3.out.size)⟩
  | true =>
  rw [hp] at HC
  have PA := hid hp
  clear hp
  go_wp2_with fail
  refine (HC.out).mono ?_
  rintro e w3 ⟨rfl, h0⟩
  have X3 := hid (X2.out.trans (h0.mono X2.out.size))
  have A3 := hid (A2.out.below h0)
  have C3 := hid (C2.out.below h0)
  clear h0 HC X2 A2 C2
  have HC := hid (aplain_any lb _ _ C3.out)
  cases hp : lb.all E.plainP with
  | false =>
    rw [hp] at HC
    clear hp
    go_wp2_with fail
    refine (HC.out).mono ?_
    rintro e w4 ⟨rfl, h0⟩
    have X4 := hid (X3.out.trans (h0.mono X3.out.size))
    have A4 := hid (A3.out.below h0)
    have C4 := hid (C3.out.below h0)
    clear h0 HC X3 A3 C3
    have HC := hid (AL.out _ X4.out)
    go_wp2_with fail
    refine (HC.out).mono ?_
    rintro e w9 ⟨rfl, h0⟩
    go_wp2
    go_ret
    exact ⟨rfl, X4.out.trans (h0.mono X4.out.size)⟩
  | true =>
  rw [hp] at HC
  have PB := hid hp
  clear hp
  go_wp2_with fail
  refine (HC.out).mono ?_
  rintro e w4 ⟨rfl, h0⟩
  have X4 := hid (X3.out.trans (h0.mono X3.out.size))
  have A4 := hid (A3.out.below h0)
  have C4 := hid (C3.out.below h0)
  clear h0 HC X3 A3 C3
  obtain ⟨x, ks, hxa, -, bx, okx, -⟩ := (E.rightL_iff la).1 RA.out
  obtain ⟨y, ls, hyb, -, b2, oky, -⟩ := (E.rightL_iff lb).1 RB.out
  have he := same_print hxa hyb okx oky bx b2 PA.out PB.out
  have qa := E.pr1_of hxa QA.out NA.out okx
  have qb := E.pr1_of hyb QB.out NB.out oky
  have la1 : ks.flat.length + 1 ≤ 120 := by
    have := of_decide_eq_true ((Bool.and_eq_true _ _).mp QA.out).1
    rw [hxa] at this
    simpa using this
  have lb1 : ls.flat.length + 1 ≤ 120 := by
    have := of_decide_eq_true ((Bool.and_eq_true _ _).mp QB.out).1
    rw [hyb] at this
    simpa using this
  have pa := E.eprT_len qa la1
  have pb := E.eprT_len qb lb1
  have HPA := hid (fun (W' : World) (hW : Below W.heap.size W W') (v : Value) (hr : RdP W' W'.heap.size v la) => aprint_any x ks (E.ok_fit _ okx) qa (by omega) pa v W' (by rw [← hxa]; exact hr) (HK.out.grows hW) (HT.out.grows hW))
  have HPB := hid (fun (W' : World) (hW : Below W.heap.size W W') (v : Value) (hr : RdP W' W'.heap.size v lb) => aprint_any y ls (E.ok_fit _ oky) qb (by omega) pb v W' (by rw [← hyb]; exact hr) (HK.out.grows hW) (HT.out.grows hW))
  obtain ⟨TA, hTA⟩ : ∃ TA : ByteArray, TA = ⟨(E.prT x ks).toArray⟩ := ⟨_, rfl⟩
  obtain ⟨TB, hTB⟩ : ∃ TB : ByteArray, TB = ⟨(E.prT y ls).toArray⟩ := ⟨_, rfl⟩
  rw [← hTA, ← hTB] at he
  rw [← hTA] at HPA
  rw [← hTB] at HPB
  clear hTA hTB hxa hyb bx b2 okx oky qa qb la1 lb1 pa pb RA RB PA PB QA QB NA NB HSA HSB
  have HC := hid (AL.out _ X4.out)
  go_wp2_with fail
  refine (HC.out).mono ?_
  rintro e w5 ⟨rfl, h0⟩
  have X5 := hid (X4.out.trans (h0.mono X4.out.size))
  have A5 := hid (A4.out.below h0)
  have C5 := hid (C4.out.below h0)
  clear h0 HC X4 A4 C4
  have HC := hid (HPA.out _ X5.out _ A5.out)
  go_wp2_with fail
  refine (HC.out).mono ?_
  rintro e w6 ⟨rfl, h0⟩
  have X6 := hid (X5.out.trans (h0.mono X5.out.size))
  have A6 := hid (A5.out.below h0)
  have C6 := hid (C5.out.below h0)
  clear h0 HC X5 A5 C5
  have HC := hid (HPB.out _ X6.out _ C6.out)
  go_wp2_with fail
  refine (HC.out).mono ?_
  rintro e w7 ⟨rfl, h0⟩
  have X7 := hid (X6.out.trans (h0.mono X6.out.size))
  have A7 := hid (A6.out.below h0)
  have C7 := hid (C6.out.below h0)
  clear h0 HC X6 A6 C6
  generalize hsm : E.sameE la lb = sm at *
  have HC := hid (asame_any la lb _ _ _ A7.out C7.out)
  rw [hsm] at HC
  go_wp2_with fail
  refine (HC.out).mono ?_
  clear hsm
  rintro e w8 ⟨rfl, h0⟩
  have X8 := hid (X7.out.trans (h0.mono X7.out.size))
  have A8 := hid (A7.out.below h0)
  have C8 := hid (C7.out.below h0)
  clear h0 HC X7 A7 C7
  go_wp2
  go_ret
  exact ⟨ret_bool (by simp), X8.out⟩

set_option maxRecDepth 100000 in
theorem astPrints_lifted (os : Os) (started : os.Started) (H : Type) (enc : TypeId × Value → H) :
    ReturnsInHanded {} Tryz.checked os 5 .any (fun w args => (Rows.astPrintsSpec.pre enc Tryz.prog Tryz.f5 [] false w args ∧ laidMetH Tryz.prog laidAll w) ∧ sizedMet enc Tryz.prog Tryz.f5 (OpenSpec.ofChange Rows.astPrintsSpec) false w args)
      (Rows.astPrintsSpec.post enc Tryz.prog Tryz.f5 false true false false) := by
  refine wrap_shaped (C := Tryz.checked) (X := fun w _ => laidMetH Tryz.prog laidAll w) (fun _ _ _ hh h => h.of_heap hh) own started (by kernel_rfl) Tryz.func5
    (ChangeSpec.witness_shaped (enc := enc) (C := Tryz.checked) (os := os) (X := fun w _ => laidMetH Tryz.prog laidAll w) false (World.doorLaid Tryz.prog 400 os) #[.slice none 0 0, .slice none 0 0] 8 rfl (World.shaped_of_RefB (by kernel_rfl) (by kernel_rfl)) (by kernel_rfl) (by kernel_rfl) (by kernel_rfl) (door_met os _)) ?_
  intro W base args ds gs before hval0 hW hSh hL
  obtain ⟨hT, hK⟩ := tabs_of_laid hL
  have hM := mcell_of_shaped hSh (by have := hT.size; omega)
  have hlts := hW.lt
  have hval : ∀ (j : Nat) t v, Tryz.f5.params[j]? = some t → args[j]? = some v → Value.okWide Tryz.prog W .any base t v := hval0
  have hW' := hW
  obtain ⟨p, q, hA0, hV, rfl, hfz, hnd⟩ := hW
  have hA : DataW.TrodAll enc Tryz.prog W 0 (fun _ => true) true Tryz.f5.params.toList args.toList ds p := hA0
  rw [Tryz.params5] at hA hval
  obtain ⟨v0, vs0, d0, ds0, p0, q0, hargs, rfl, rfl, h0, r0⟩ := trodAll_cons hA
  obtain ⟨v1, vs1, d1, ds1, p1, q1, hargs1, rfl, rfl, h1, r1⟩ := trodAll_cons r0
  obtain ⟨hn, rfl, rfl⟩ := trodAll_nil r1
  obtain rfl : args = #[v0, v1] := by cases args; simp_all
  obtain ⟨rfl, rfl⟩ := trodVars_none hV
  obtain ⟨sa0, sl0, sc0, hsv0⟩ := okWide_slice Tryz.underlying23 (hval 0 23 v0 rfl rfl)
  obtain ⟨sa1, sl1, sc1, hsv1⟩ := okWide_slice Tryz.underlying23 (hval 1 23 v1 rfl rfl)
  obtain ⟨fuel0, hf0⟩ := h0
  obtain ⟨u0, l0, hu0, hR0, hn0⟩ := rdp_of_trod hf0
  obtain rfl : v0 = u0 := by
    rw [hsv0] at hu0
    rw [hsv0]
    simpa [Value.cells] using hu0
  obtain ⟨fuel1, hf1⟩ := h1
  obtain ⟨u1, l1, hu1, hR1, hn1⟩ := rdp_of_trod hf1
  obtain rfl : v1 = u1 := by
    rw [hsv1] at hu1
    rw [hsv1]
    simpa [Value.cells] using hu1
  clear hA0 hval0
  simp only [List.append_nil] at hW' hlts
  refine (astPrints_true v0 l0 hR0 hn0 v1 l1 hR1 hn1 hT hK hM).mono fun e W' ⟨he, hB⟩ => ?_
  subst he
  refine ⟨_, rfl, _, _, _, [], (p0 ++ (p1 ++ [])), [], by simpa using hW', ?_, ?_, ?_, hB.frame _, fun h => by cases h⟩
  · exact trodAll_cons_mk (shut_bool Tryz.underlying4 _) trodAll_mk0
  · exact (trodAll_cons_mk (Below.trod (by kernel_rfl) (by kernel_rfl) (of_decide_eq_true (by kernel_rfl)) ⟨fuel0, hf0⟩ hB (fun x hx => hlts x (by simp [hx]))) (trodAll_cons_mk (Below.trod (by kernel_rfl) (by kernel_rfl) (of_decide_eq_true (by kernel_rfl)) ⟨fuel1, hf1⟩ hB (fun x hx => hlts x (by simp [hx]))) trodAll_mk0))
  · rfl

/-- AstPrints: the row. -/
theorem astPrints_holds : Rows.AstPrintsSaid :=
  OpenClaim.holds_of_wide 5 Tryz.f5 rfl rfl rfl rfl rfl rfl rfl ⟨rfl, rfl, rfl, rfl, rfl⟩ rfl rfl rfl rfl rfl (by kernel_rfl) Tryz.func5 (by kernel_rfl)
    (of_decide_eq_true (by kernel_rfl)) (by unfold Func.isWrapper; first | (rw [if_pos (by decide +kernel)]; kernel_rfl) | (rw [if_neg (by decide +kernel)]; exact ⟨rfl, rfl⟩))
    (fun os started H enc _ => astPrints_lifted os started H enc)

/-- AstPrints: the given statement, the card: the four tables are tied to the program's text. -/
theorem astPrints_card : Rows.AstPrintsCardSaid :=
  Claim7.holds_tied_plain_at .later [] [.data, .data, .data, .data] true Rows.astPrintsCard.stood.harness false
    astPrints_holds (fun _ h => by cases h) (by kernel_rfl) (fun _ h => by cases h) astPrints_row_tie rfl ⟨rfl, rfl⟩ (by kernel_rfl) rfl
    (fun f fn hf hfn => by
      obtain rfl : f = 5 := Option.some.inj ((show Tryz.prog.funcNamed "leaven/leavenlaw05.AstPrints" = some 5 by kernel_rfl).symm.trans hf) |>.symm
      obtain rfl : fn = Tryz.f5 := (Option.some.inj (Tryz.func5.symm.trans hfn)).symm
      exact ⟨by kernel_rfl, fun j t ht => by
        rw [Tryz.params5] at ht
        have hm : t ∈ [23, 23] := by simpa using Array.mem_of_getElem? ht
        have hall : ([23, 23].all fun u => !Tryz.prog.wantsStandIn u) = true := by kernel_rfl
        exact (show Tryz.prog.wantsStandIn t = false by simpa using List.all_eq_true.1 hall t hm)⟩)
    (by kernel_rfl)

end Go.Proofs.YthbieinbpfjgkaaGreatDoor.astPrints
