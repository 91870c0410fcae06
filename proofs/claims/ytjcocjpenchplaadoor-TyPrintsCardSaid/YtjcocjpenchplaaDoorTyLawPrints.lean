/-
  TyPrints is true for any two types: plain ones are printed alike just if they are alike. No conditions but the card's own.
-/
import Derived.Test.YtjcocjpenchplaaDoorRows
import Derived.Test.YtjcocjpenchplaaDoorCards
import Derived.Test.YtjcocjpenchplaaDoorTie
import Derived.Test.YtjcocjpenchplaaDoorTyLq
import Derived.Test.YtjcocjpenchplaaDoorTyAl
import Derived.Test.YtjcocjpenchplaaDoorTyT
import Derived.Test.YtjcocjpenchplaaDoorTyPp
import Derived.SevenTiedAt
namespace Go.Proofs.YtjcocjpenchplaaDoor.tyPrints
open Go.ChangeShapes Go.WideShapes Go.ChangeAt Go.RowKit

theorem own : ownKnob Tryd.prog.godebug = none := by kernel_rfl

theorem names_of {l : List L.Nd} (h : L.namedL l = true) : (∀ x ∈ l, x.name.size ≤ 200) ∧ l.length ≤ 200 := by
  simp only [L.namedL, Bool.and_eq_true, decide_eq_true_eq, List.all_eq_true] at h
  exact ⟨h.2, h.1⟩

theorem prints_iff {la lb : List L.Nd} {x y : L.Nd} {ka kb : L.Fo} (hx : la = x :: ka.flat) (hy : lb = y :: kb.flat) (h1 : (L.Fo.cons x ka .nil).ok = true) (h2 : (L.Fo.cons y kb .nil).ok = true) (b1 : L.bare x = true) (b2 : L.bare y = true)
    (p1 : L.plainL la = true) (p2 : L.plainL lb = true) : ((⟨(L.prT false x ka).toArray⟩ : ByteArray).toList == (⟨(L.prT false y kb).toArray⟩ : ByteArray).toList) = L.sameL la lb := by
  have pl : ∀ {l : List L.Nd}, L.plainL l = true → ∀ z ∈ l, z.kind ≠ 8 ∧ z.kind ≠ 9 := by
    intro l h z hz
    simp only [L.plainL, Bool.not_eq_true', List.any_eq_false] at h
    have := h z hz
    simp only [L.varN, Bool.or_eq_true, decide_eq_true_eq, not_or] at this
    exact this
  have q1 : Pl x ka := ⟨h1, by rw [← hx]; exact pl p1⟩
  have q2 : Pl y kb := ⟨h2, by rw [← hy]; exact pl p2⟩
  rw [eqS, Bool.eq_iff_iff, decide_eq_true_eq, hx, hy]
  constructor
  · intro h
    refine print_uniq q1 q2 b1 b2 ?_
    have := congrArg (fun s : ByteArray => s.data.toList) h
    simpa using this
  · intro h
    rw [print_same h1 h2 h]

set_option maxHeartbeats 4000000 in
set_option maxRecDepth 100000 in
theorem tyPrints_true {W : World} (va : Value) (la : List L.Nd) (ha : Rd W W.heap.size va la) (h1 : ∀ y ∈ la, y.n ≤ 9223372036854775807) (vb : Value) (lb : List L.Nd) (hb : Rd W W.heap.size vb lb) (h2 : ∀ y ∈ lb, y.n ≤ 9223372036854775807) (hT : Tab W) :
    Calls Tryd.prog 6 #[va, vb] W fun e w' => e = .returned (.bool true) ∧ Below W.heap.size W w' := by
  have NA := hid (named_any la va W ha)
  have NB := hid (named_any lb vb W hb)
  have HA := hid ha
  have HB := hid hb
  have HT := hid hT
  have H1 := hid h1
  have H2 := hid h2
  obtain ⟨Aa, ca, rfl, -⟩ := ha
  obtain ⟨Ab, cb, rfl, -⟩ := hb
  clear hT h1 h2
  cases hna : L.namedL la with
  | false =>
    rw [hna] at NA
    clear hna
    go_enter Tryd.func6, Tryd.ntmps6
    go_wp2_with fail
    refine (NA.out).mono ?_
    rintro e w1 ⟨rfl, rfl⟩
    go_wp2_with fail
    refine (alive_any _ HT.out).mono ?_
    rintro e w9 ⟨rfl, h9⟩
    go_wp2
    go_ret
    exact ⟨rfl, h9⟩
  | true =>
  rw [hna] at NA
  have hla := (names_of hna).2
  have HNA := hid (names_of hna).1
  clear hna
  cases hnb : L.namedL lb with
  | false =>
    rw [hnb] at NB
    clear hnb
    go_enter Tryd.func6, Tryd.ntmps6
    go_wp2_with fail
    refine (NA.out).mono ?_
    rintro e w1 ⟨rfl, rfl⟩
    go_wp2_with fail
    refine (NB.out).mono ?_
    rintro e w1 ⟨rfl, rfl⟩
    go_wp2_with fail
    refine (alive_any _ HT.out).mono ?_
    rintro e w9 ⟨rfl, h9⟩
    go_wp2
    go_ret
    exact ⟨rfl, h9⟩
  | true =>
  rw [hnb] at NB
  have hlb := (names_of hnb).2
  have HNB := hid (names_of hnb).1
  clear hnb
  go_enter Tryd.func6, Tryd.ntmps6
  go_wp2_with fail
  refine (NA.out).mono ?_
  rintro e w1 ⟨rfl, rfl⟩
  go_wp2_with fail
  refine (NB.out).mono ?_
  rintro e w1 ⟨rfl, rfl⟩
  have X0 := hid (Below.refl w1.heap.size w1)
  have A0 := HA
  have B0 := HB
  have T0 := HT
  clear NA NB HA HB HT
  have HC := hid (refRight_any la (fun x hx => Nat.le_trans (HNA.out x hx) (by omega)) _ _ A0.out)
  cases hra : L.rightL la with
  | false =>
    rw [hra] at HC
    clear hra
    go_wp2_with fail
    refine (HC.out).mono ?_
    rintro e w2 ⟨rfl, h0⟩
    have X1 := hid (X0.out.trans (h0.mono X0.out.size))
    have A1 := hid ((A0.out.below h0).mono h0.size)
    have B1 := hid ((B0.out.below h0).mono h0.size)
    have T1 := hid (T0.out.grows h0)
    clear h0 HC A0 B0 T0 X0
    have HC := hid (alive_any _ T1.out)
    go_wp2_with fail
    refine (HC.out).mono ?_
    rintro e w3 ⟨rfl, h0⟩
    go_wp2
    go_ret
    exact ⟨rfl, X1.out.trans (h0.mono X1.out.size)⟩
  | true =>
  rw [hra] at HC
  have Hhra := hid hra
  clear hra
  go_wp2_with fail
  refine (HC.out).mono ?_
  rintro e w2 ⟨rfl, h0⟩
  have X1 := hid (X0.out.trans (h0.mono X0.out.size))
  have A1 := hid ((A0.out.below h0).mono h0.size)
  have B1 := hid ((B0.out.below h0).mono h0.size)
  have T1 := hid (T0.out.grows h0)
  clear h0 HC A0 B0 T0 X0
  have HC := hid (refRight_any lb (fun x hx => Nat.le_trans (HNB.out x hx) (by omega)) _ _ B1.out)
  cases hrb : L.rightL lb with
  | false =>
    rw [hrb] at HC
    clear hrb
    go_wp2_with fail
    refine (HC.out).mono ?_
    rintro e w3 ⟨rfl, h0⟩
    have X2 := hid (X1.out.trans (h0.mono X1.out.size))
    have A2 := hid ((A1.out.below h0).mono h0.size)
    have B2 := hid ((B1.out.below h0).mono h0.size)
    have T2 := hid (T1.out.grows h0)
    clear h0 HC A1 B1 T1 X1
    have HC := hid (alive_any _ T2.out)
    go_wp2_with fail
    refine (HC.out).mono ?_
    rintro e w4 ⟨rfl, h0⟩
    go_wp2
    go_ret
    exact ⟨rfl, X2.out.trans (h0.mono X2.out.size)⟩
  | true =>
  rw [hrb] at HC
  have Hhrb := hid hrb
  clear hrb
  go_wp2_with fail
  refine (HC.out).mono ?_
  rintro e w3 ⟨rfl, h0⟩
  have X2 := hid (X1.out.trans (h0.mono X1.out.size))
  have A2 := hid ((A1.out.below h0).mono h0.size)
  have B2 := hid ((B1.out.below h0).mono h0.size)
  have T2 := hid (T1.out.grows h0)
  clear h0 HC A1 B1 T1 X1
  have HC := hid (ref_plain la _ _ A2.out)
  cases hpa : L.plainL la with
  | false =>
    rw [hpa] at HC
    clear hpa
    go_wp2_with fail
    refine (HC.out).mono ?_
    rintro e w4 ⟨rfl, rfl⟩
    clear HC
    have HC := hid (alive_any _ T2.out)
    go_wp2_with fail
    refine (HC.out).mono ?_
    rintro e w4 ⟨rfl, h0⟩
    go_wp2
    go_ret
    exact ⟨rfl, X2.out.trans (h0.mono X2.out.size)⟩
  | true =>
  rw [hpa] at HC
  have Hhpa := hid hpa
  clear hpa
  go_wp2_with fail
  refine (HC.out).mono ?_
  rintro e w4 ⟨rfl, rfl⟩
  clear HC
  have HC := hid (ref_plain lb _ _ B2.out)
  cases hpb : L.plainL lb with
  | false =>
    rw [hpb] at HC
    clear hpb
    go_wp2_with fail
    refine (HC.out).mono ?_
    rintro e w4 ⟨rfl, rfl⟩
    clear HC
    have HC := hid (alive_any _ T2.out)
    go_wp2_with fail
    refine (HC.out).mono ?_
    rintro e w4 ⟨rfl, h0⟩
    go_wp2
    go_ret
    exact ⟨rfl, X2.out.trans (h0.mono X2.out.size)⟩
  | true =>
  rw [hpb] at HC
  have Hhpb := hid hpb
  clear hpb
  go_wp2_with fail
  refine (HC.out).mono ?_
  rintro e w4 ⟨rfl, rfl⟩
  clear HC
  obtain ⟨x, ka, hxa, -, bx, okx, -⟩ := (L.rightL_iff la).1 Hhra.out
  obtain ⟨y, kb, hyb, -, by', oky, -⟩ := (L.rightL_iff lb).1 Hhrb.out
  have he := prints_iff hxa hyb okx oky bx by' Hhpa.out Hhpb.out
  have OX := hid okx
  have OY := hid oky
  have HXA := hid hxa
  have HYB := hid hyb
  have SA : Hid (Short la) := hid fun z hz => ⟨HNA.out z hz, H1.out z hz⟩
  have SB : Hid (Short lb) := hid fun z hz => ⟨HNB.out z hz, H2.out z hz⟩
  obtain ⟨PA, hPA⟩ : ∃ PA : ByteArray, PA = ⟨(L.prT false x ka).toArray⟩ := ⟨_, rfl⟩
  obtain ⟨PB, hPB⟩ : ∃ PB : ByteArray, PB = ⟨(L.prT false y kb).toArray⟩ := ⟨_, rfl⟩
  rw [← hPA, ← hPB] at he
  have HPA := hid hPA
  have HPB := hid hPB
  clear hPA hPB okx oky bx by' hxa hyb
  have HC := hid (alive_any _ T2.out)
  go_wp2_with fail
  refine (HC.out).mono ?_
  rintro e w4 ⟨rfl, h0⟩
  have X3 := hid (X2.out.trans (h0.mono X2.out.size))
  have A3 := hid ((A2.out.below h0).mono h0.size)
  have B3 := hid ((B2.out.below h0).mono h0.size)
  have T3 := hid (T2.out.grows h0)
  clear h0 HC A2 B2 T2 X2
  have HC := hid (print_any x ka OX.out (by rw [← HXA.out]; exact SA.out) (by have := congrArg List.length HXA.out; simp only [List.length_cons] at this; omega) _ _ (by rw [← HXA.out]; exact A3.out) T3.out)
  rw [← HPA.out] at HC
  go_wp2_with fail
  refine (HC.out).mono ?_
  rintro e w5 ⟨rfl, h0⟩
  have X4 := hid (X3.out.trans (h0.mono X3.out.size))
  have A4 := hid ((A3.out.below h0).mono h0.size)
  have B4 := hid ((B3.out.below h0).mono h0.size)
  have T4 := hid (T3.out.grows h0)
  clear h0 HC A3 B3 T3 X3
  have HC := hid (print_any y kb OY.out (by rw [← HYB.out]; exact SB.out) (by have := congrArg List.length HYB.out; simp only [List.length_cons] at this; omega) _ _ (by rw [← HYB.out]; exact B4.out) T4.out)
  rw [← HPB.out] at HC
  go_wp2_with fail
  refine (HC.out).mono ?_
  rintro e w6 ⟨rfl, h0⟩
  have X5 := hid (X4.out.trans (h0.mono X4.out.size))
  have A5 := hid ((A4.out.below h0).mono h0.size)
  have B5 := hid ((B4.out.below h0).mono h0.size)
  have T5 := hid (T4.out.grows h0)
  clear h0 HC A4 B4 T4 X4
  generalize hsm : L.sameL la lb = sm at *
  have HC := hid (same_any la lb _ _ _ A5.out B5.out)
  rw [hsm] at HC
  go_wp2_with fail
  refine (HC.out).mono ?_
  clear hsm
  rintro e w7 ⟨rfl, h0⟩
  have X6 := hid (X5.out.trans (h0.mono X5.out.size))
  have A6 := hid ((A5.out.below h0).mono h0.size)
  have B6 := hid ((B5.out.below h0).mono h0.size)
  have T6 := hid (T5.out.grows h0)
  clear h0 HC A5 B5 T5 X5
  go_wp2
  go_ret
  exact ⟨ret_bool (by simp), X6.out⟩

set_option maxRecDepth 100000 in
theorem tyPrints_lifted (os : Os) (started : os.Started) (H : Type) (enc : TypeId × Value → H) :
    ReturnsInHanded {} Tryd.checked os 6 .any (fun w args => (Rows.tyPrintsSpec.pre enc Tryd.prog Tryd.f6 [] false w args ∧ laidMetH Tryd.prog laidAll w) ∧ sizedMet enc Tryd.prog Tryd.f6 (OpenSpec.ofChange Rows.tyPrintsSpec) false w args)
      (Rows.tyPrintsSpec.post enc Tryd.prog Tryd.f6 false true false false) := by
  refine returnsInHanded_of_change_and (C := Tryd.checked) (X := fun w _ => laidMetH Tryd.prog laidAll w) (fun _ _ _ hh h => h.of_heap hh) own started (by kernel_rfl) Tryd.func6
    (ChangeSpec.witness_shaped (enc := enc) (C := Tryd.checked) (os := os) (X := fun w _ => laidMetH Tryd.prog laidAll w) false (World.doorLaid Tryd.prog 400 os) #[.slice none 0 0, .slice none 0 0] 8 rfl (World.shaped_of_RefB (by kernel_rfl) (by kernel_rfl)) (by kernel_rfl) (by kernel_rfl) (by kernel_rfl) (door_met os _)) ?_
  intro W base args ds gs before hval0 hW _ _ hL _
  have hT := tab_of_laid hL
  have hlts := hW.lt
  have hval : ∀ (j : Nat) t v, Tryd.f6.params[j]? = some t → args[j]? = some v → Value.okWide Tryd.prog W .any base t v := hval0
  have hW' := hW
  obtain ⟨p, q, hA0, hV, rfl, hfz, hnd⟩ := hW
  have hA : DataW.TrodAll enc Tryd.prog W 0 (fun _ => true) true Tryd.f6.params.toList args.toList ds p := hA0
  rw [Tryd.params6] at hA hval
  obtain ⟨v0, vs0, d0, ds0, p0, q0, hargs, rfl, rfl, h0, r0⟩ := trodAll_cons hA
  obtain ⟨v1, vs1, d1, ds1, p1, q1, hargs1, rfl, rfl, h1, r1⟩ := trodAll_cons r0
  obtain ⟨hn, rfl, rfl⟩ := trodAll_nil r1
  obtain rfl : args = #[v0, v1] := by cases args; simp_all
  obtain ⟨rfl, rfl⟩ := trodVars_none hV
  obtain ⟨sa0, sl0, sc0, hsv0⟩ := okWide_slice Tryd.underlying23 (hval 0 23 v0 rfl rfl)
  obtain ⟨sa1, sl1, sc1, hsv1⟩ := okWide_slice Tryd.underlying23 (hval 1 23 v1 rfl rfl)
  obtain ⟨fuel0, hf0⟩ := h0
  obtain ⟨u0, l0, hu0, hR0, hn0⟩ := rd_of_trod hf0
  obtain rfl : v0 = u0 := by
    rw [hsv0] at hu0
    rw [hsv0]
    simpa [Value.cells] using hu0
  obtain ⟨fuel1, hf1⟩ := h1
  obtain ⟨u1, l1, hu1, hR1, hn1⟩ := rd_of_trod hf1
  obtain rfl : v1 = u1 := by
    rw [hsv1] at hu1
    rw [hsv1]
    simpa [Value.cells] using hu1
  clear hA0 hval0
  simp only [List.append_nil] at hW' hlts
  refine (tyPrints_true v0 l0 hR0 hn0 v1 l1 hR1 hn1 hT).mono fun e W' ⟨he, hB⟩ => ?_
  subst he
  refine ⟨_, rfl, _, _, _, [], (p0 ++ (p1 ++ [])), [], by simpa using hW', ?_, ?_, ?_, hB.frame _, fun h => by cases h⟩
  · exact trodAll_cons_mk (shut_bool Tryd.underlying4 _) trodAll_mk0
  · exact (trodAll_cons_mk (Below.trod (by kernel_rfl) (by kernel_rfl) (of_decide_eq_true (by kernel_rfl)) ⟨fuel0, hf0⟩ hB (fun x hx => hlts x (by simp [hx]))) (trodAll_cons_mk (Below.trod (by kernel_rfl) (by kernel_rfl) (of_decide_eq_true (by kernel_rfl)) ⟨fuel1, hf1⟩ hB (fun x hx => hlts x (by simp [hx]))) trodAll_mk0))
  · rfl

/-- TyPrints: the row. -/
theorem tyPrints_holds : Rows.TyPrintsSaid :=
  OpenClaim.holds_of_wide 6 Tryd.f6 rfl rfl rfl rfl rfl rfl rfl ⟨rfl, rfl, rfl, rfl, rfl⟩ rfl rfl rfl rfl rfl (by kernel_rfl) Tryd.func6 (by kernel_rfl)
    (of_decide_eq_true (by kernel_rfl)) (by unfold Func.isWrapper; first | (rw [if_pos (by decide +kernel)]; kernel_rfl) | (rw [if_neg (by decide +kernel)]; exact ⟨rfl, rfl⟩))
    (fun os started H enc _ => tyPrints_lifted os started H enc)

/-- TyPrints: the given statement, the card: the three tables are tied to the program's text. -/
theorem tyPrints_card : Rows.TyPrintsCardSaid :=
  Claim7.holds_tied_plain_at .later [] [.data, .data, .data] true Rows.tyPrintsCard.stood.harness false
    tyPrints_holds (fun _ h => by cases h) (by kernel_rfl) (fun _ h => by cases h) tyPrints_row_tie rfl ⟨rfl, rfl⟩ (by kernel_rfl) rfl
    (fun f fn hf hfn => by
      obtain rfl : f = 6 := Option.some.inj ((show Tryd.prog.funcNamed "leaven/leavenlaw03.TyPrints" = some 6 by kernel_rfl).symm.trans hf) |>.symm
      obtain rfl : fn = Tryd.f6 := (Option.some.inj (Tryd.func6.symm.trans hfn)).symm
      exact ⟨by kernel_rfl, fun j t ht => by
        rw [Tryd.params6] at ht
        have hm : t ∈ [23, 23] := by simpa using Array.mem_of_getElem? ht
        have hall : ([23, 23].all fun u => !Tryd.prog.wantsStandIn u) = true := by kernel_rfl
        exact (show Tryd.prog.wantsStandIn t = false by simpa using List.all_eq_true.1 hall t hm)⟩)
    (by kernel_rfl)

end Go.Proofs.YtjcocjpenchplaaDoor.tyPrints
