/-
  TyTells is true for any type and any place: how it is printed, where its nodes end, its children and its parts are told as the reference tells them; it stays. No conditions but the card's own.
-/
import Derived.Test.YtimlblbmfckeiaaDoorRows
import Derived.Test.YtimlblbmfckeiaaDoorCards
import Derived.Test.YtimlblbmfckeiaaDoorTie
import Derived.Test.YtimlblbmfckeiaaDoorTyLq
import Derived.Test.YtimlblbmfckeiaaDoorTyAl
import Derived.Test.YtimlblbmfckeiaaDoorTyT
import Derived.Test.YtimlblbmfckeiaaDoorTyAr
import Derived.Test.YtimlblbmfckeiaaDoorTyAp
import Derived.Test.YtimlblbmfckeiaaDoorTyPe
import Derived.SevenTiedAt
import Derived.Deep.CutRange
import Derived.Deep.RegionHeld3
namespace Go.Proofs.YtimlblbmfckeiaaDoor.tyTells
open Go.ChangeShapes Go.WideShapes Go.ChangeAt Go.RowKit

theorem own : ownKnob Tryd.prog.godebug = none := by kernel_rfl

theorem names_of {l : List L.Nd} (h : L.namedL l = true) : (∀ x ∈ l, x.name.size ≤ 200) ∧ l.length ≤ 200 := by
  simp only [L.namedL, Bool.and_eq_true, decide_eq_true_eq, List.all_eq_true] at h
  exact ⟨h.2, h.1⟩

set_option maxHeartbeats 4000000 in
set_option maxRecDepth 100000 in
theorem tyTells_true {W : World} (va : Value) (la : List L.Nd) (ha : Rd W W.heap.size va la) (h1 : ∀ y ∈ la, y.n ≤ 9223372036854775807) (i : Int) {p0 : Prop} (_ : p0) (hT : Tab W) :
    Calls Tryd.prog 3 #[va, .int .i64 i] W fun e w' => e = .returned (.bool true) ∧ Below W.heap.size W w' := by
  have NA := hid (named_any la va W ha)
  have HA := hid ha
  have HT := hid hT
  have H1 := hid h1
  obtain ⟨Aa, ca, rfl, hca, hcm, -⟩ := ha
  unfold maxLen at hcm
  clear hT h1
  cases hna : L.namedL la with
  | false =>
    rw [hna] at NA
    clear hna
    go_enter Tryd.func3, Tryd.ntmps3
    go_wp2_with fail
    refine (NA.out).mono ?_
    rintro e w1 ⟨rfl, rfl⟩
    go_wp2_with fail
    refine (alive_any _ HT.out).mono ?_
    rintro e w9 ⟨rfl, h9⟩
    go_wp2
    go_ret
    exact ⟨rfl, h9⟩
  | true =>
  rw [hna] at NA
  have hla := (names_of hna).2
  have HNA := hid (names_of hna).1
  clear hna
  go_enter Tryd.func3, Tryd.ntmps3
  go_wp2_with fail
  refine (NA.out).mono ?_
  rintro e w1 ⟨rfl, rfl⟩
  have X0 := hid (Below.refl w1.heap.size w1)
  have A0 := HA
  have T0 := HT
  clear NA HA HT
  have HC := hid (refRight_any la (fun x hx => Nat.le_trans (HNA.out x hx) (by omega)) _ _ A0.out)
  cases hra : L.rightL la with
  | false =>
    rw [hra] at HC
    clear hra
    go_wp2_with fail
    refine (HC.out).mono ?_
    rintro e w2 ⟨rfl, h0⟩
    have X1 := hid (X0.out.trans (h0.mono X0.out.size))
    have A1 := hid ((A0.out.below h0).mono h0.size)
    have T1 := hid (T0.out.grows h0)
    clear h0 HC A0 T0 X0
    have HC := hid (alive_any _ T1.out)
    go_wp2_with fail
    refine (HC.out).mono ?_
    rintro e w3 ⟨rfl, h0⟩
    go_wp2
    go_ret
    exact ⟨rfl, X1.out.trans (h0.mono X1.out.size)⟩
  | true =>
  rw [hra] at HC
  have HRA := hid hra
  clear hra
  go_wp2_with fail
  refine (HC.out).mono ?_
  rintro e w2 ⟨rfl, h0⟩
  have X1 := hid (X0.out.trans (h0.mono X0.out.size))
  have A1 := hid ((A0.out.below h0).mono h0.size)
  have T1 := hid (T0.out.grows h0)
  clear h0 HC A0 T0 X0
  obtain ⟨x, ka, hxa, hlx, bx, okx, -⟩ := (L.rightL_iff la).1 HRA.out
  have OX := hid okx
  have BX := hid bx
  have HXA := hid hxa
  have SA : Hid (Short la) := hid fun z hz => ⟨HNA.out z hz, H1.out z hz⟩
  have FT : Hid (Few la) := hid (few_of (by omega) (by
    rw [List.all_eq_true]
    intro z hz
    rw [hxa] at hz
    have h := L.numbered_flat _ okx z
    simp only [L.Fo.flat, List.append_nil] at h
    exact h hz))
  have hla0 : 0 < la.length := by rw [hxa]; simp
  obtain ⟨PA, hPA⟩ : ∃ PA : ByteArray, PA = ⟨(L.prT false x ka).toArray⟩ := ⟨_, rfl⟩
  have HPA := hid hPA
  clear hPA okx bx hxa hlx
  go_wp2_with (at_builtin; refine wpList_app rfl _ _ rfl rfl w2.heap.size _ _ [] la rfl (World.ownsRow_made w2 #[] 0 (Nat.le_refl _) (Nat.zero_le _) (by simp)) rfl ?c1 ?c2 ?c3 ?_)
  case c1 => exact (A1.out.alloc _).mono (by simp)
  case c2 => simp; omega
  case c3 => simp
  intro v1 wA o1 g1
  have b1 : Below w2.heap.size w2 wA := (below_new _).grown g1 (by simp) (by intro k hk; simp [Value.ownBlock] at hk; omega)
  obtain ⟨A1o, c1, hv1, hn1, hm1, -⟩ := o1.rd
  subst hv1
  unfold maxLen at hm1
  have O2 := hid o1
  have X2 := hid (X1.out.trans (b1.mono X1.out.size))
  have A2 := hid ((A1.out.below b1).mono b1.size)
  have T2 := hid (T1.out.grows b1)
  clear o1 g1 b1 A1 X1 T1
  have HC := hid (print_any x ka OX.out (by rw [← HXA.out]; exact SA.out) (by have := congrArg List.length HXA.out; simp only [List.length_cons] at this; omega) _ _ (by rw [← HXA.out]; exact A2.out) T2.out)
  rw [← HPA.out] at HC
  go_wp2_with fail
  refine (HC.out).mono ?_
  rintro e w4 ⟨rfl, h0⟩
  have X3 := hid (X2.out.trans (h0.mono X2.out.size))
  have A3 := hid ((A2.out.below h0).mono h0.size)
  have T3 := hid (T2.out.grows h0)
  have O3 := hid (O2.out.below h0)
  clear h0 HC A2 T2 X2 O2
  have HC := hid (refPrint_any x ka OX.out (by rw [← HXA.out]; exact SA.out) BX.out (by have := congrArg List.length HXA.out; simp only [List.length_cons] at this; omega) _ _ (by rw [← HXA.out]; exact A3.out))
  rw [← HPA.out] at HC
  go_wp2_with fail
  refine (HC.out).mono ?_
  rintro e w5 ⟨rfl, h0⟩
  have X4 := hid (X3.out.trans (h0.mono X3.out.size))
  have A4 := hid ((A3.out.below h0).mono h0.size)
  have T4 := hid (T3.out.grows h0)
  have O4 := hid (O3.out.below h0)
  clear h0 HC A3 T3 X3 O3
  by_cases hi : 0 ≤ i ∧ i < la.length
  · skip
    obtain ⟨p, rfl⟩ : ∃ p : Nat, i = p := ⟨i.toNat, by omega⟩
    have hp : p < la.length := by omega
    have HP := hid hp
    obtain ⟨ee, hee⟩ : ∃ ee, ee = p + L.eat 1 (la.drop p) := ⟨_, rfl⟩
    obtain ⟨PL, hPL⟩ : ∃ PL, PL = L.partL la p := ⟨_, rfl⟩
    obtain ⟨KL, hkl, hka, hkb⟩ : ∃ KL : List Nat, KL.length ≤ 1000000 ∧ (∀ w, Rd w w.heap.size (.slice Aa la.length ca) la → Calls Tryd.prog 14 #[.slice Aa la.length ca, .int .i64 (p : Int)] w fun e w' => ∃ v', e = .returned v' ∧ OwnI w.heap.size v' KL w' ∧ Below w.heap.size w w') ∧
        (∀ w, Rd w w.heap.size (.slice Aa la.length ca) la → Calls Tryd.prog 15 #[.slice Aa la.length ca, .int .i64 (p : Int)] w fun e w' => ∃ v', e = .returned v' ∧ OwnI w.heap.size v' KL w' ∧ Below w.heap.size w w') :=
      ⟨_, by
        have h := L.kidsL_length_le la (L.many (la[p]'HP.out)).toNat (p + 1)
        have h2 := (FT.out.2 _ (List.getElem_mem HP.out)).2
        omega, fun w h => kids_any la FT.out _ p HP.out w h, fun w h => refKids_any la FT.out _ p HP.out w h⟩
    have HKN := hid hkl
    have HKA := hid hka
    have HKB := hid hkb
    have HEE := hid hee
    have HPL := hid hPL
    clear hee hPL hkl hka hkb
    have HC := hid (end_any la FT.out _ p HP.out _ A4.out)
    rw [← HEE.out] at HC
    go_wp2_with fail
    refine (HC.out).mono ?_
    rintro e w6 ⟨rfl, h0⟩
    have X5 := hid (X4.out.trans (h0.mono X4.out.size))
    have A5 := hid ((A4.out.below h0).mono h0.size)
    have T5 := hid (T4.out.grows h0)
    have O5 := hid (O4.out.below h0)
    clear h0 HC A4 T4 X4 O4
    have HC := hid (refEnd_any la FT.out _ p HP.out _ A5.out)
    rw [← HEE.out] at HC
    go_wp2_with fail
    refine (HC.out).mono ?_
    rintro e w7 ⟨rfl, h0⟩
    have X6 := hid (X5.out.trans (h0.mono X5.out.size))
    have A6 := hid ((A5.out.below h0).mono h0.size)
    have T6 := hid (T5.out.grows h0)
    have O6 := hid (O5.out.below h0)
    clear h0 HC A5 T5 X5 O5
    have HC := hid (HKA.out _ A6.out)
    go_wp2_with fail
    refine (HC.out).mono ?_
    rintro e w8 ⟨vk, rfl, ok, h0⟩
    have K7 := hid ok
    clear ok
    have X7 := hid (X6.out.trans (h0.mono X6.out.size))
    have A7 := hid ((A6.out.below h0).mono h0.size)
    have T7 := hid (T6.out.grows h0)
    have O7 := hid (O6.out.below h0)
    clear h0 HC A6 T6 X6 O6
    have HC := hid (HKB.out _ A7.out)
    go_wp2_with fail
    refine (HC.out).mono ?_
    rintro e w9 ⟨vj, rfl, ok, h0⟩
    have J8 := hid ok
    clear ok
    have X8 := hid (X7.out.trans (h0.mono X7.out.size))
    have A8 := hid ((A7.out.below h0).mono h0.size)
    have T8 := hid (T7.out.grows h0)
    have O8 := hid (O7.out.below h0)
    have K8 := hid (K7.out.below h0)
    clear h0 HC A7 T7 X7 O7 K7
    have HC := hid (ints_same KL _ _ _ K8.out.rd J8.out.rd HKN.out)
    go_wp2_with fail
    refine (HC.out).mono ?_
    rintro e w10 ⟨rfl, h0⟩
    have X9 := hid (X8.out.trans (h0.mono X8.out.size))
    have A9 := hid ((A8.out.below h0).mono h0.size)
    have T9 := hid (T8.out.grows h0)
    have O9 := hid (O8.out.below h0)
    have K9 := hid (K8.out.below h0)
    have J9 := hid (J8.out.below h0)
    clear h0 HC A8 T8 X8 O8 K8 J8
    clear K9 J9
    have HC := hid (alive_any _ T9.out)
    go_wp2_with fail
    refine (HC.out).mono ?_
    rintro e w11 ⟨rfl, h0⟩
    have X10 := hid (X9.out.trans (h0.mono X9.out.size))
    have A10 := hid ((A9.out.below h0).mono h0.size)
    have T10 := hid (T9.out.grows h0)
    have O10 := hid (O9.out.below h0)
    clear h0 HC A9 T9 X9 O9
    have HC := hid (part_any la FT.out _ p HP.out _ A10.out)
    rw [← HPL.out] at HC
    go_wp2_with fail
    refine (HC.out).mono ?_
    rintro e w12 ⟨vq, rfl, ok, h0⟩
    have Q11 := hid ok
    clear ok
    have X11 := hid (X10.out.trans (h0.mono X10.out.size))
    have A11 := hid ((A10.out.below h0).mono h0.size)
    have T11 := hid (T10.out.grows h0)
    have O11 := hid (O10.out.below h0)
    clear h0 HC A10 T10 X10 O10
    have HC := hid (refPart_any la FT.out _ p HP.out _ A11.out)
    rw [← HPL.out] at HC
    go_wp2_with fail
    refine (HC.out).mono ?_
    rintro e w13 ⟨vr, rfl, ok, h0⟩
    have R12 := hid ok
    clear ok
    have X12 := hid (X11.out.trans (h0.mono X11.out.size))
    have A12 := hid ((A11.out.below h0).mono h0.size)
    have T12 := hid (T11.out.grows h0)
    have O12 := hid (O11.out.below h0)
    have Q12 := hid (Q11.out.below h0)
    clear h0 HC A11 T11 X11 O11 Q11
    have HC := hid (one_any PL PL _ _ _ Q12.out.rd R12.out.rd)
    rw [decide_eq_true (rfl : PL = PL)] at HC
    go_wp2_with fail
    refine (HC.out).mono ?_
    rintro e w14 ⟨rfl, h0⟩
    have X13 := hid (X12.out.trans (h0.mono X12.out.size))
    have A13 := hid ((A12.out.below h0).mono h0.size)
    have T13 := hid (T12.out.grows h0)
    have O13 := hid (O12.out.below h0)
    have Q13 := hid (Q12.out.below h0)
    have R13 := hid (R12.out.below h0)
    clear h0 HC A12 T12 X12 O12 Q12 R12
    clear Q13 R13
    have HC := hid (one_any la la _ _ _ A13.out O13.out.rd)
    rw [decide_eq_true (rfl : la = la)] at HC
    go_wp2_with fail
    refine (HC.out).mono ?_
    rintro e w15 ⟨rfl, h0⟩
    have X14 := hid (X13.out.trans (h0.mono X13.out.size))
    have A14 := hid ((A13.out.below h0).mono h0.size)
    have T14 := hid (T13.out.grows h0)
    have O14 := hid (O13.out.below h0)
    clear h0 HC A13 T13 X13 O13
    go_wp2
    go_ret
    exact ⟨ret_bool (by simp), X14.out⟩
  · skip
    have HP := hid hi
    clear hi
    have HC := hid (end_out la _ i HP.out _ A4.out)
    go_wp2_with fail
    refine (HC.out).mono ?_
    rintro e w6 ⟨rfl, rfl⟩
    clear HC
    have HC := hid (refEnd_out la _ i HP.out _ A4.out)
    go_wp2_with fail
    refine (HC.out).mono ?_
    rintro e w6 ⟨rfl, rfl⟩
    clear HC
    have HC := hid (kids_out la _ i HP.out _ A4.out)
    go_wp2_with fail
    refine (HC.out).mono ?_
    rintro e w6 ⟨rfl, rfl⟩
    clear HC
    have HC := hid (refKids_out la _ i HP.out _ A4.out)
    go_wp2_with fail
    refine (HC.out).mono ?_
    rintro e w6 ⟨vj, rfl, ok, h0⟩
    have J5 := hid ok
    clear ok
    have X5 := hid (X4.out.trans (h0.mono X4.out.size))
    have A5 := hid ((A4.out.below h0).mono h0.size)
    have T5 := hid (T4.out.grows h0)
    have O5 := hid (O4.out.below h0)
    clear h0 HC A4 T4 X4 O4
    have HC := hid (ints_same [] (.slice none 0 0) _ _ ⟨none, 0, rfl, fun h => absurd rfl h⟩ J5.out.rd (by simp))
    go_wp2_with fail
    refine (HC.out).mono ?_
    rintro e w7 ⟨rfl, h0⟩
    have X6 := hid (X5.out.trans (h0.mono X5.out.size))
    have A6 := hid ((A5.out.below h0).mono h0.size)
    have T6 := hid (T5.out.grows h0)
    have O6 := hid (O5.out.below h0)
    have J6 := hid (J5.out.below h0)
    clear h0 HC A5 T5 X5 O5 J5
    clear J6
    have HC := hid (alive_any _ T6.out)
    go_wp2_with fail
    refine (HC.out).mono ?_
    rintro e w8 ⟨rfl, h0⟩
    have X7 := hid (X6.out.trans (h0.mono X6.out.size))
    have A7 := hid ((A6.out.below h0).mono h0.size)
    have T7 := hid (T6.out.grows h0)
    have O7 := hid (O6.out.below h0)
    clear h0 HC A6 T6 X6 O6
    have HC := hid (part_out la _ i HP.out _ A7.out)
    go_wp2_with fail
    refine (HC.out).mono ?_
    rintro e w9 ⟨rfl, rfl⟩
    clear HC
    have HC := hid (refPart_out la _ i HP.out _ A7.out)
    go_wp2_with fail
    refine (HC.out).mono ?_
    rintro e w9 ⟨rfl, rfl⟩
    clear HC
    have HC := hid (one_any [] [] (.slice none 0 0) (.slice none 0 0) _ (Own.nil w8.heap.size w8).rd (Own.nil w8.heap.size w8).rd)
    rw [decide_eq_true (rfl : ([] : List L.Nd) = [])] at HC
    go_wp2_with fail
    refine (HC.out).mono ?_
    rintro e w9 ⟨rfl, h0⟩
    have X8 := hid (X7.out.trans (h0.mono X7.out.size))
    have A8 := hid ((A7.out.below h0).mono h0.size)
    have T8 := hid (T7.out.grows h0)
    have O8 := hid (O7.out.below h0)
    clear h0 HC A7 T7 X7 O7
    have HC := hid (one_any la la _ _ _ A8.out O8.out.rd)
    rw [decide_eq_true (rfl : la = la)] at HC
    go_wp2_with fail
    refine (HC.out).mono ?_
    rintro e w10 ⟨rfl, h0⟩
    have X9 := hid (X8.out.trans (h0.mono X8.out.size))
    have A9 := hid ((A8.out.below h0).mono h0.size)
    have T9 := hid (T8.out.grows h0)
    have O9 := hid (O8.out.below h0)
    clear h0 HC A8 T8 X8 O8
    go_wp2
    go_ret
    exact ⟨ret_bool (by simp), X9.out⟩

set_option maxRecDepth 100000 in
theorem tyTells_lifted (os : Os) (started : os.Started) (H : Type) (enc : TypeId × Value → H) :
    ReturnsInHanded {} Tryd.checked os 3 .any (fun w args => (Rows.tyTellsSpec.pre enc Tryd.prog Tryd.f3 [] false w args ∧ laidMetH Tryd.prog laidAll w) ∧ sizedMet enc Tryd.prog Tryd.f3 (OpenSpec.ofChange Rows.tyTellsSpec) false w args)
      (Rows.tyTellsSpec.post enc Tryd.prog Tryd.f3 false true false false) := by
  refine returnsInHanded_of_change_and (C := Tryd.checked) (X := fun w _ => laidMetH Tryd.prog laidAll w) (fun _ _ _ hh h => h.of_heap hh) own started (by kernel_rfl) Tryd.func3
    (ChangeSpec.witness_shaped (enc := enc) (C := Tryd.checked) (os := os) (X := fun w _ => laidMetH Tryd.prog laidAll w) false (World.doorLaid Tryd.prog 400 os) #[.slice none 0 0, .int .i64 0] 8 rfl (World.shaped_of_RefB (by kernel_rfl) (by kernel_rfl)) (by kernel_rfl) (by kernel_rfl) (by kernel_rfl) (door_met os _)) ?_
  intro W base args ds gs before hval0 hW _ _ hL _
  have hT := tab_of_laid hL
  have hlts := hW.lt
  have hval : ∀ (j : Nat) t v, Tryd.f3.params[j]? = some t → args[j]? = some v → Value.okWide Tryd.prog W .any base t v := hval0
  have hW' := hW
  obtain ⟨p, q, hA0, hV, rfl, hfz, hnd⟩ := hW
  have hA : DataW.TrodAll enc Tryd.prog W 0 (fun _ => true) true Tryd.f3.params.toList args.toList ds p := hA0
  rw [Tryd.params3] at hA hval
  obtain ⟨v0, vs0, d0, ds0, p0, q0, hargs, rfl, rfl, h0, r0⟩ := trodAll_cons hA
  obtain ⟨v1, vs1, d1, ds1, p1, q1, hargs1, rfl, rfl, h1, r1⟩ := trodAll_cons r0
  obtain ⟨hn, rfl, rfl⟩ := trodAll_nil r1
  obtain rfl : args = #[v0, v1] := by cases args; simp_all
  obtain ⟨rfl, rfl⟩ := trodVars_none hV
  obtain ⟨sa0, sl0, sc0, hsv0⟩ := okWide_slice Tryd.underlying23 (hval 0 23 v0 rfl rfl)
  obtain ⟨a1, rfl, rfl, rfl, w1⟩ := open_int Tryd.underlying3 (hval 1 3 v1 rfl rfl) h1
  obtain ⟨fuel0, hf0⟩ := h0
  obtain ⟨u0, l0, hu0, hR0, hn0⟩ := rd_of_trod hf0
  obtain rfl : v0 = u0 := by
    rw [hsv0] at hu0
    rw [hsv0]
    simpa [Value.cells] using hu0
  clear hA0 hval0
  simp only [List.append_nil] at hW' hlts
  refine (tyTells_true v0 l0 hR0 hn0 a1 w1 hT).mono fun e W' ⟨he, hB⟩ => ?_
  subst he
  refine ⟨_, rfl, _, _, _, [], (p0 ++ ([] ++ [])), [], by simpa using hW', ?_, ?_, ?_, hB.frame _, fun h => by cases h⟩
  · exact trodAll_cons_mk (shut_bool Tryd.underlying4 _) trodAll_mk0
  · exact (trodAll_cons_mk (Below.trod (by kernel_rfl) (by kernel_rfl) (of_decide_eq_true (by kernel_rfl)) ⟨fuel0, hf0⟩ hB (fun x hx => hlts x (by simp [hx]))) (trodAll_cons_mk (shut_int Tryd.underlying3 w1) trodAll_mk0))
  · rfl

/-- TyTells: the row. -/
theorem tyTells_holds : Rows.TyTellsSaid :=
  OpenClaim.holds_of_wide 3 Tryd.f3 rfl rfl rfl rfl rfl rfl rfl ⟨rfl, rfl, rfl, rfl, rfl⟩ rfl rfl rfl rfl rfl (by kernel_rfl) Tryd.func3 (by kernel_rfl)
    (of_decide_eq_true (by kernel_rfl)) (by unfold Func.isWrapper; first | (rw [if_pos (by decide +kernel)]; kernel_rfl) | (rw [if_neg (by decide +kernel)]; exact ⟨rfl, rfl⟩))
    (fun os started H enc _ => tyTells_lifted os started H enc)

/-- TyTells: the given statement, the card: the three tables are tied to the program's text. -/
theorem tyTells_card : Rows.TyTellsCardSaid :=
  Claim7.holds_tied_plain_at .later [] [.data, .data, .data] true Rows.tyTellsCard.stood.harness false
    tyTells_holds (fun _ h => by cases h) (by kernel_rfl) (fun _ h => by cases h) tyTells_row_tie rfl ⟨rfl, rfl⟩ (by kernel_rfl) rfl
    (fun f fn hf hfn => by
      obtain rfl : f = 3 := Option.some.inj ((show Tryd.prog.funcNamed "leaven/leavenlaw03.TyTells" = some 3 by kernel_rfl).symm.trans hf) |>.symm
      obtain rfl : fn = Tryd.f3 := (Option.some.inj (Tryd.func3.symm.trans hfn)).symm
      exact ⟨by kernel_rfl, fun j t ht => by
        rw [Tryd.params3] at ht
        have hm : t ∈ [23, 3] := by simpa using Array.mem_of_getElem? ht
        have hall : ([23, 3].all fun u => !Tryd.prog.wantsStandIn u) = true := by kernel_rfl
        exact (show Tryd.prog.wantsStandIn t = false by simpa using List.all_eq_true.1 hall t hm)⟩)
    (by kernel_rfl)

end Go.Proofs.YtimlblbmfckeiaaDoor.tyTells
