/-
  AstTells is true for any row of parts and any place: where a part ends, its children, the print and the free names are told as the reference tells them; the row stays. No conditions but the card's own.
-/
import Derived.Test.YthbieinbpfjgkaaGreatDoorRows
import Derived.Test.YthbieinbpfjgkaaGreatDoorCards
import Derived.Test.YthbieinbpfjgkaaGreatDoorTie
import Derived.Test.YthbieinbpfjgkaaGreatDoorMA17
import Derived.Test.YthbieinbpfjgkaaGreatDoorMA16
import Derived.Test.YthbieinbpfjgkaaGreatDoorMA19
import Derived.Test.YthbieinbpfjgkaaGreatDoorAsPx
import Derived.Test.YthbieinbpfjgkaaGreatDoorAsTf
import Derived.Test.YthbieinbpfjgkaaGreatDoorAsZo
import Derived.Test.YthbieinbpfjgkaaGreatDoorMA11
import Derived.Test.YthbieinbpfjgkaaGreatDoorMA1
import Derived.SevenTiedAt
namespace Go.Proofs.YthbieinbpfjgkaaGreatDoor.astTells
open Go.ChangeShapes Go.WideShapes Go.ChangeAt Go.RowKit


theorem own : ownKnob Tryz.prog.godebug = none := by kernel_rfl

/-- What both say of any place: where it ends, and the children. -/
theorem both_at {la : List E.Pt} (hF : FewP la) (hR : ∀ y ∈ la, E.many y = E.manyR y) (va : Value) (i : Int) (W : World) (ha : RdP W W.heap.size va la) (hK : KTab W) :
    ∃ (eV : Int) (kl : List Nat), kl.length ≤ 1000000 ∧
      (∀ W', Below W.heap.size W W' → Calls Tryz.prog 16 #[va, .int .i64 i] W' fun e w' => e = .returned (.int .i64 eV) ∧ Below W'.heap.size W' w') ∧
      (∀ W', Below W.heap.size W W' → Calls Tryz.prog 17 #[va, .int .i64 i] W' fun e w' => e = .returned (.int .i64 eV) ∧ Below W'.heap.size W' w') ∧
      (∀ W', Below W.heap.size W W' → Calls Tryz.prog 19 #[va, .int .i64 i] W' fun e w' => ∃ v', e = .returned v' ∧ OwnI W'.heap.size v' kl w' ∧ Below W'.heap.size W' w') ∧
      (∀ W', Below W.heap.size W W' → Calls Tryz.prog 20 #[va, .int .i64 i] W' fun e w' => ∃ v', e = .returned v' ∧ OwnI W'.heap.size v' kl w' ∧ Below W'.heap.size W' w') := by
  by_cases hi : 0 ≤ i ∧ i < la.length
  · obtain ⟨p, rfl⟩ : ∃ p : Nat, i = p := ⟨i.toNat, by omega⟩
    have hp : p < la.length := by omega
    refine ⟨_, E.kidsL la (E.many la[p]).toNat (p + 1), ?_, fun W' hW => aend_any la hF va p hp W' (ha.below hW) (hK.grows hW), fun W' hW => rend_any la hF hR va p hp W' (ha.below hW), fun W' hW => akids_any la hF va p hp W' (ha.below hW) (hK.grows hW), fun W' hW => rkids_any la hF hR va p hp W' (ha.below hW)⟩
    have h1 := E.kidsL_length_le la (E.many la[p]).toNat (p + 1)
    have h2 := (hF.2 _ (List.getElem_mem hp)).2.1
    omega
  · exact ⟨-1, [], by simp, fun W' hW => (aend_out la va i hi W' (ha.below hW)).mono fun e w' ⟨h1, h2⟩ => ⟨h1, by rw [h2]; exact Below.refl _ _⟩, fun W' hW => (rend_out la va i hi W' (ha.below hW)).mono fun e w' ⟨h1, h2⟩ => ⟨h1, by rw [h2]; exact Below.refl _ _⟩, fun W' hW => akids_out la va i hi W' (ha.below hW), fun W' hW => rkids_out la va i hi W' (ha.below hW)⟩

theorem free_fewS {x : E.Pt} {ks : E.Fo} (h : ks.flat.length + 1 ≤ 120) : (freeS (E.freeT x ks [])).length ≤ 1000000 := by
  unfold freeS
  rw [List.length_map]
  have h1 := Lib.compact_length_le ((List.map (fun x => x.data.toList) (E.freeT x ks [])).mergeSort fun x y => decide (x ≤ y))
  rw [List.length_mergeSort, List.length_map] at h1
  have h2 := (E.Fo.cons x ks .nil).free_length (⟨3, ⟨#[]⟩, ⟨#[]⟩, ⟨#[]⟩, 0, 0, [], []⟩) 0 []
  rw [E.Fo.free_cons] at h2
  have h3 : E.bindsL (⟨3, ⟨#[]⟩, ⟨#[]⟩, ⟨#[]⟩, 0, 0, [], []⟩) 0 = [] := rfl
  rw [h3, List.append_nil] at h2
  simp only [E.Fo.flat, List.length_cons, List.append_nil, E.Fo.free] at h2
  omega

set_option maxHeartbeats 8000000 in
set_option maxRecDepth 100000 in
theorem astTells_true {W : World} (va : Value) (la : List E.Pt) (ha : RdP W W.heap.size va la) (na : ∀ y ∈ la, NumP y) (i : Int) {p0 : Prop} (_ : p0) (hT : Tab W) (hK : KTab W) (hM : MCell W) :
    Calls Tryz.prog 4 #[va, .int .i64 i] W fun e w' => e = .returned (.bool true) ∧ Below W.heap.size W w' := by
  have FA := hid (rfew_any la 120 (by decide) va W ha)
  have AL := hid (fun (W' : World) (hW : Below W.heap.size W W') => aalive_any W' (hT.grows hW) (hK.grows hW) (hM.grows hW))
  have HA := hid ha
  have HK := hid hK
  have HTB := hid hT
  have HNA := hid na
  have h2W := hM.choose_spec.2
  obtain ⟨Aa, ca, hva, hl1, hl2, -⟩ := ha
  unfold maxLen at hl2
  clear hT hK hM na
  cases hfa : E.fewL la 120 with
  | false =>
    rw [hfa] at FA
    subst hva
    clear hfa
    go_enter Tryz.func4, Tryz.ntmps4
    go_wp2_with fail
    refine (FA.out).mono ?_
    rintro e w1 ⟨rfl, hw1⟩
    have hw2 := hw1.symm
    subst hw2
    clear hw1
    go_wp2_with fail
    refine (AL.out _ (Below.refl _ _)).mono ?_
    rintro e w1 ⟨rfl, h1⟩
    go_wp2
    go_ret
    exact ⟨rfl, h1⟩
  | true =>
    rw [hfa] at FA
    have QA := hid hfa
    have HSA : Hid (∀ x ∈ la, Small x) := hid fun x hx => E.small_of_few (List.all_eq_true.1 ((Bool.and_eq_true _ _).mp hfa).2 x hx)
    have h120 : la.length ≤ 120 := of_decide_eq_true ((Bool.and_eq_true _ _).mp hfa).1
    have RR := hid (raright_any la HSA.out va W HA.out)
    clear hfa
    cases hra : E.rightL la with
    | false =>
      rw [hra] at RR
      subst hva
      clear hra
      go_enter Tryz.func4, Tryz.ntmps4
      go_wp2_with fail
      refine (FA.out).mono ?_
      rintro e w1 ⟨rfl, hw1⟩
      have hw2 := hw1.symm
      subst hw2
      clear hw1
      go_wp2_with fail
      refine (RR.out).mono ?_
      rintro e w1 ⟨rfl, hr1⟩
      go_wp2_with fail
      refine (AL.out _ hr1).mono ?_
      rintro e w2 ⟨rfl, h1⟩
      go_wp2
      go_ret
      exact ⟨rfl, hr1.trans (h1.mono hr1.size)⟩
    | true =>
      rw [hra] at RR
      obtain ⟨x, ks, hlx, -, -, hok, -⟩ := (E.rightL_iff la).1 hra
      have hsnd : ∀ y ∈ la, E.sound y = true := fun y hy => E.sound_flat (E.Fo.cons x ks .nil) hok y (by rw [hlx] at hy; simpa [E.Fo.flat] using hy)
      have hmany : ∀ y ∈ la, -1000000 ≤ y.many ∧ y.many ≤ 1000000 := fun y hy => E.many_bound (hsnd y hy)
      have hFW := afew_of (by omega) (List.all_eq_true.2 hsnd)
      have hRM : ∀ y ∈ la, E.many y = E.manyR y := fun y hy => manyR_of_sound (hsnd y hy)
      have hP1 := E.pr1_of hlx QA.out HNA.out hok
      have hkl : ks.flat.length + 1 ≤ 120 := by have := congrArg List.length hlx; simp at this; omega
      have hpl := E.eprT_len hP1 hkl
      obtain ⟨eV, kl, hkll, he1, he2, hk1, hk2⟩ := both_at hFW hRM va i W HA.out HK.out
      have HE1 := hid he1
      have HE2 := hid he2
      have HK1 := hid hk1
      have HK2 := hid hk2
      have HP1 := hid (fun (W' : World) (hW : Below W.heap.size W W') => aprint_any x ks (E.ok_fit _ hok) hP1 (by omega) hpl va W' (by rw [← hlx]; exact HA.out.below hW) (HK.out.grows hW) (HTB.out.grows hW))
      have HP2 := hid (fun (W' : World) (hW : Below W.heap.size W W') => rPrint_any la hFW hRM (by rw [hlx]; exact hP1) h120 x ks hlx hok va W' (HA.out.below hW))
      have HF1 := hid (fun (W' : World) (hW : Below W.heap.size W W') => afree_any x ks (E.ok_fit _ hok) (by rw [← hlx]; exact hmany) (by omega) va W' (by rw [← hlx]; exact HA.out.below hW) (HK.out.grows hW) (by have := hW.size; omega))
      have HF2 := hid (fun (W' : World) (hW : Below W.heap.size W W') => rFree_any la hFW hRM h120 x ks hlx hok va W' (HA.out.below hW))
      have hLS := free_fewS (x := x) hkl
      obtain ⟨LS, hLSe⟩ : ∃ LS, LS = freeS (E.freeT x ks []) := ⟨_, rfl⟩
      rw [← hLSe] at HF1 HF2 hLS
      obtain ⟨PT, hPT⟩ : ∃ PT : ByteArray, PT = ⟨(E.prT x ks).toArray⟩ := ⟨_, rfl⟩
      rw [← hPT] at HP1 HP2
      have hla0 : 0 < la.length := by rw [hlx]; simp
      obtain ⟨ys, bl, o, cap, hys, hry, hvb, hb, hcap1, hcap2, hcells⟩ := HA.out.pick (by rw [hlx]; simp)
      have HYS := hid hys
      have HRY := hid hry
      have HCE := hid hcells
      unfold maxLen at hcap2
      have HYL : Hid (ys.length = la.length) := hid (by rw [← hys, List.length_map])
      obtain ⟨ip, hip, hz0, hz1, hz2⟩ := info_parts infoPart
      clear hra hlx hok hsnd hmany hFW hRM hP1 hpl he1 he2 hk1 hk2 hLSe hPT hys hry hcells hva hl1 hl2 hkl
      subst hvb
      go_enter Tryz.func4, Tryz.ntmps4
      go_wp2_with fail
      refine (FA.out).mono ?_
      rintro e w1 ⟨rfl, hw1⟩
      have hw2 := hw1.symm
      subst hw2
      clear hw1
      go_wp2_with fail
      refine (RR.out).mono ?_
      rintro e w1 ⟨rfl, hr1⟩
      have B1 := hid hr1
      have HOW : Hid ((w1.alloc (.cells #[] 39)).ownsRow w1.heap.size 39 8 (.slice (some ⟨w1.heap.size, 0, none⟩) 0 0) 0 []) := hid (OwnP.made w1)
      have B3a := hid (B1.out.alloc B1.out.size (.cells #[] 39))
      have HSRC : Hid (∀ j u, (cellsP ys)[j]? = some u → (w1.alloc (.cells #[] 39)).cell? ((⟨bl, o, none⟩ : Addr).add j) = some u) := hid fun j u hu => by
        have e : ((⟨bl, o, none⟩ : Addr).add j) = ⟨bl, o + j, none⟩ := by simp [Addr.add]
        rw [e, B3a.out.cell (p := ⟨bl, o + j, none⟩) hb]
        exact HCE.out j u hu
      have HONE := hid (cellsP_one HRY.out)
      have HLN : Hid ((cellsP ys).length = la.length * 8) := hid (by rw [cellsP_len, HYL.out])
      clear hr1
      go_wp2_with (at_builtin; refine wpList_append_own _ rfl _ _ 23 rfl w1.heap.size 39 ip (.agg #[.int .i64 0, .string ⟨#[]⟩, .string ⟨#[]⟩, .string ⟨#[]⟩, .int .i64 0, .int .i64 0, .slice none 0 0, .slice none 0 0]) 8 120 Tryz.underlying23 hip hz0 hz1 hz2 rfl (by decide) _ _ _ rfl HOW.out ⟨bl, o, none⟩ la.length cap (cellsP ys) rfl HLN.out HSRC.out HONE.out ?c3 ?c4 ?c5 ?_)
      case c3 => unfold maxLen; omega
      case c4 => omega
      case c5 => simp
      intro v4 w4 hown hgrow _
      have hO4 : OwnP w1.heap.size v4 ys w4 := by
        unfold OwnP
        rw [HYL.out]
        simpa using hown
      have hyne : ys ≠ [] := by rintro rfl; have := HYL.out; simp at this; omega
      have X4 := hid ((B1.out.trans (((below_new (w := w1) (.cells #[] 39))).mono B1.out.size)).grown hgrow (by have := B1.out.size; simp; omega) (fun k' hk' => Nat.le_trans B1.out.size ((World.ownsRow.lt HOW.out k' hk').1)))
      have RW4 := hid (show RdP w4 w4.heap.size v4 la by
        have h := hO4.rdp hyne (fun y' hy' => ⟨((HRY.out y' hy').1.low X4.out).mono X4.out.size, ((HRY.out y' hy').2.low X4.out).mono X4.out.size⟩)
        rw [HYS.out] at h
        exact h)
      have Y4 := hid (Below.refl w4.heap.size w4)
      obtain ⟨A4, c4, rfl⟩ : ∃ A c, v4 = .slice A la.length c := by obtain ⟨A, c, h, -⟩ := RW4.out; exact ⟨A, c, h⟩
      clear hown hgrow hO4 hyne HOW HSRC HONE HLN B3a
      go_wp2_with fail
      refine (HE1.out _ X4.out).mono ?_
      rintro e w5 ⟨rfl, h0⟩
      have X5 := hid (X4.out.trans (h0.mono X4.out.size))
      have Y5 := hid (Y4.out.trans (h0.mono Y4.out.size))
      clear h0
      go_wp2_with fail
      refine (HE2.out _ X5.out).mono ?_
      rintro e w6 ⟨rfl, h0⟩
      have X6 := hid (X5.out.trans (h0.mono X5.out.size))
      have Y6 := hid (Y5.out.trans (h0.mono Y5.out.size))
      clear h0
      go_wp2_with fail
      refine (HK1.out _ X6.out).mono ?_
      rintro e w7 ⟨k1, rfl, o1, h0⟩
      have X7 := hid (X6.out.trans (h0.mono X6.out.size))
      have Y7 := hid (Y6.out.trans (h0.mono Y6.out.size))
      have O1 := hid o1
      obtain ⟨A1, c1, hv1, -⟩ := o1.rd
      subst hv1
      clear h0 o1
      go_wp2_with fail
      refine (HK2.out _ X7.out).mono ?_
      rintro e w8 ⟨k2, rfl, o2, h0⟩
      have X8 := hid (X7.out.trans (h0.mono X7.out.size))
      have Y8 := hid (Y7.out.trans (h0.mono Y7.out.size))
      have O1b := hid (O1.out.below h0)
      have O2 := hid o2
      obtain ⟨A2, c2, hv2, -⟩ := o2.rd
      subst hv2
      have HIS := hid (ints_same kl _ _ w8 O1b.out.rd O2.out.rd hkll)
      clear h0 o2
      go_wp2_with fail
      refine (HIS.out).mono ?_
      rintro e w9 ⟨rfl, h0⟩
      have X9 := hid (X8.out.trans (h0.mono X8.out.size))
      have Y9 := hid (Y8.out.trans (h0.mono Y8.out.size))
      clear h0
      go_wp2_with fail
      refine (HP1.out _ X9.out).mono ?_
      rintro e w10 ⟨rfl, h0⟩
      have X10 := hid (X9.out.trans (h0.mono X9.out.size))
      have Y10 := hid (Y9.out.trans (h0.mono Y9.out.size))
      clear h0
      go_wp2_with fail
      refine (HP2.out _ X10.out).mono ?_
      rintro e w11 ⟨rfl, h0⟩
      have X11 := hid (X10.out.trans (h0.mono X10.out.size))
      have Y11 := hid (Y10.out.trans (h0.mono Y10.out.size))
      clear h0
      go_wp2_with fail
      refine (AL.out _ X11.out).mono ?_
      rintro e w12 ⟨rfl, h0⟩
      have X12 := hid (X11.out.trans (h0.mono X11.out.size))
      have Y12 := hid (Y11.out.trans (h0.mono Y11.out.size))
      clear h0
      go_wp2_with fail
      refine (HF1.out _ X12.out).mono ?_
      rintro e w13 ⟨v13, rfl, o13, h0⟩
      have X13 := hid (X12.out.trans (h0.mono X12.out.size))
      have Y13 := hid (Y12.out.trans (h0.mono Y12.out.size))
      have O13 := hid o13
      obtain ⟨A13, c13, rfl⟩ := o13.val
      clear h0 o13
      go_wp2_with fail
      refine (HF2.out _ X13.out).mono ?_
      rintro e w14 ⟨v14, rfl, o14, h0⟩
      have X14 := hid (X13.out.trans (h0.mono X13.out.size))
      have Y14 := hid (Y13.out.trans (h0.mono Y13.out.size))
      have HST := hid (rstrings_any LS LS hLS _ _ w14 (O13.out.below h0).rd o14.rd)
      rw [decide_eq_true (show LS = LS from rfl)] at HST
      obtain ⟨A14, c14, rfl⟩ := o14.val
      clear h0 o14
      go_wp2_with fail
      refine (HST.out).mono ?_
      rintro e w15 ⟨rfl, h0⟩
      have X15 := hid (X14.out.trans (h0.mono X14.out.size))
      have Y15 := hid (Y14.out.trans (h0.mono Y14.out.size))
      clear h0
      have HON := hid (refaone_any la la _ _ w15 (HA.out.below X15.out) (RW4.out.below Y15.out))
      rw [decide_eq_true (show la = la from rfl)] at HON
      go_wp2_with fail
      refine (HON.out).mono ?_
      rintro e w16 ⟨rfl, h0⟩
      have X16 := hid (X15.out.trans (h0.mono X15.out.size))
      have Y16 := hid (Y15.out.trans (h0.mono Y15.out.size))
      clear h0
      go_wp2
      go_ret
      exact ⟨ret_bool (by simp), X16.out⟩

set_option maxRecDepth 100000 in
theorem astTells_lifted (os : Os) (started : os.Started) (H : Type) (enc : TypeId × Value → H) :
    ReturnsInHanded {} Tryz.checked os 4 .any (fun w args => (Rows.astTellsSpec.pre enc Tryz.prog Tryz.f4 [] false w args ∧ laidMetH Tryz.prog laidAll w) ∧ sizedMet enc Tryz.prog Tryz.f4 (OpenSpec.ofChange Rows.astTellsSpec) false w args)
      (Rows.astTellsSpec.post enc Tryz.prog Tryz.f4 false true false false) := by
  refine wrap_shaped (C := Tryz.checked) (X := fun w _ => laidMetH Tryz.prog laidAll w) (fun _ _ _ hh h => h.of_heap hh) own started (by kernel_rfl) Tryz.func4
    (ChangeSpec.witness_shaped (enc := enc) (C := Tryz.checked) (os := os) (X := fun w _ => laidMetH Tryz.prog laidAll w) false (World.doorLaid Tryz.prog 400 os) #[.slice none 0 0, .int .i64 0] 8 rfl (World.shaped_of_RefB (by kernel_rfl) (by kernel_rfl)) (by kernel_rfl) (by kernel_rfl) (by kernel_rfl) (door_met os _)) ?_
  intro W base args ds gs before hval0 hW hSh hL
  obtain ⟨hT, hK⟩ := tabs_of_laid hL
  have hM := mcell_of_shaped hSh (by have := hT.size; omega)
  have hlts := hW.lt
  have hval : ∀ (j : Nat) t v, Tryz.f4.params[j]? = some t → args[j]? = some v → Value.okWide Tryz.prog W .any base t v := hval0
  have hW' := hW
  obtain ⟨p, q, hA0, hV, rfl, hfz, hnd⟩ := hW
  have hA : DataW.TrodAll enc Tryz.prog W 0 (fun _ => true) true Tryz.f4.params.toList args.toList ds p := hA0
  rw [Tryz.params4] at hA hval
  obtain ⟨v0, vs0, d0, ds0, p0, q0, hargs, rfl, rfl, h0, r0⟩ := trodAll_cons hA
  obtain ⟨v1, vs1, d1, ds1, p1, q1, hargs1, rfl, rfl, h1, r1⟩ := trodAll_cons r0
  obtain ⟨hn, rfl, rfl⟩ := trodAll_nil r1
  obtain rfl : args = #[v0, v1] := by cases args; simp_all
  obtain ⟨rfl, rfl⟩ := trodVars_none hV
  obtain ⟨sa0, sl0, sc0, hsv0⟩ := okWide_slice Tryz.underlying23 (hval 0 23 v0 rfl rfl)
  obtain ⟨a1, rfl, rfl, rfl, w1⟩ := open_int Tryz.underlying3 (hval 1 3 v1 rfl rfl) h1
  obtain ⟨fuel0, hf0⟩ := h0
  obtain ⟨u0, l0, hu0, hR0, hn0⟩ := rdp_of_trod hf0
  obtain rfl : v0 = u0 := by
    rw [hsv0] at hu0
    rw [hsv0]
    simpa [Value.cells] using hu0
  clear hA0 hval0
  simp only [List.append_nil] at hW' hlts
  refine (astTells_true v0 l0 hR0 hn0 a1 w1 hT hK hM).mono fun e W' ⟨he, hB⟩ => ?_
  subst he
  refine ⟨_, rfl, _, _, _, [], (p0 ++ ([] ++ [])), [], by simpa using hW', ?_, ?_, ?_, hB.frame _, fun h => by cases h⟩
  · exact trodAll_cons_mk (shut_bool Tryz.underlying4 _) trodAll_mk0
  · exact (trodAll_cons_mk (Below.trod (by kernel_rfl) (by kernel_rfl) (of_decide_eq_true (by kernel_rfl)) ⟨fuel0, hf0⟩ hB (fun x hx => hlts x (by simp [hx]))) (trodAll_cons_mk (shut_int Tryz.underlying3 w1) trodAll_mk0))
  · rfl

/-- AstTells: the row. -/
theorem astTells_holds : Rows.AstTellsSaid :=
  OpenClaim.holds_of_wide 4 Tryz.f4 rfl rfl rfl rfl rfl rfl rfl ⟨rfl, rfl, rfl, rfl, rfl⟩ rfl rfl rfl rfl rfl (by kernel_rfl) Tryz.func4 (by kernel_rfl)
    (of_decide_eq_true (by kernel_rfl)) (by unfold Func.isWrapper; first | (rw [if_pos (by decide +kernel)]; kernel_rfl) | (rw [if_neg (by decide +kernel)]; exact ⟨rfl, rfl⟩))
    (fun os started H enc _ => astTells_lifted os started H enc)

/-- AstTells: the given statement, the card: the four tables are tied to the program's text. -/
theorem astTells_card : Rows.AstTellsCardSaid :=
  Claim7.holds_tied_plain_at .later [] [.data, .data, .data, .data] true Rows.astTellsCard.stood.harness false
    astTells_holds (fun _ h => by cases h) (by kernel_rfl) (fun _ h => by cases h) astTells_row_tie rfl ⟨rfl, rfl⟩ (by kernel_rfl) rfl
    (fun f fn hf hfn => by
      obtain rfl : f = 4 := Option.some.inj ((show Tryz.prog.funcNamed "leaven/leavenlaw05.AstTells" = some 4 by kernel_rfl).symm.trans hf) |>.symm
      obtain rfl : fn = Tryz.f4 := (Option.some.inj (Tryz.func4.symm.trans hfn)).symm
      exact ⟨by kernel_rfl, fun j t ht => by
        rw [Tryz.params4] at ht
        have hm : t ∈ [23, 3] := by simpa using Array.mem_of_getElem? ht
        have hall : ([23, 3].all fun u => !Tryz.prog.wantsStandIn u) = true := by kernel_rfl
        exact (show Tryz.prog.wantsStandIn t = false by simpa using List.all_eq_true.1 hall t hm)⟩)
    (by kernel_rfl)

end Go.Proofs.YthbieinbpfjgkaaGreatDoor.astTells
