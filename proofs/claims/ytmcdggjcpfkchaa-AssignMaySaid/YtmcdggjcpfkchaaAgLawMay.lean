/-
  AssignMay is true for any choices. No conditions.
-/
import Derived.Test.YtmcdggjcpfkchaaRows
import Derived.Test.YtmcdggjcpfkchaaAgF
import Derived.Test.YtmcdggjcpfkchaaAgLq
namespace Go.Proofs.Ytmcdggjcpfkchaa.assignMay
open Go.ChangeShapes Go.WideShapes Go.ChangeAt Go.RowKit

theorem own : ownKnob Try.prog.godebug = none := by kernel_rfl

abbrev Post (w : World) (e : Ending) (w' : World) : Prop := e = .returned (.bool true) ∧ Below w.heap.size w w'

set_option maxHeartbeats 8000000 in
set_option maxRecDepth 1000000 in
theorem may_true {W : World} (v : Value) (cs : List L.Ch) (hx : RdC W W.heap.size v cs) (_hn : ∀ c ∈ cs, c.site ≤ 9223372036854775807 ∧ ∀ y ∈ c.t, y.n ≤ 9223372036854775807 ∧ y.name.size ≤ 9223372036854775807) :
    Calls Try.prog 3 #[v] W (Post W) := by

  have HX := hid hx
  have HAL := hid (alive_any W)
  obtain ⟨A, cap, rfl, h1, h2, -⟩ := hx
  unfold maxLen at h2
  go_enter Try.func3, Try.ntmps3
  by_cases hl : 60 < cs.length
  · have hlz : (60 : Int) < (cs.length : Int) := by omega
    go_wp2_with fail
    refine (HAL.out).mono ?_
    rintro e w2 ⟨rfl, h0⟩
    have X2 := hid h0
    clear h0
    go_wp2_with fail
    go_ret
    exact ⟨rfl, X2.out⟩
  · have hlz : ¬ (60 : Int) < (cs.length : Int) := by omega
    go_wp2_with fail
    go_loop [3] (fun vi => ∃ k : Nat, vi = .int .i64 k ∧ k ≤ cs.length ∧ Hid (∀ (j : Nat) (h : j < cs.length), j < k → ∀ x ∈ cs[j].t, x.name.size ≤ 100)) (fun vi => cs.length - (intOf vi).toNat)
    case atStart => exact ⟨0, rfl, by omega, hid fun j _ h => by omega⟩
    case round =>
      obtain ⟨k, rfl, hk, hE⟩ := hrel
      by_cases hlt : k < cs.length
      · have hkz : (k : Int) < (cs.length : Int) := by omega
        obtain ⟨b, o, c', At, ct, hv, hbb, x0, x1, hr⟩ := HX.out.at_ (Below.refl _ _) hlt
        simp only [Value.slice.injEq, true_and] at hv
        obtain ⟨rfl, rfl⟩ := hv
        have hnext : (∀ x ∈ cs[k].t, x.name.size ≤ 100) → ∀ (j : Nat) (h : j < cs.length), j < k + 1 → ∀ x ∈ cs[j].t, x.name.size ≤ 100 := fun h j hj hjk => by
          by_cases e : j = k
          · subst e; exact h
          · exact hE.out j hj (by omega)
        obtain ⟨s, hs⟩ : ∃ s, cs[k].site = s := ⟨_, rfl⟩
        obtain ⟨t, ht⟩ : ∃ t, cs[k].t = t := ⟨_, rfl⟩
        rw [hs] at x0
        rw [ht] at x1 hr hnext
        have HNX := hid hnext
        have HR := hid hr
        clear hs ht hr hE hnext
        by_cases h60 : 60 < t.length
        · have h60z : (60 : Int) < (t.length : Int) := by omega
          go_wp2_with fail
          refine (HAL.out).mono ?_
          rintro e w2 ⟨rfl, h0⟩
          have X2 := hid h0
          clear h0
          go_wp2_with fail
          go_ret
          exact ⟨rfl, X2.out⟩
        · have h60z : ¬ (60 : Int) < (t.length : Int) := by omega
          go_wp2_with fail
          go_loop [4] (fun vj => ∃ j : Nat, vj = .int .i64 j ∧ j ≤ t.length ∧ Hid (∀ (i : Nat) (h : i < t.length), i < j → t[i].name.size ≤ 100)) (fun vj => t.length - (intOf vj).toNat)
          case atStart => exact ⟨0, rfl, by omega, hid fun j _ h => by omega⟩
          case round =>
            obtain ⟨j, rfl, hj, hJ⟩ := hrel
            by_cases hjl : j < t.length
            · have hjz : (j : Int) < (t.length : Int) := by omega
              obtain ⟨A3, c3, hv3, -, -, -, hcx⟩ := HR.out
              simp only [Value.slice.injEq, true_and] at hv3
              obtain ⟨rfl, rfl⟩ := hv3
              obtain ⟨b2, o2, rfl, hb2, hcx⟩ := hcx (by rintro rfl; simp at hjl)
              obtain ⟨-, y1, -⟩ := hcx j hjl
              have hnx : t[j].name.size ≤ 100 → ∀ (i : Nat) (h : i < t.length), i < j + 1 → t[i].name.size ≤ 100 := fun h i hi hij => by
                by_cases e : i = j
                · subst e; exact h
                · exact hJ.out i hi (by omega)
              obtain ⟨nm, hnm⟩ : ∃ nm, t[j].name = nm := ⟨_, rfl⟩
              rw [hnm] at y1 hnx
              have HN2 := hid hnx
              clear hcx hnm hnx hJ
              by_cases h100 : 100 < nm.size
              · have h100z : (100 : Int) < (nm.size : Int) := by omega
                go_wp2_with fail
                refine (HAL.out).mono ?_
                rintro e w2 ⟨rfl, h0⟩
                have X2 := hid h0
                clear h0
                go_wp2_with fail
                go_ret
                exact ⟨rfl, X2.out⟩
              · have h100z : ¬ (100 : Int) < (nm.size : Int) := by omega
                have HJ2 := hid (HN2.out (by omega))
                clear HN2
                go_wp2_with fail
                go_round
                case rel => exact ⟨j + 1, by go_num, by omega, HJ2⟩
                case measure => simp [intOf]; omega
            · have hjz : ¬ (j : Int) < (t.length : Int) := by omega
              have HE2 := hid (HNX.out (fun x hx => by
                obtain ⟨i, hi, rfl⟩ := List.mem_iff_getElem.1 hx
                exact hJ.out i hi (by omega)))
              clear hJ HNX
              go_wp2_with fail
              go_round
              case rel => exact ⟨k + 1, by go_num, by omega, HE2⟩
              case measure => simp [intOf]; omega
      · have hkz : ¬ (k : Int) < (cs.length : Int) := by omega
        have HNM := hid (show NmC cs from fun c hc x hx => by
          obtain ⟨i, hi, rfl⟩ := List.mem_iff_getElem.1 hc
          have := hE.out i hi (by omega) x hx
          omega)
        clear hE
        go_wp2_with fail
        refine (HAL.out).mono ?_
        rintro e w2 ⟨rfl, h0⟩
        have X2 := hid h0
        have R2 := hid ((HX.out.below h0).mono h0.size)
        have H1 := hid (asg_any cs HNM.out _ w2 R2.out)
        clear h0 HAL
        go_wp2_with fail
        refine (H1.out).mono ?_
        rintro e w3 ⟨rfl, h0⟩
        have X3 := hid (X2.out.trans (h0.mono X2.out.size))
        have H2 := hid (refAsg_any cs HNM.out _ w3 ((R2.out.below h0).mono h0.size))
        clear h0 H1
        go_wp2_with fail
        refine (H2.out).mono ?_
        rintro e w4 ⟨rfl, h0⟩
        have X4 := hid (X3.out.trans (h0.mono X3.out.size))
        clear h0 H2
        have hbb : ((L.asgF 0 cs) == (L.asgF 0 cs)) = true := by simp
        go_wp2_with fail
        go_ret
        exact ⟨rfl, X4.out⟩

set_option maxRecDepth 100000 in
theorem assignMay_lifted (os : Os) (started : os.Started) (H : Type) (enc : TypeId × Value → H) :
    ReturnsInHanded {} Try.checked os 3 .any (Rows.assignMaySpec.pre6 enc Try.prog Try.f3 Rows.assignMayRow.domain false) (Rows.assignMaySpec.post enc Try.prog Try.f3 false true false false) := by
  refine returnsInHanded_of_change (C := Try.checked) own started (by kernel_rfl) Try.func3
    (ChangeSpec.witness6 (enc := enc) (C := Try.checked) false ⟨#[], #[.slice none 0 0], []⟩ 8 (by kernel_rfl) (by kernel_rfl) (by kernel_rfl) (by kernel_rfl)) ?_
  intro W base args ds gs before hval0 hW hcnd _
  have hlts := hW.lt
  have hval : ∀ (j : Nat) t v, Try.f3.params[j]? = some t → args[j]? = some v → Value.okWide Try.prog W .any base t v := hval0
  have hW' := hW
  obtain ⟨p, q, hA0, hV, rfl, hfz, hnd⟩ := hW
  have hA : DataW.TrodAll enc Try.prog W 0 (fun _ => true) true Try.f3.params.toList args.toList ds p := hA0
  rw [Try.params3] at hA hval
  obtain ⟨v0, vs0, d0, ds0, p0, q0, hargs0, rfl, rfl, h0, r0⟩ := trodAll_cons hA
  obtain ⟨hn, rfl, rfl⟩ := trodAll_nil r0
  obtain rfl : args = #[v0] := by cases args; simp_all
  obtain ⟨rfl, rfl⟩ := trodVars_none hV
  obtain ⟨sa0, sl0, sc0, hsv0⟩ := okWide_slice Try.underlying22 (hval 0 22 v0 rfl rfl)
  obtain ⟨fuel0, hf0⟩ := h0
  obtain ⟨u0, l0, hu0, hR0, hn0⟩ := rdc_of_trod hf0
  obtain rfl : v0 = u0 := by
    rw [hsv0] at hu0
    rw [hsv0]
    simpa [Value.cells] using hu0
  clear hA0 hval0
  simp only [List.append_nil] at hW' hlts
  refine (may_true v0 l0 hR0 hn0 (W := W)).mono fun e W' ⟨he, hB⟩ => ?_
  subst he
  refine ⟨_, rfl, _, _, _, [], (p0 ++ []), [], by simpa using hW', ?_, ?_, ?_, hB.frame _, fun h => by cases h⟩
  · exact trodAll_cons_mk (shut_bool Try.underlying4 _) trodAll_mk0
  · exact (trodAll_cons_mk (Below.trod (by kernel_rfl) (by kernel_rfl) (of_decide_eq_true (by kernel_rfl)) ⟨fuel0, hf0⟩ hB (fun x hx => hlts x (by simp [hx]))) trodAll_mk0)
  · rfl

/-- AssignMay: the given statement. -/
theorem assignMay_holds : Rows.AssignMaySaid :=
  OpenClaim.holds_of_wide 3 Try.f3 rfl rfl rfl rfl rfl rfl rfl ⟨rfl, rfl, rfl, rfl, rfl⟩ rfl rfl rfl rfl rfl (by kernel_rfl) Try.func3 (by kernel_rfl)
    (of_decide_eq_true (by kernel_rfl)) (by unfold Func.isWrapper; first | (rw [if_pos (by decide +kernel)]; kernel_rfl) | (rw [if_neg (by decide +kernel)]; exact ⟨rfl, rfl⟩))
    (fun os started H enc _ => assignMay_lifted os started H enc)

end Go.Proofs.Ytmcdggjcpfkchaa.assignMay
