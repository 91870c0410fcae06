/-
  AssignLabels is true for any type, any choices. No conditions.
-/
import Derived.Test.YtmcdggjcpfkchaaRows
import Derived.Test.YtmcdggjcpfkchaaAgF
import Derived.Test.YtmcdggjcpfkchaaAgLq
import Derived.Test.YtmcdggjcpfkchaaAgM
import Derived.BigQuiet
import Derived.IntWalk
namespace Go.Proofs.Ytmcdggjcpfkchaa.assignLabels
open Go.ChangeShapes Go.WideShapes Go.ChangeAt Go.RowKit

theorem own : ownKnob Try.prog.godebug = none := by kernel_rfl

abbrev Post (w : World) (e : Ending) (w' : World) : Prop := e = .returned (.bool true) ∧ Below w.heap.size w w'

set_option maxHeartbeats 8000000 in
set_option maxRecDepth 1000000 in
theorem labels_true {W : World} (v0 : Value) (t : List L.Nd) (hx : Rd W W.heap.size v0 t) (hn0 : ∀ y ∈ t, y.n ≤ 9223372036854775807 ∧ y.name.size ≤ 9223372036854775807) (v1 : Value) (cs : List L.Ch) (hc : RdC W W.heap.size v1 cs) (hn1 : ∀ c ∈ cs, c.site ≤ 9223372036854775807 ∧ ∀ y ∈ c.t, y.n ≤ 9223372036854775807 ∧ y.name.size ≤ 9223372036854775807) :
    Calls Try.prog 6 #[v0, v1] W (Post W) := by
  have HX := hid hx
  have HC := hid hc
  have HN0 := hid hn0
  have HN1 := hid hn1
  have HAL := hid (fun w => alive_any w)
  have HR := hid (refRight_any t (fun y hy => (hn0 y hy).2) v0 W hx)
  obtain ⟨A, cap, rfl, h1, h2, -, hcx⟩ := hx
  unfold maxLen at h2
  have HCX := hid hcx
  obtain ⟨A2, cap2, rfl, g1, g2, -⟩ := hc
  unfold maxLen at g2
  clear hcx hn0 hn1
  go_enter Try.func6, Try.ntmps6
  by_cases hl : 60 < t.length
  · have hlz : (60 : Int) < (t.length : Int) := by omega
    go_wp2_with fail
    refine (HAL.out _).mono ?_
    rintro e w2 ⟨rfl, h0⟩
    have X2 := hid h0
    clear h0
    go_wp2_with fail
    go_ret
    exact ⟨rfl, X2.out⟩
  · have hlz : ¬ (60 : Int) < (t.length : Int) := by omega
    go_wp2_with fail
    refine (HR.out).mono ?_
    rintro e w1 ⟨rfl, h0⟩
    have X1 := hid h0
    have HF : Hid (Calls Try.prog 11 #[.slice A2 cs.length cap2, .int .i64 20] w1 fun e w' => e = .returned (.bool (L.fewC 20 cs)) ∧ Below w1.heap.size w1 w') := hid (fewC_any cs 20 (by omega) _ w1 ((HC.out.below h0).mono h0.size))
    clear h0 HR
    obtain ⟨b1, hb1⟩ : ∃ b, L.rightL t = b := ⟨_, rfl⟩
    have V1 := hid hb1
    rw [hb1]
    clear hb1
    cases b1 with
    | false =>
      go_wp2_with fail
      refine (HAL.out _).mono ?_
      rintro e w2 ⟨rfl, h0⟩
      have X2 := hid (X1.out.trans (h0.mono X1.out.size))
      clear h0
      go_wp2_with fail
      go_ret
      exact ⟨rfl, X2.out⟩
    | true =>
      go_wp2_with fail
      refine (HF.out).mono ?_
      rintro e w2 ⟨rfl, h0⟩
      have X2 := hid (X1.out.trans (h0.mono X1.out.size))
      clear h0 HF
      obtain ⟨b2, hb2⟩ : ∃ b, L.fewC 20 cs = b := ⟨_, rfl⟩
      have V2 := hid hb2
      rw [hb2]
      clear hb2
      cases b2 with
      | false =>
        go_wp2_with fail
        refine (HAL.out _).mono ?_
        rintro e w3 ⟨rfl, h0⟩
        have X3 := hid (X2.out.trans (h0.mono X2.out.size))
        clear h0
        go_wp2_with fail
        go_ret
        exact ⟨rfl, X3.out⟩
      | true =>
        obtain ⟨hasg, hcr, hcn⟩ := few_asg V2.out (by omega) (fun c hc => (HN1.out c hc).1)
        have HCR := hid hcr
        have HNUM := hid (L.numbered_right V1.out)
        have HASG := hid hasg
        have HT := hid (type_any cs hasg t (by omega) (fun x hx => by
          have h1 := L.n_pos (HNUM.out x hx)
          exact ⟨by omega, (HN0.out x hx).1⟩) _ _ w2 ((HX.out.below X2.out).mono X2.out.size) ((HC.out.below X2.out).mono X2.out.size))
        clear hcr hasg
        go_wp2_with fail
        refine (HT.out).mono ?_
        rintro e w3 ⟨v', rfl, hO, h0⟩
        have X3 := hid (X2.out.trans (h0.mono X2.out.size))
        clear h0 HT
        have hlen := L.fillL_len HASG.out.l60 t
        have hFX : Few (L.fillL cs t) := few_of (by omega) (List.all_eq_true.2 (L.numbered_fill HCR.out HNUM.out))
        have HPART := hid (fun (k : Nat) (hk : k < t.length) => L.fill_part cs hk)
        have HTAKE := hid (fun (k : Nat) (hk : k < t.length) => L.fillL_take cs hk)
        have HALL := hid (show (L.fillL cs (t.take t.length)) = L.fillL cs t from by rw [List.take_length])
        obtain ⟨XX, hXX⟩ : ∃ XX, L.fillL cs t = XX := ⟨_, rfl⟩
        rw [hXX] at hO hlen hFX HPART HALL
        have HXR := hid hO.rd
        have HFX := hid hFX
        have hx5 : XX.length ≤ 5000 := by omega
        obtain ⟨A3, c3, rfl, -⟩ := hO.rd
        clear hO hXX hFX hlen
        go_wp2_with fail
        go_loopw [6, 7] (fun vk vi wr => ∃ (i kk : Nat), vk = .int .i64 kk ∧ vi = .int .i64 i ∧ i ≤ t.length ∧ Hid ((L.fillL cs (t.take i)).length = kk) ∧ Below w3.heap.size w3 wr) (fun _ vi _ => t.length - (intOf vi).toNat)
        case atStart => exact ⟨0, 0, rfl, rfl, by omega, hid (by simp [L.fillL]), Below.refl _ _⟩
        case round =>
          obtain ⟨i, kk, rfl, rfl, hi, hK, hbel⟩ := hrel
          obtain ⟨wo, hwo⟩ : ∃ wo : World, wo = wr := ⟨_, rfl⟩
          subst hwo
          have hsz := hbel.size
          have hbW : Below W.heap.size W wo := X3.out.trans (hbel.mono X3.out.size)
          by_cases hlt : i < t.length
          · have hiz : (i : Int) < (t.length : Int) := by omega
            have hpart := HPART.out i hlt
            have htake := HTAKE.out i hlt
            obtain ⟨y, r, hyr, hyn⟩ := L.head_fill HASG.out.ne t[i]
            have hkx : kk < XX.length := by
              have := congrArg List.length hpart
              rw [List.length_append, hyr, hK.out] at this
              simp at this
              omega
            have hXk : XX[kk] = y := by
              have h1 : XX[kk]? = some y := by rw [hpart, List.getElem?_append_right (by rw [hK.out]; exact Nat.le_refl _), hK.out, hyr]; simp
              rw [List.getElem?_eq_getElem hkx] at h1
              exact Option.some.inj h1
            have hdrop : XX.drop kk = L.fillN cs t[i] ++ L.fillL cs (t.drop (i + 1)) := by
              have := congrArg (List.drop kk) hpart
              have q1 : kk ≤ (L.fillL cs (t.take i)).length := by rw [hK.out]; exact Nat.le_refl _
              have q2 : (L.fillL cs (t.take i)).length ≤ kk := by rw [hK.out]; exact Nat.le_refl _
              rw [List.drop_append_of_le_length q1, List.drop_eq_nil_of_le q2, List.nil_append] at this
              exact this
            obtain ⟨b, o, rfl, hb, hcx⟩ := HCX.out (by rintro rfl; simp at hlt)
            have hcx := hcx i hlt
            obtain ⟨A4, c4, hv4, -, -, -, hcy⟩ := HXR.out
            simp only [Value.slice.injEq, true_and] at hv4
            obtain ⟨rfl, rfl⟩ := hv4
            obtain ⟨b4, o4, rfl, hb4, hcy⟩ := hcy (by rintro rfl; simp at hkx)
            have hcy := hcy kk hkx
            have hfend := L.flF_end cs t[i]
            have hfstep := fun (j : Nat) (hj : j < cs.length) => L.flF_step (x := t[i]) hj
            have hfzero := L.flF_zero cs t[i]
            rw [hXk, hyn] at hcy
            have hlenN := congrArg List.length htake
            rw [List.length_append, hK.out] at hlenN
            generalize t[i] = X at *
            obtain ⟨tk, nm, tn⟩ := X
            obtain ⟨yk, yn, yq⟩ := y
            simp only at hcx hcy hyn
            have HCA := hid (fun (V : World) (hV : Below W.heap.size W V) => And.intro ((hV.cell (p := ⟨b, o + i * 3, none⟩) hb).trans hcx.1) (And.intro ((hV.cell (p := ⟨b, o + i * 3 + 1, none⟩) hb).trans hcx.2.1) ((hV.cell (p := ⟨b, o + i * 3 + 2, none⟩) hb).trans hcx.2.2)))
            have HCB := hid (fun (V : World) (hV : Below w3.heap.size w3 V) => And.intro ((hV.cell (p := ⟨b4, o4 + kk * 3, none⟩) hb4).trans hcy.1) (And.intro ((hV.cell (p := ⟨b4, o4 + kk * 3 + 1, none⟩) hb4).trans hcy.2.1) ((hV.cell (p := ⟨b4, o4 + kk * 3 + 2, none⟩) hb4).trans hcy.2.2)))
            obtain ⟨x0, x1, x2⟩ := HCA.out wo hbW
            obtain ⟨y0, y1, y2⟩ := HCB.out wo hbel
            have HB := hid hbel
            have HBW := hid hbW
            have hkxz : (kk : Int) < (XX.length : Int) := by omega
            have hge : decide (XX.length ≤ kk) = false := decide_eq_false (by omega)
            have HSTEP := hid hfstep
            have HEND := hid hfend
            have HZERO := hid hfzero
            have HLEN := hid hlenN
            have HDROP := hid hdrop
            have HYR := hid hyr
            clear hcx hcy hpart htake hXk hdrop hbel hbW hK hyr hyn hfend hfstep hfzero hlenN
            go_wp2_with fail
            go_quiet (fail)
            obtain ⟨wq, hwq⟩ : ∃ wq, wo.drewN nq = wq := ⟨_, rfl⟩
            have HBq := hid (show Below w3.heap.size w3 wq from hwq ▸ HB.out.trans ((drew_b _ _ _).mono (Nat.le_refl _)))
            rw [hwq]
            clear hwq x0 x1 x2 y0 y1 y2 HB HBW
            go_wp2_with fail
            go_loopw [8, 9] (fun vf vj wi => ∃ j : Nat, vf = .bool (L.flF cs ⟨tk, nm, tn⟩ j) ∧ vj = .int .i64 j ∧ j ≤ cs.length ∧ Below w3.heap.size w3 wi) (fun _ vj _ => cs.length - (intOf vj).toNat)
            case atStart => exact ⟨0, by rw [HZERO.out], rfl, by omega, HBq.out⟩
            case round =>
              clear HBq
              obtain ⟨j, rfl, rfl, hj, hbel⟩ := hrel
              obtain ⟨wj, hwj⟩ : ∃ wj : World, wj = wr := ⟨_, rfl⟩
              subst hwj
              have hbW : Below W.heap.size W wj := X3.out.trans (hbel.mono X3.out.size)
              obtain ⟨x0, x1, x2⟩ := HCA.out wj hbW
              have HB := hid hbel
              by_cases hjl : j < cs.length
              · have hjz : (j : Int) < (cs.length : Int) := by omega
                obtain ⟨b5, o5, c5, A5, c6, hv, hb5, z0, -⟩ := HC.out.at_ hbW hjl
                simp only [Value.slice.injEq, true_and] at hv
                obtain ⟨rfl, rfl⟩ := hv
                have hst := HSTEP.out j hjl
                obtain ⟨s, hs⟩ : ∃ s, cs[j].site = s := ⟨_, rfl⟩
                rw [hs] at z0 hst
                try simp only at hst
                obtain ⟨fl, hfl⟩ : ∃ fl, L.flF cs ⟨tk, nm, tn⟩ j = fl := ⟨_, rfl⟩
                rw [hfl] at hst ⊢
                obtain ⟨f2, hf2⟩ : ∃ f2, L.flF cs ⟨tk, nm, tn⟩ (j + 1) = f2 := ⟨_, rfl⟩
                have HF2 := hid hf2
                rw [hf2] at hst
                clear hbel hbW hs hfl hf2
                cases fl with
                | true =>
                  rw [Bool.true_or] at hst
                  subst hst
                  go_wp2_with fail
                  go_quiet (fail)
                  obtain ⟨wq, hwq⟩ : ∃ wq, wj.drewN nq = wq := ⟨_, rfl⟩
                  have HBq := hid (show Below w3.heap.size w3 wq from hwq ▸ HB.out.trans ((drew_b _ _ _).mono (Nat.le_refl _)))
                  rw [hwq]
                  clear hwq x0 x1 x2 z0 HB
                  go_wp2_with fail
                  go_roundw
                  case rel => exact ⟨j + 1, by rw [HF2.out], by go_num, by omega, HBq.out⟩
                  case measure => simp [intOf]; omega
                | false =>
                  rw [Bool.false_or] at hst
                  by_cases e0 : tk = 0
                  · by_cases e1 : tn = s
                    · have hst2 : f2 = true := by rw [hst]; simp [e0, e1]
                      clear hst
                      subst hst2
                      subst e1
                      subst e0
                      go_wp2_with fail
                      go_quiet (fail)
                      obtain ⟨wq, hwq⟩ : ∃ wq, wj.drewN nq = wq := ⟨_, rfl⟩
                      have HBq := hid (show Below w3.heap.size w3 wq from hwq ▸ HB.out.trans ((drew_b _ _ _).mono (Nat.le_refl _)))
                      rw [hwq]
                      clear hwq x0 x1 x2 z0 HB
                      go_wp2_with fail
                      go_roundw
                      case rel => exact ⟨j + 1, by rw [HF2.out], by go_num, by omega, HBq.out⟩
                      case measure => simp [intOf]; omega
                    · have e1z : (tn == s) = false := by simpa using e1
                      have hst2 : f2 = false := by rw [hst]; simp [e1]
                      clear hst e1
                      subst hst2
                      subst e0
                      go_wp2_with fail
                      go_quiet (fail)
                      obtain ⟨wq, hwq⟩ : ∃ wq, wj.drewN nq = wq := ⟨_, rfl⟩
                      have HBq := hid (show Below w3.heap.size w3 wq from hwq ▸ HB.out.trans ((drew_b _ _ _).mono (Nat.le_refl _)))
                      rw [hwq]
                      clear hwq x0 x1 x2 z0 HB
                      go_wp2_with fail
                      go_roundw
                      case rel => exact ⟨j + 1, by rw [HF2.out], by go_num, by omega, HBq.out⟩
                      case measure => simp [intOf]; omega
                  · have e0z : (tk == 0) = false := by simpa using e0
                    have hst2 : f2 = false := by rw [hst]; simp [e0]
                    clear hst e0
                    subst hst2
                    go_wp2_with fail
                    go_quiet (fail)
                    obtain ⟨wq, hwq⟩ : ∃ wq, wj.drewN nq = wq := ⟨_, rfl⟩
                    have HBq := hid (show Below w3.heap.size w3 wq from hwq ▸ HB.out.trans ((drew_b _ _ _).mono (Nat.le_refl _)))
                    rw [hwq]
                    clear hwq x0 x1 x2 z0 HB
                    go_wp2_with fail
                    go_roundw
                    case rel => exact ⟨j + 1, by rw [HF2.out], by go_num, by omega, HBq.out⟩
                    case measure => simp [intOf]; omega
              · have hjz : ¬ (j : Int) < (cs.length : Int) := by omega
                have e : j = cs.length := by omega
                subst e
                obtain ⟨y0, y1, y2⟩ := HCB.out wj hbel
                rcases HEND.out with ⟨hf, c, hc, hfn⟩ | ⟨hf, hfn⟩
                · have hd := HDROP.out
                  rw [hfn] at hd
                  have heat := L.eat_set (HCR.out c hc) nm (L.fillL cs (t.drop (i + 1)))
                  try simp only at hd
                  rw [← hd] at heat
                  have HE := hid (fun (V : World) (hV : Below w3.heap.size w3 V) => refEnd_any XX HFX.out (.slice (some ⟨b4, o4, none⟩) XX.length c3) kk hkx V ((HXR.out.below hV).mono hV.size))
                  rw [heat] at HE
                  have HL2 := hid (show (L.fillL cs (t.take (i + 1))).length = kk + c.t.length from by rw [HLEN.out, hfn, L.setName_length])
                  rw [hf]
                  obtain ⟨nc, hnc⟩ : ∃ nc, c.t.length = nc := ⟨_, rfl⟩
                  rw [hnc] at HE HL2
                  clear hf hfn hd heat hc hbel hbW hnc
                  go_wp2_with fail
                  go_quiet (fail)
                  obtain ⟨wq, hwq⟩ : ∃ wq, wj.drewN nq = wq := ⟨_, rfl⟩
                  have HBq := hid (show Below w3.heap.size w3 wq from hwq ▸ HB.out.trans ((drew_b _ _ _).mono (Nat.le_refl _)))
                  rw [hwq]
                  clear hwq x0 x1 x2 y0 y1 y2 HB
                  go_wp2_with fail
                  refine (HE.out wq HBq.out).mono ?_
                  rintro e w5 ⟨rfl, h0⟩
                  have HB5 := hid (HBq.out.trans (h0.mono HBq.out.size))
                  clear h0
                  go_wp2_with fail
                  go_roundw
                  case rel => exact ⟨i + 1, kk + nc, by first | rfl | go_num, by go_num, by omega, HL2, HB5.out⟩
                  case measure => simp [intOf]; omega
                · have hN := HYR.out
                  rw [hfn] at hN
                  simp only [List.cons.injEq, L.Nd.mk.injEq] at hN
                  obtain ⟨⟨rfl, rfl, rfl⟩, -⟩ := hN
                  have HL2 := hid (show (L.fillL cs (t.take (i + 1))).length = kk + 1 from by rw [HLEN.out, hfn]; rfl)
                  rw [hf]
                  clear hf hfn hbel hbW
                  go_wp2_with fail
                  go_quiet (fail)
                  obtain ⟨wq, hwq⟩ : ∃ wq, wj.drewN nq = wq := ⟨_, rfl⟩
                  have HBq := hid (show Below w3.heap.size w3 wq from hwq ▸ HB.out.trans ((drew_b _ _ _).mono (Nat.le_refl _)))
                  rw [hwq]
                  clear hwq x0 x1 x2 y0 y1 y2 HB
                  go_wp2_with fail
                  go_roundw
                  case rel => exact ⟨i + 1, kk + 1, by go_num, by go_num, by omega, HL2, HBq.out⟩
                  case measure => simp [intOf]; omega
          · have hiz : ¬ (i : Int) < (t.length : Int) := by omega
            have e : i = t.length := by omega
            subst e
            have e2 : kk = XX.length := by rw [← hK.out, HALL.out]
            subst e2
            have HB := hid hbW
            clear hK hbel hbW
            go_wp2_with fail
            refine (HAL.out _).mono ?_
            rintro e w6 ⟨rfl, h0⟩
            have X6 := hid (HB.out.trans (h0.mono HB.out.size))
            clear h0
            have hee : ((XX.length : Int) == (XX.length : Int)) = true := by simp
            go_wp2_with fail
            go_ret
            exact ⟨rfl, X6.out⟩

set_option maxRecDepth 100000 in
theorem assignLabels_lifted (os : Os) (started : os.Started) (H : Type) (enc : TypeId × Value → H) :
    ReturnsInHanded {} Try.checked os 6 .any (Rows.assignLabelsSpec.pre6 enc Try.prog Try.f6 Rows.assignLabelsRow.domain false) (Rows.assignLabelsSpec.post enc Try.prog Try.f6 false true false false) := by
  refine returnsInHanded_of_change (C := Try.checked) own started (by kernel_rfl) Try.func6
    (ChangeSpec.witness6 (enc := enc) (C := Try.checked) false ⟨#[], #[.slice none 0 0, .slice none 0 0], []⟩ 8 (by kernel_rfl) (by kernel_rfl) (by kernel_rfl) (by kernel_rfl)) ?_
  intro W base args ds gs before hval0 hW hcnd _
  have hlts := hW.lt
  have hval : ∀ (j : Nat) t v, Try.f6.params[j]? = some t → args[j]? = some v → Value.okWide Try.prog W .any base t v := hval0
  have hW' := hW
  obtain ⟨p, q, hA0, hV, rfl, hfz, hnd⟩ := hW
  have hA : DataW.TrodAll enc Try.prog W 0 (fun _ => true) true Try.f6.params.toList args.toList ds p := hA0
  rw [Try.params6] at hA hval
  obtain ⟨v0, vs0, d0, ds0, p0, q0, hargs0, rfl, rfl, h0, r0⟩ := trodAll_cons hA
  obtain ⟨v1, vs1, d1, ds1, p1, q1, hargs1, rfl, rfl, h1, r1⟩ := trodAll_cons r0
  obtain ⟨hn, rfl, rfl⟩ := trodAll_nil r1
  obtain rfl : args = #[v0, v1] := by cases args; simp_all
  obtain ⟨rfl, rfl⟩ := trodVars_none hV
  obtain ⟨sa0, sl0, sc0, hsv0⟩ := okWide_slice Try.underlying25 (hval 0 25 v0 rfl rfl)
  obtain ⟨fuel0, hf0⟩ := h0
  obtain ⟨u0, l0, hu0, hR0, hn0⟩ := rd_of_trod hf0
  obtain rfl : v0 = u0 := by
    rw [hsv0] at hu0
    rw [hsv0]
    simpa [Value.cells] using hu0
  obtain ⟨sa1, sl1, sc1, hsv1⟩ := okWide_slice Try.underlying22 (hval 1 22 v1 rfl rfl)
  obtain ⟨fuel1, hf1⟩ := h1
  obtain ⟨u1, l1, hu1, hR1, hn1⟩ := rdc_of_trod hf1
  obtain rfl : v1 = u1 := by
    rw [hsv1] at hu1
    rw [hsv1]
    simpa [Value.cells] using hu1
  clear hA0 hval0
  simp only [List.append_nil] at hW' hlts
  refine (labels_true v0 l0 hR0 hn0 v1 l1 hR1 hn1 (W := W)).mono fun e W' ⟨he, hB⟩ => ?_
  subst he
  refine ⟨_, rfl, _, _, _, [], (p0 ++ (p1 ++ [])), [], by simpa using hW', ?_, ?_, ?_, hB.frame _, fun h => by cases h⟩
  · exact trodAll_cons_mk (shut_bool Try.underlying4 _) trodAll_mk0
  · exact (trodAll_cons_mk (Below.trod (by kernel_rfl) (by kernel_rfl) (of_decide_eq_true (by kernel_rfl)) ⟨fuel0, hf0⟩ hB (fun x hx => hlts x (by simp [hx]))) (trodAll_cons_mk (Below.trod (by kernel_rfl) (by kernel_rfl) (of_decide_eq_true (by kernel_rfl)) ⟨fuel1, hf1⟩ hB (fun x hx => hlts x (by simp [hx]))) trodAll_mk0))
  · rfl

/-- AssignLabels: the given statement. -/
theorem assignLabels_holds : Rows.AssignLabelsSaid :=
  OpenClaim.holds_of_wide 6 Try.f6 rfl rfl rfl rfl rfl rfl rfl ⟨rfl, rfl, rfl, rfl, rfl⟩ rfl rfl rfl rfl rfl (by kernel_rfl) Try.func6 (by kernel_rfl)
    (of_decide_eq_true (by kernel_rfl)) (by unfold Func.isWrapper; first | (rw [if_pos (by decide +kernel)]; kernel_rfl) | (rw [if_neg (by decide +kernel)]; exact ⟨rfl, rfl⟩))
    (fun os started H enc _ => assignLabels_lifted os started H enc)

end Go.Proofs.Ytmcdggjcpfkchaa.assignLabels
