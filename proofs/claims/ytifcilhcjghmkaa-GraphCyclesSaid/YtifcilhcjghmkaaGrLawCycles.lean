/-
  GraphCycles is true for any modules. No conditions.
-/
import Derived.Test.YtifcilhcjghmkaaRows
import Derived.Test.YtifcilhcjghmkaaGrZa
namespace Go.Proofs.Ytifcilhcjghmkaa.graphCycles
open Go.ChangeShapes Go.WideShapes Go.ChangeAt Go.RowKit

theorem own : ownKnob Try.prog.godebug = none := by kernel_rfl

abbrev Post (w : World) (e : Ending) (w' : World) : Prop := e = .returned (.bool true) ∧ Below w.heap.size w w'

/-- A module is as it should be: first of its name, with imports that are there and do not need it. -/
def Okc (l : List Gr.Md) (x : Nat) : Prop := ∀ (h : x < l.length), Gr.find l[x].name l 0 = x ∧ ∀ s ∈ l[x].imps, ∃ q, Gr.atN l s = some q ∧ ¬ Gr.Rch (Gr.nxL l) q x
def Okj (l : List Gr.Md) (x : Nat) (is : List ByteArray) : Prop := ∀ s ∈ is, ∃ q, Gr.atN l s = some q ∧ ¬ Gr.Rch (Gr.nxL l) q x
theorem okc_ans {l : List Gr.Md} {out : List Nat} {a e : Int} (h : Gr.OrderAns l out a e) : (∀ x, x < l.length → Okc l x) ↔ e = 0 := by
  cases h with
  | again h1 h2 h3 h4 =>
    refine ⟨fun hx => ?_, fun h => by omega⟩
    exfalso
    rcases Gr.firstP_cases (Gr.againP l) l 0 with ⟨h5, _⟩ | ⟨i, hi, h5, h6, _⟩
    · unfold Gr.againL at h1; omega
    · have := (hx i hi hi).1
      simp [Gr.againP, this] at h6
  | lost h0 h1 h2 h3 h4 =>
    refine ⟨fun hx => ?_, fun h => by omega⟩
    exfalso
    rcases Gr.firstP_cases (Gr.lostP l) l 0 with ⟨h5, _⟩ | ⟨i, hi, h5, h6, _⟩
    · unfold Gr.lostL at h1; omega
    · simp only [Gr.lostP, List.any_eq_true, decide_eq_true_eq] at h6
      obtain ⟨s, hs, hn⟩ := h6
      obtain ⟨q, hq, _⟩ := (hx i hi hi).2 s hs
      unfold Gr.atN at hq
      rw [if_neg (by omega)] at hq
      cases hq
  | cycle m h0 h1 hm h2 h3 h4 =>
    refine ⟨fun hx => ?_, fun h => by omega⟩
    exfalso
    obtain ⟨⟨hml, k, hk, hr⟩, -⟩ := hm.so m rfl
    rw [Gr.nxL_at hml, List.mem_filterMap] at hk
    obtain ⟨s, hs, hsk⟩ := hk
    obtain ⟨q, hq, hn⟩ := (hx m hml hml).2 s hs
    rw [hq] at hsk
    injection hsk with hsk
    exact hn (hsk ▸ hr)
  | order h0 h1 hg hl hc h3 h4 =>
    refine ⟨fun _ => h4, fun _ x hx h => ⟨?_, fun s hs => ?_⟩⟩
    · have h5 := Gr.firstP_neg h0 x h
      have h6 := (Gr.find_own l x h).2
      simp only [Gr.againP, decide_eq_false_iff_not, Int.not_lt] at h5
      omega
    · have h5 := Gr.lost_all h1 h s hs
      have h6 : Gr.atN l s = some (Gr.find s l 0).toNat := by unfold Gr.atN; rw [if_pos h5]
      refine ⟨_, h6, fun hr => hc x h ⟨_, ?_, hr⟩⟩
      rw [Gr.nxL_at h, List.mem_filterMap]
      exact ⟨s, hs, h6⟩
theorem okj_take {l : List Gr.Md} {x j : Nat} {is : List ByteArray} (hj : j < is.length) : Okj l x (is.take (j + 1)) ↔ Okj l x (is.take j) ∧ ∃ q, Gr.atN l is[j] = some q ∧ ¬ Gr.Rch (Gr.nxL l) q x := by
  rw [List.take_succ_eq_append_getElem hj]
  unfold Okj
  constructor
  · intro h
    exact ⟨fun s hs => h s (List.mem_append_left _ hs), h _ (List.mem_append_right _ (List.mem_singleton.2 rfl))⟩
  · rintro ⟨h1, h2⟩ s hs
    rcases List.mem_append.1 hs with h3 | h3
    · exact h1 s h3
    · rw [List.mem_singleton] at h3
      rw [h3]; exact h2

set_option maxHeartbeats 16000000 in
set_option maxRecDepth 1000000 in
theorem cycles_true {W : World} (v : Value) (l : List Gr.Md) (hl : RdM W W.heap.size v l) :
    Calls Try.prog 7 #[v] W (Post W) := by
  have L0 := hid hl
  have HF := hid (few_any l v W hl)
  obtain ⟨A, cap, rfl, -, -, -⟩ := hl
  go_enter Try.func7, Try.ntmps7
  go_wp2_with fail
  refine (HF.out).mono ?_
  rintro e w1 ⟨b, rfl, hb, rfl⟩
  cases b with
  | false =>
    have HAL := hid (law_alive W)
    clear hb HF
    go_wp2_with fail
    refine (HAL.out).mono ?_
    rintro e w2 ⟨rfl, h0⟩
    have X2 := hid h0
    clear h0
    go_wp2_with fail
    go_ret
    exact ⟨rfl, X2.out⟩
  | true =>
    have HQ := hid (hb.1 rfl)
    have hn := HQ.out.n
    clear hb HF
    go_wp2_with fail
    go_loopw [3, 4] (fun vf vi wr => ∃ (k : Nat) (fi : Bool), vf = .bool fi ∧ vi = .int .i64 k ∧ k ≤ l.length ∧ Hid (fi = true ↔ ∀ x, x < k → Okc l x) ∧ Below W.heap.size W wr) (fun _ vi _ => l.length - (intOf vi).toNat)
    case atStart => exact ⟨0, true, rfl, rfl, by omega, hid (by simp), Below.refl _ _⟩
    case round =>
      obtain ⟨k, fi, rfl, rfl, hk, hE, hbel⟩ := hrel
      obtain ⟨wo, hwo⟩ : ∃ wo : World, wo = wr := ⟨_, rfl⟩
      subst hwo
      by_cases hlt : k < l.length
      · have hkz : (k : Int) < (l.length : Int) := by omega
        obtain ⟨b, o, c', Ai, ci, Ad, nd, cd, As, nn, cs, hv, hbb, x0, x1, x2, x3, hS⟩ := L0.out.at_ hbel hlt
        simp only [Value.slice.injEq, true_and] at hv
        obtain ⟨rfl, rfl⟩ := hv
        have hbw := hbel.size
        have X1 := hid (fun (V : World) (hV : Below wo.heap.size wo V) => (hV.cell (p := ⟨b, o + k * 4 + 1, none⟩) (Nat.lt_of_lt_of_le hbb hbw)).trans x1)
        have LO := (L0.out.below hbel).mono hbw
        have HOK := hid (show Okc l k ↔ (Gr.find l[k].name l 0 = k ∧ Okj l k l[k].imps) from ⟨fun h => h hlt, fun h _ => h⟩)
        have hil := HQ.out.imps l[k] (List.getElem_mem hlt)
        obtain ⟨t, ht⟩ : ∃ t, t = l[k].name := ⟨_, rfl⟩
        obtain ⟨is, hni⟩ : ∃ is, l[k].imps = is := ⟨_, rfl⟩
        rw [← ht] at x0 HOK
        rw [hni] at x1 hS hil HOK X1
        have HS := hid hS
        have hF := hid (place_any l t (.slice (some ⟨b, o, none⟩) l.length cap) wo LO)
        have HB := hid hbel
        obtain ⟨q, hqe⟩ : ∃ q, Gr.find t l 0 = q := ⟨_, rfl⟩
        rw [hqe] at hF HOK
        obtain ⟨f2, hf2⟩ : ∃ f2, f2 = (fi && decide (q = (k : Int))) := ⟨_, rfl⟩
        have HF2 := hid (show f2 = true ↔ ((∀ x, x < k → Okc l x) ∧ q = (k : Int) ∧ Okj l k (is.take 0)) from by
          rw [hf2, Bool.and_eq_true, hE.out, decide_eq_true_eq, List.take_zero]
          exact and_congr_right fun _ => ⟨fun h => ⟨h, fun s hs => by cases hs⟩, fun h => h.1⟩)
        clear hE hbel LO ht hni hS hqe x2 x3
        by_cases hfi : fi = false
        case' pos =>
          subst hfi
          rw [Bool.false_and] at hf2
          go_wp2_with fail
        case' neg =>
          have hfi2 : fi = true := by simpa using hfi
          subst hfi2
          rw [Bool.true_and] at hf2
          have hqk : (q == (k : Int)) = f2 := by rw [hf2]; simp [BEq.beq]
          clear hfi hf2
          go_wp2_with fail
          refine (hF.out).mono ?_
          rintro e w2 ⟨rfl, rfl⟩
          go_wp2_with fail
          clear hqk
        all_goals
          go_loopw [3, 5] (fun vf vj wi => ∃ (j : Nat) (f3 : Bool), vf = .bool f3 ∧ vj = .int .i64 j ∧ j ≤ is.length ∧ Hid (f3 = true ↔ ((∀ x, x < k → Okc l x) ∧ q = (k : Int) ∧ Okj l k (is.take j))) ∧ Below W.heap.size W wi ∧ Below wo.heap.size wo wi) (fun _ vj _ => is.length - (intOf vj).toNat)
          case atStart => exact ⟨0, f2, by first | rfl | rw [hf2], rfl, by omega, HF2, HB.out, Below.refl _ _⟩
          case round =>
            clear HF2 HB x0 x1
            obtain ⟨j, f3, rfl, rfl, hj, hE, hbel, hbo⟩ := hrel
            obtain ⟨wj, hwj⟩ : ∃ wj : World, wj = wr := ⟨_, rfl⟩
            subst hwj
            have x1 := X1.out _ hbo
            by_cases hjl : j < is.length
            · have hjz : (j : Int) < (is.length : Int) := by omega
              obtain ⟨b2, o2, c', hv, hb2, y0⟩ := HS.out.at_ hbel hjl
              simp only [Value.slice.injEq, true_and] at hv
              obtain ⟨rfl, rfl⟩ := hv
              have htk := okj_take (l := l) (x := k) hjl
              obtain ⟨s, hs⟩ : ∃ s, s = is[j] := ⟨_, rfl⟩
              rw [← hs] at y0 htk
              have LJ := hid ((L0.out.below hbel).mono hbel.size)
              have hF2 := hid (place_any l s (.slice (some ⟨b, o, none⟩) l.length cap) wj LJ.out)
              have hfl := Gr.find_lt s l
              have HB := hid (And.intro hbel hbo)
              clear hs hbel hbo
              obtain ⟨r, hre⟩ : ∃ r, Gr.find s l 0 = r := ⟨_, rfl⟩
              rw [hre] at hF2 hfl
              by_cases hf3 : f3 = false
              · subst hf3
                have HE := hid (show false = true ↔ ((∀ x, x < k → Okc l x) ∧ q = (k : Int) ∧ Okj l k (is.take (j + 1))) from ⟨fun h => (by cases h), fun h => hE.out.2 ⟨h.1, h.2.1, (htk.1 h.2.2).1⟩⟩)
                clear htk hE hre
                go_wp2_with fail
                refine (hF2.out).mono ?_
                rintro e w2 ⟨rfl, rfl⟩
                go_wp2_with fail
                go_roundw
                case rel => exact ⟨j + 1, false, rfl, by go_num, by omega, HE, HB.out.1, HB.out.2⟩
                case measure => simp [intOf]; omega
              · have hf4 : f3 = true := by simpa using hf3
                subst hf4
                have H1 := hid (hE.out.1 rfl)
                clear hf3
                by_cases gf : 0 ≤ r
                · obtain ⟨z, rfl⟩ : ∃ z : Nat, r = z := ⟨r.toNat, by omega⟩
                  have hzl : z < l.length := by omega
                  have hso : Gr.atN l s = some z := by unfold Gr.atN; rw [hre, if_pos (by omega), Int.toNat_natCast]
                  rw [hso] at htk
                  have HN := hid (needs_any l HQ.out _ (z : Int) (by omega) (by omega) wj LJ.out)
                  clear hre hso
                  go_wp2_with fail
                  refine (hF2.out).mono ?_
                  rintro e w2 ⟨rfl, rfl⟩
                  go_wp2_with fail
                  refine (HN.out).mono ?_
                  rintro e w4 ⟨v4, ms, rfl, hr, ha, h0, -⟩
                  have hms : ∀ x, x ∈ ms ↔ Gr.Rch (Gr.nxL l) z x := by
                    cases ha with
                    | out g => omega
                    | of q2 g1 g2 g3 g4 =>
                      have e : q2 = z := by omega
                      exact e ▸ g4
                  have hml : ms.length ≤ l.length := by
                    cases ha with
                    | out g => omega
                    | of q2 g1 g2 g3 g4 => exact Gr.nodup_le _ ms (g3.imp fun h => Nat.ne_of_lt h) (fun x hx => ((g4 x).1 hx).lt (Gr.nxL_lt l) g2)
                  have HI := in_any (ms.map fun k : Nat => (k : Int)) (by simp; omega) (k : Int) _ w4 hr.rdi
                  obtain ⟨b1, hb1⟩ : ∃ b1, ((ms.map fun k : Nat => (k : Int)).any fun x => decide (x = (k : Int))) = b1 := ⟨_, rfl⟩
                  have hb2 : b1 = true ↔ Gr.Rch (Gr.nxL l) z k := by
                    rw [← hb1, ← hms k]
                    simp only [List.any_eq_true, List.mem_map, decide_eq_true_eq]
                    constructor
                    · rintro ⟨x, ⟨a, ha, rfl⟩, h⟩
                      have : a = k := by omega
                      exact this ▸ ha
                    · intro h
                      exact ⟨_, ⟨k, h, rfl⟩, rfl⟩
                  rw [hb1] at HI
                  have HI := hid HI
                  have HE := hid (show (!b1) = true ↔ ((∀ x, x < k → Okc l x) ∧ q = (k : Int) ∧ Okj l k (is.take (j + 1))) from by
                    rw [htk]
                    have h1 := H1.out
                    constructor
                    · intro h
                      refine ⟨h1.1, h1.2.1, h1.2.2, z, rfl, fun h2 => ?_⟩
                      rw [hb2.2 h2] at h; cases h
                    · rintro ⟨-, -, -, x, hx, h2⟩
                      injection hx with hx
                      subst hx
                      cases b1 with
                      | true => exact absurd (hb2.1 rfl) h2
                      | false => rfl)
                  have HB4 := hid (And.intro (HB.out.1.trans (h0.mono HB.out.1.size)) (HB.out.2.trans (h0.mono HB.out.2.size)))
                  obtain ⟨A4, k4, rfl, -, -, -⟩ := hr
                  clear htk hE hb1 hb2 hms h0 ha HN hF2 hF
                  go_wp2_with fail
                  refine (HI.out).mono ?_
                  rintro e w5 ⟨rfl, rfl⟩
                  go_wp2_with fail
                  go_roundw
                  case rel => exact ⟨j + 1, !b1, rfl, by go_num, by omega, HE, HB4.out.1, HB4.out.2⟩
                  case measure => simp [intOf]; omega
                · have hno : Gr.atN l s = none := by unfold Gr.atN; rw [hre, if_neg gf]
                  rw [hno] at htk
                  have HE := hid (show false = true ↔ ((∀ x, x < k → Okc l x) ∧ q = (k : Int) ∧ Okj l k (is.take (j + 1))) from ⟨fun h => (by cases h), fun h => (by
                    obtain ⟨x, hx, -⟩ := (htk.1 h.2.2).2
                    cases hx)⟩)
                  clear htk hE hre hno
                  go_wp2_with fail
                  refine (hF2.out).mono ?_
                  rintro e w2 ⟨rfl, rfl⟩
                  go_wp2_with fail
                  go_roundw
                  case rel => exact ⟨j + 1, false, by rw [decide_eq_false (show ¬ (0 ≤ r) by omega)], by go_num, by omega, HE, HB.out.1, HB.out.2⟩
                  case measure => simp [intOf]; omega
            · have hjz : ¬ (j : Int) < (is.length : Int) := by omega
              have HE := hid (show f3 = true ↔ ∀ x, x < k + 1 → Okc l x from by
                rw [hE.out, List.take_of_length_le (by omega)]
                constructor
                · rintro ⟨h1, h2⟩ x hx
                  by_cases e : x = k
                  · rw [e]; exact HOK.out.2 h2
                  · exact h1 x (by omega)
                · intro h
                  exact ⟨fun x hx => h x (by omega), HOK.out.1 (h k (by omega))⟩)
              have HB := hid hbel
              clear hE hbel hbo
              go_wp2_with fail
              go_roundw
              case rel => exact ⟨k + 1, f3, rfl, by go_num, by omega, HE, HB.out⟩
              case measure => simp [intOf]; omega
      · have hkz : ¬ (k : Int) < (l.length : Int) := by omega
        have HE := hid (show fi = true ↔ ∀ x, x < l.length → Okc l x from by
          have e : k = l.length := by omega
          rw [← e]; exact hE.out)
        have HB := hid hbel
        have HO := hid (order_any l HQ.out _ wo ((L0.out.below hbel).mono hbel.size))
        clear hE hbel
        go_wp2_with fail
        refine (HO.out).mono ?_
        rintro e w3 ⟨v3, out, at1, e1, rfl, hr, ha, h0⟩
        have X3 := hid (HB.out.trans (h0.mono HB.out.size))
        have HA := HE.out.trans (okc_ans ha)
        have HAL := hid (law_alive w3)
        have HFE : Hid ((fi == (e1 == 0)) = true) := hid (by
          cases fi with
          | true => have := HA.1 rfl; subst this; rfl
          | false =>
            have : ¬ e1 = 0 := fun h => by have := HA.2 h; cases this
            simp [this])
        obtain ⟨A4, k4, rfl, -, -, -⟩ := hr
        obtain ⟨b5, hb5⟩ : ∃ b5, (e1 == 0) = b5 := ⟨_, rfl⟩
        rw [hb5] at HFE
        clear h0 ha HA HO
        go_wp2_with fail
        refine (HAL.out).mono ?_
        rintro e w5 ⟨rfl, h0⟩
        have X5 := hid (X3.out.trans (h0.mono X3.out.size))
        have hfe := HFE.out
        clear h0
        go_wp2_with fail
        go_ret
        exact ⟨by first | rfl | exact ret_bool HFE.out, X5.out⟩

set_option maxRecDepth 100000 in
theorem graphCycles_lifted (os : Os) (started : os.Started) (H : Type) (enc : TypeId × Value → H) :
    ReturnsInHanded {} Try.checked os 7 .any (Rows.graphCyclesSpec.pre6 enc Try.prog Try.f7 Rows.graphCyclesRow.domain false) (Rows.graphCyclesSpec.post enc Try.prog Try.f7 false true false false) := by
  refine returnsInHanded_of_change (C := Try.checked) own started (by kernel_rfl) Try.func7
    (ChangeSpec.witness6 (enc := enc) (C := Try.checked) false ⟨#[], #[.slice none 0 0], []⟩ 8 (by kernel_rfl) (by kernel_rfl) (by kernel_rfl) (by kernel_rfl)) ?_
  intro W base args ds gs before hval0 hW hcnd _
  have hlts := hW.lt
  have hval : ∀ (j : Nat) t v, Try.f7.params[j]? = some t → args[j]? = some v → Value.okWide Try.prog W .any base t v := hval0
  have hW' := hW
  obtain ⟨p, q, hA0, hV, rfl, hfz, hnd⟩ := hW
  have hA : DataW.TrodAll enc Try.prog W 0 (fun _ => true) true Try.f7.params.toList args.toList ds p := hA0
  rw [Try.params7] at hA hval
  obtain ⟨v0, vs0, d0, ds0, p0, q0, hargs0, rfl, rfl, h0, r0⟩ := trodAll_cons hA
  obtain ⟨hn, rfl, rfl⟩ := trodAll_nil r0
  obtain rfl : args = #[v0] := by cases args; simp_all
  obtain ⟨rfl, rfl⟩ := trodVars_none hV
  obtain ⟨sa0, sl0, sc0, hsv0⟩ := okWide_slice Try.underlying22 (hval 0 22 v0 rfl rfl)
  obtain ⟨fuel0, hf0⟩ := h0
  obtain ⟨u0, l0, hu0, hR0⟩ := rdm_of_trod hf0
  obtain rfl : v0 = u0 := by
    rw [hsv0] at hu0
    rw [hsv0]
    simpa [Value.cells] using hu0
  clear hA0 hval0
  simp only [List.append_nil] at hW' hlts
  refine (cycles_true v0 l0 hR0 (W := W)).mono fun e W' ⟨he, hB⟩ => ?_
  subst he
  refine ⟨_, rfl, _, _, _, [], (p0 ++ []), [], by simpa using hW', ?_, ?_, ?_, hB.frame _, fun h => by cases h⟩
  · exact trodAll_cons_mk (shut_bool Try.underlying4 _) trodAll_mk0
  · exact (trodAll_cons_mk (Below.trod (by kernel_rfl) (by kernel_rfl) (of_decide_eq_true (by kernel_rfl)) ⟨fuel0, hf0⟩ hB (fun x hx => hlts x (by simp [hx]))) trodAll_mk0)
  · rfl

/-- GraphCycles: the given statement. -/
theorem graphCycles_holds : Rows.GraphCyclesSaid :=
  OpenClaim.holds_of_wide 7 Try.f7 rfl rfl rfl rfl rfl rfl rfl ⟨rfl, rfl, rfl, rfl, rfl⟩ rfl rfl rfl rfl rfl (by kernel_rfl) Try.func7 (by kernel_rfl)
    (of_decide_eq_true (by kernel_rfl)) (by unfold Func.isWrapper; first | (rw [if_pos (by decide +kernel)]; kernel_rfl) | (rw [if_neg (by decide +kernel)]; exact ⟨rfl, rfl⟩))
    (fun os started H enc _ => graphCycles_lifted os started H enc)

end Go.Proofs.Ytifcilhcjghmkaa.graphCycles
