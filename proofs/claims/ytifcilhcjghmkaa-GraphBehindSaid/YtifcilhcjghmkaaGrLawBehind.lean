/-
  GraphBehind is true for any modules. No conditions.
-/
import Derived.Test.YtifcilhcjghmkaaRows
import Derived.Test.YtifcilhcjghmkaaGrZa
import Derived.IntWalk
namespace Go.Proofs.Ytifcilhcjghmkaa.graphBehind
open Go.ChangeShapes Go.WideShapes Go.ChangeAt Go.RowKit

theorem own : ownKnob Try.prog.godebug = none := by kernel_rfl

abbrev Post (w : World) (e : Ending) (w' : World) : Prop := e = .returned (.bool true) ∧ Below w.heap.size w w'

theorem rdn_take {w : World} {B c g : Nat} {out : List Nat} {i : Nat} (h : RdN w B (.slice (some ⟨g, 0, none⟩) out.length c) out) (hi : i ≤ out.length) : RdN w B (.slice (some ⟨g, 0, none⟩) i c) (out.take i) := by
  obtain ⟨A2, c2, e, h1, h2, hc⟩ := h
  simp only [Value.slice.injEq] at e
  obtain ⟨rfl, -, rfl⟩ := e
  refine ⟨_, _, by rw [List.length_take, Nat.min_eq_left hi], by rw [List.length_take]; omega, h2, fun hn => ?_⟩
  have hne : out ≠ [] := fun e => hn (by rw [e]; simp)
  obtain ⟨b, hb0, hb, hc⟩ := hc hne
  refine ⟨b, hb0, hb, fun k hk => ?_⟩
  rw [List.length_take] at hk
  rw [hc k (by omega)]
  simp
theorem any_mem {xs : List Nat} {x : Nat} : ((xs.map fun k : Nat => (k : Int)).any fun y => decide (y = (x : Int))) = decide (x ∈ xs) := by
  rw [Bool.eq_iff_iff]
  simp only [List.any_eq_true, List.mem_map, decide_eq_true_eq]
  constructor
  · rintro ⟨y, ⟨a, ha, rfl⟩, h⟩
    have : a = x := by omega
    exact this ▸ ha
  · intro h
    exact ⟨_, ⟨x, h, rfl⟩, rfl⟩
theorem split_here {out : List Nat} {i : Nat} (hi : i < out.length) : out = out.take i ++ out[i] :: out.drop (i + 1) := by
  conv => lhs; rw [← List.take_append_drop i out]
  rw [List.drop_eq_getElem_cons hi]

theorem quiet_wo {f : FuncId} {args : Array Value} {w : World} {n : Nat} {v : Value} (h : Calls Try.prog f args (w.drewN n) fun e w' => e = .returned v ∧ w.drewN n = w') : Calls Try.prog f args (w.drewN n) fun e w'' => e = .returned v ∧ ∃ m, w'' = w.drewN m := h.mono fun _ _ ⟨he, hm⟩ => ⟨he, n, hm.symm⟩
theorem in_mem {l : List Nat} {x : Nat} {b : Bool} (hb : decide (x ∈ l) = b) (hl : l.length ≤ 1000) {B : Nat} {v : Value} {w : World} (hx : RdN w B v l) (hB : B ≤ w.heap.size) (n : Nat) :
    Calls Try.prog 16 #[v, .int .i64 (x : Int)] (w.drewN n) fun e w' => e = .returned (.bool b) ∧ w.drewN n = w' := by
  have h := in_any (l.map fun k : Nat => (k : Int)) (by simp; omega) (x : Int) v (w.drewN n) (((hx.mono hB).below (below_drewN w.heap.size w n))).rdi
  rw [any_mem, hb] at h
  exact h
theorem at_place {l : List Gr.Md} {s : ByteArray} {q : Int} (hq : Gr.find s l 0 = q) {B : Nat} {v : Value} {w : World} (hx : RdM w B v l) (hB : B ≤ w.heap.size) (n : Nat) :
    Calls Try.prog 17 #[v, .string s] (w.drewN n) fun e w' => e = .returned (.int .i64 q) ∧ w.drewN n = w' := by
  have h := place_any l s v (w.drewN n) ((hx.mono hB).below (below_drewN w.heap.size w n))
  rw [hq] at h
  exact h

set_option maxHeartbeats 16000000 in
set_option maxRecDepth 1000000 in
theorem behind_true {W : World} (v : Value) (l : List Gr.Md) (hl : RdM W W.heap.size v l) :
    Calls Try.prog 5 #[v] W (Post W) := by
  have L0 := hid hl
  have HF := hid (few_any l v W hl)
  obtain ⟨A, cap, rfl, -, -, -⟩ := hl
  go_enter Try.func5, Try.ntmps5
  go_wp2_with fail
  refine (HF.out).mono ?_
  rintro e w1 ⟨b, rfl, hb, rfl⟩
  cases b with
  | false =>
    have HAL := hid (law_alive W)
    clear hb HF
    go_wp2_with fail
    refine (HAL.out).mono ?_
    rintro e w2 ⟨rfl, h0⟩
    have X2 := hid h0
    clear h0
    go_wp2_with fail
    go_ret
    exact ⟨rfl, X2.out⟩
  | true =>
    have HQ := hid (hb.1 rfl)
    have hn := HQ.out.n
    have HN := hid (order_any l HQ.out _ W L0.out)
    clear hb HF
    go_wp2_with fail
    refine (HN.out).mono ?_
    rintro e w3 ⟨v3, out, at1, e1, rfl, hr, ha, h0⟩
    have X3 := hid h0
    have L3 := hid ((L0.out.below h0).mono h0.size)
    have R3 := hid hr
    have hol := ha.len
    obtain ⟨A3, k3, rfl, -, -, -⟩ := hr
    clear h0 HN
    by_cases he : e1 = 0
    · have HD := hid (show Gr.lostL l < 0 ∧ Gr.Greedy (Gr.ltP l) (Gr.nxL l) l.length out ∧ out.length = l.length from by
        cases ha with
        | again h1 h2 h3 h4 | lost h0 h1 h2 h3 h4 | cycle m h0 h1 hm h2 h3 h4 => omega
        | order h0 h1 hg hl hc h3 h4 => exact ⟨h1, hg, hl⟩)
      subst he
      have holz : ((out.length : Int) != (l.length : Int)) = false := by simp [HD.out.2.2]
      clear ha
      go_wp2_with fail
      go_loopw [6] (fun vi wr => ∃ k : Nat, vi = .int .i64 k ∧ k ≤ out.length ∧ Below w3.heap.size w3 wr) (fun vi _ => out.length - (intOf vi).toNat)
      case atStart => exact ⟨0, rfl, by omega, Below.refl _ _⟩
      case round =>
        clear holz
        obtain ⟨k, rfl, hk, hbel⟩ := hrel
        obtain ⟨wo, hwo⟩ : ∃ wo : World, wo = wr := ⟨_, rfl⟩
        subst hwo
        by_cases hlt : k < out.length
        · have hkz : (k : Int) < (out.length : Int) := by omega
          have hord := HD.out.2.1.ord
          obtain ⟨g, rfl, hg, y0⟩ := R3.out.atv hbel hlt
          have hql := hord.2.2 out[k] (List.getElem_mem hlt)
          have hsp := split_here hlt
          have hni : out[k] ∉ out.take k := by
            have h2 := hord.2.1
            rw [hsp] at h2
            intro hm
            exact (List.nodup_append.1 h2).2.2 _ hm _ (List.mem_cons_self ..) rfl
          have HIM := hid (show ∀ x ∈ Gr.nxL l out[k], x ∈ out.take k from hord.1 _ _ _ hsp)
          have HBE := hid (show ∀ x, Gr.Rch (Gr.nxL l) out[k] x → x ∈ out.take (k + 1) from fun x hx => by
            rw [List.take_succ_eq_append_getElem hlt]
            exact hord.1.behind hx _ _ hsp)
          obtain ⟨q, hq⟩ : ∃ q, out[k] = q := ⟨_, rfl⟩
          rw [hq] at y0 hql hni HIM HBE
          have HI := hid (fun n => in_mem (decide_eq_false hni) (by rw [List.length_take]; omega) ((rdn_take R3.out (Nat.le_of_lt hlt)).below hbel) hbel.size n)
          have hk3 : out.length ≤ k3 := by
            obtain ⟨A2, c2, e, h1, -⟩ := R3.out
            simp only [Value.slice.injEq] at e
            obtain ⟨-, -, rfl⟩ := e
            exact h1
          have hkc : k ≤ k3 := by omega
          have hk0 : ¬ k3 = 0 := by omega
          have hqn : decide ((q : Int) < 0) = false := by simp
          have hqz : (q : Int) < (l.length : Int) := by omega
          have hqm : decide (l.length ≤ q) = false := by simp; omega
          obtain ⟨b, o, c', Ai, ci, Ad, nd, cd, As, nn, cs, hv, hbb, x0, x1, x2, x3, hS⟩ := L3.out.at_ hbel hql
          simp only [Value.slice.injEq, true_and] at hv
          obtain ⟨rfl, rfl⟩ := hv
          have HB := hid hbel
          have HNX := hid (Gr.nxL_at hql)
          have hil := HQ.out.imps l[q] (List.getElem_mem hql)
          obtain ⟨t, ht⟩ : ∃ t, l[q].name = t := ⟨_, rfl⟩
          obtain ⟨is, hni2⟩ : ∃ is, l[q].imps = is := ⟨_, rfl⟩
          rw [ht] at x0
          have HLO := hid (Gr.lost_all HD.out.1 hql)
          rw [hni2] at x1 hS hil HNX HLO
          have HS := hid hS
          clear hbel hq hsp hord hS ht hni2 hni
          go_wp2_with fail
          go_quiet ((go_at_call 16; exact quiet_wo (HI.out _)))
          obtain ⟨wq, hwq⟩ : ∃ wq, wo.drewN nq = wq := ⟨_, rfl⟩
          have HBQ := hid (show Below w3.heap.size w3 wq from hwq ▸ HB.out.trans (below_drewN _ _ _))
          have HQO := hid (show ∀ p : Addr, wq.cell? p = wo.cell? p from fun p => hwq ▸ rfl)
          rw [hwq]
          clear hwq HI hqm hk0 hkc
          rw [← HQO.out] at y0 x0 x1 x2 x3
          go_wp2_with fail
          obtain ⟨wm, hwm⟩ : ∃ wm, wq.alloc (.cells #[.string t, .slice Ai is.length ci, .slice Ad nd cd, .slice As nn cs] 37) = wm := ⟨_, rfl⟩
          have HMC := hid (show wm.cell? ⟨wq.heap.size, 1, none⟩ = some (.slice Ai is.length ci) from hwm ▸ (heap_cell (heap_alloc_new wq _) 1).trans rfl)
          have HBM := hid (show Below w3.heap.size w3 wm from hwm ▸ HBQ.out.alloc HBQ.out.size _)
          have hms : wm.heap.size = wq.heap.size + 1 := by rw [← hwm]; simp
          have Y0 := hid (show ∀ V : World, Below w3.heap.size w3 V → V.cell? ⟨g, k, none⟩ = some (.int .i64 (q : Int)) from fun V hV => (hV.cell (p := ⟨g, k, none⟩) hg).trans ((HB.out.cell (p := ⟨g, k, none⟩) hg).symm.trans ((HQO.out _).symm.trans y0)))
          rw [hwm]
          have hmw := HBM.out.size
          clear hwm y0 x0 x1 x2 x3 HQO HBQ HB
          go_loopw [8] (fun vj wi => ∃ j : Nat, vj = .int .i64 j ∧ j ≤ is.length ∧ Below wm.heap.size wm wi) (fun vj _ => is.length - (intOf vj).toNat)
          case atStart => exact ⟨0, rfl, by omega, Below.refl _ _⟩
          case round =>
            obtain ⟨j, rfl, hj, hbj⟩ := hrel
            obtain ⟨wj, hwj⟩ : ∃ wj : World, wj = wr := ⟨_, rfl⟩
            subst hwj
            have y1 : wj.cell? ⟨wq.heap.size, 1, none⟩ = some (.slice Ai is.length ci) := (hbj.cell (p := ⟨wq.heap.size, 1, none⟩) (by show wq.heap.size < wm.heap.size; omega)).trans HMC.out
            have hbj3 := HBM.out.trans (hbj.mono hmw)
            have HBJ := hid (And.intro hbj hbj3)
            by_cases hjl : j < is.length
            · have hjz : (j : Int) < (is.length : Int) := by omega
              obtain ⟨b2, o2, c', hv, hb2, y2⟩ := HS.out.at_ hbj3 hjl
              simp only [Value.slice.injEq, true_and] at hv
              obtain ⟨rfl, rfl⟩ := hv
              have hlo := HLO.out is[j] (List.getElem_mem hjl)
              have hnx : (Gr.find is[j] l 0).toNat ∈ Gr.nxL l q := by
                rw [HNX.out, List.mem_filterMap]
                exact ⟨is[j], List.getElem_mem hjl, by unfold Gr.atN; rw [if_pos hlo]⟩
              have him := HIM.out _ hnx
              obtain ⟨z, hz⟩ : ∃ z : Nat, Gr.find is[j] l 0 = z := ⟨(Gr.find is[j] l 0).toNat, by omega⟩
              rw [hz, Int.toNat_natCast] at him
              obtain ⟨s, hs⟩ : ∃ s, is[j] = s := ⟨_, rfl⟩
              rw [hs] at y2 hz
              have HP := hid (fun n => at_place hz (L3.out.below hbj3) hbj3.size n)
              have HI := hid (fun n => in_mem (decide_eq_true him) (by rw [List.length_take]; omega) ((rdn_take R3.out (Nat.le_of_lt hlt)).below hbj3) hbj3.size n)
              have hkc : k ≤ k3 := by omega
              have hk0 : ¬ k3 = 0 := by omega
              clear hbj hbj3 hlo hnx him hz hs
              go_wp2_with fail
              go_quiet ((first | (go_at_call 16; exact quiet_wo (HI.out _)) | (go_at_call 17; exact quiet_wo (HP.out _))))
              obtain ⟨wz, hwz⟩ : ∃ wz, wj.drewN nq = wz := ⟨_, rfl⟩
              have HBZ := hid (show Below wm.heap.size wm wz from hwz ▸ HBJ.out.1.trans (below_drewN _ _ _))
              rw [hwz]
              clear hwz y1 y2 hkc hk0
              go_wp2_with fail
              go_roundw
              case rel => exact ⟨j + 1, by go_num, by omega, HBZ.out⟩
              case measure => simp [intOf]; omega
            · have hjz : ¬ (j : Int) < (is.length : Int) := by omega
              have y0 := Y0.out _ hbj3
              have HN := hid (needs_any l HQ.out _ (q : Int) (by omega) (by omega) wj ((L3.out.below hbj3).mono hbj3.size))
              clear hbj hbj3
              go_wp2_with fail
              refine (HN.out).mono ?_
              rintro e w4 ⟨v4, ms, rfl, hr, ha, h0, -⟩
              have hms2 : ∀ x, x ∈ ms ↔ Gr.Rch (Gr.nxL l) q x := by
                cases ha with
                | out g => omega
                | of q2 g1 g2 g3 g4 =>
                  have e : q2 = q := by omega
                  exact e ▸ g4
              have HMS := hid (show ∀ x ∈ ms, x ∈ out.take (k + 1) from fun x hx => HBE.out x ((hms2 x).1 hx))
              have hml : ms.length ≤ l.length := by
                cases ha with
                | out g => omega
                | of q2 g1 g2 g3 g4 => exact Gr.nodup_le _ ms (g3.imp fun h => Nat.ne_of_lt h) (fun x hx => ((g4 x).1 hx).lt (Gr.nxL_lt l) g2)
              have R4 := hid hr
              have HB4 := hid (HBJ.out.2.trans (h0.mono HBJ.out.2.size))
              obtain ⟨A4, k4, rfl, -, -, -⟩ := hr
              have hs4 := HB4.out.size
              clear h0 ha HN HBJ y0 y1 hms2
              go_wp2_with fail
              go_loopw [10] (fun vj wi => ∃ j : Nat, vj = .int .i64 j ∧ j ≤ ms.length ∧ Below w4.heap.size w4 wi) (fun vj _ => ms.length - (intOf vj).toNat)
              case atStart => exact ⟨0, rfl, by omega, Below.refl _ _⟩
              case round =>
                obtain ⟨j, rfl, hj, hbj⟩ := hrel
                obtain ⟨wj, hwj⟩ : ∃ wj : World, wj = wr := ⟨_, rfl⟩
                subst hwj
                have hbj3 := HB4.out.trans (hbj.mono hs4)
                have HBJ := hid (And.intro hbj hbj3)
                by_cases hjl : j < ms.length
                · have hjz : (j : Int) < (ms.length : Int) := by omega
                  obtain ⟨g4, rfl, hg4, y2⟩ := R4.out.atv hbj hjl
                  have him := HMS.out ms[j] (List.getElem_mem hjl)
                  obtain ⟨z, hz⟩ : ∃ z, ms[j] = z := ⟨_, rfl⟩
                  rw [hz] at y2 him
                  have HI := hid (fun n => in_mem (decide_eq_true him) (by rw [List.length_take]; omega) ((rdn_take R3.out hlt).below hbj3) hbj3.size n)
                  have hkc : k + 1 ≤ k3 := by omega
                  have hk0 : ¬ k3 = 0 := by omega
                  have hp1 : (0 : Int) ≤ (k : Int) + 1 := by omega
                  have hp2 : ((k : Int) + 1).toNat = k + 1 := by omega
                  have hp3 : (k : Int) + 1 ≤ (k3 : Int) := by omega
                  have hp4 : IntKind.i64.wrap ((k : Int) + 1) = (k : Int) + 1 := IntWalk.i64_in _ (by omega)
                  clear hbj hbj3 him hz
                  go_wp2_with fail
                  go_quiet ((go_at_call 16; exact quiet_wo (HI.out _)))
                  obtain ⟨wz, hwz⟩ : ∃ wz, wj.drewN nq = wz := ⟨_, rfl⟩
                  have HBZ := hid (show Below w4.heap.size w4 wz from hwz ▸ HBJ.out.1.trans (below_drewN _ _ _))
                  rw [hwz]
                  clear hwz y2 hkc hk0 hp1 hp2 hp3 hp4
                  go_wp2_with fail
                  go_roundw
                  case rel => exact ⟨j + 1, by go_num, by omega, HBZ.out⟩
                  case measure => simp [intOf]; omega
                · have hjz : ¬ (j : Int) < (ms.length : Int) := by omega
                  clear hbj hbj3
                  go_wp2_with fail
                  go_roundw
                  case rel => exact ⟨k + 1, by go_num, by omega, HBJ.out.2⟩
                  case measure => simp [intOf]; omega
        · have hkz : ¬ (k : Int) < (out.length : Int) := by omega
          have HB := hid (X3.out.trans (hbel.mono X3.out.size))
          have HAL := hid (law_alive wo)
          clear hbel
          go_wp2_with fail
          refine (HAL.out).mono ?_
          rintro e w5 ⟨rfl, h0⟩
          have X5 := hid (HB.out.trans (h0.mono HB.out.size))
          clear h0
          go_wp2_with fail
          go_ret
          exact ⟨rfl, X5.out⟩
    · have HO := hid (show out = [] from by
        cases ha with
        | again h1 h2 h3 h4 => exact h2
        | lost h0 h1 h2 h3 h4 => exact h2
        | cycle m h0 h1 hm h2 h3 h4 => exact h2
        | order h0 h1 hg hl hc h3 h4 => exact absurd h4 he)
      have hez : (e1 != 0) = true := by simp [he]
      have hoz : ((out.length : Int) == 0) = true := by simp [HO.out]
      have HAL := hid (law_alive w3)
      clear ha he
      go_wp2_with fail
      refine (HAL.out).mono ?_
      rintro e w4 ⟨rfl, h0⟩
      have X4 := hid (X3.out.trans (h0.mono X3.out.size))
      clear h0
      go_wp2_with fail
      go_ret
      exact ⟨rfl, X4.out⟩

set_option maxRecDepth 100000 in
theorem graphBehind_lifted (os : Os) (started : os.Started) (H : Type) (enc : TypeId × Value → H) :
    ReturnsInHanded {} Try.checked os 5 .any (Rows.graphBehindSpec.pre6 enc Try.prog Try.f5 Rows.graphBehindRow.domain false) (Rows.graphBehindSpec.post enc Try.prog Try.f5 false true false false) := by
  refine returnsInHanded_of_change (C := Try.checked) own started (by kernel_rfl) Try.func5
    (ChangeSpec.witness6 (enc := enc) (C := Try.checked) false ⟨#[], #[.slice none 0 0], []⟩ 8 (by kernel_rfl) (by kernel_rfl) (by kernel_rfl) (by kernel_rfl)) ?_
  intro W base args ds gs before hval0 hW hcnd _
  have hlts := hW.lt
  have hval : ∀ (j : Nat) t v, Try.f5.params[j]? = some t → args[j]? = some v → Value.okWide Try.prog W .any base t v := hval0
  have hW' := hW
  obtain ⟨p, q, hA0, hV, rfl, hfz, hnd⟩ := hW
  have hA : DataW.TrodAll enc Try.prog W 0 (fun _ => true) true Try.f5.params.toList args.toList ds p := hA0
  rw [Try.params5] at hA hval
  obtain ⟨v0, vs0, d0, ds0, p0, q0, hargs0, rfl, rfl, h0, r0⟩ := trodAll_cons hA
  obtain ⟨hn, rfl, rfl⟩ := trodAll_nil r0
  obtain rfl : args = #[v0] := by cases args; simp_all
  obtain ⟨rfl, rfl⟩ := trodVars_none hV
  obtain ⟨sa0, sl0, sc0, hsv0⟩ := okWide_slice Try.underlying22 (hval 0 22 v0 rfl rfl)
  obtain ⟨fuel0, hf0⟩ := h0
  obtain ⟨u0, l0, hu0, hR0⟩ := rdm_of_trod hf0
  obtain rfl : v0 = u0 := by
    rw [hsv0] at hu0
    rw [hsv0]
    simpa [Value.cells] using hu0
  clear hA0 hval0
  simp only [List.append_nil] at hW' hlts
  refine (behind_true v0 l0 hR0 (W := W)).mono fun e W' ⟨he, hB⟩ => ?_
  subst he
  refine ⟨_, rfl, _, _, _, [], (p0 ++ []), [], by simpa using hW', ?_, ?_, ?_, hB.frame _, fun h => by cases h⟩
  · exact trodAll_cons_mk (shut_bool Try.underlying4 _) trodAll_mk0
  · exact (trodAll_cons_mk (Below.trod (by kernel_rfl) (by kernel_rfl) (of_decide_eq_true (by kernel_rfl)) ⟨fuel0, hf0⟩ hB (fun x hx => hlts x (by simp [hx]))) trodAll_mk0)
  · rfl

/-- GraphBehind: the given statement. -/
theorem graphBehind_holds : Rows.GraphBehindSaid :=
  OpenClaim.holds_of_wide 5 Try.f5 rfl rfl rfl rfl rfl rfl rfl ⟨rfl, rfl, rfl, rfl, rfl⟩ rfl rfl rfl rfl rfl (by kernel_rfl) Try.func5 (by kernel_rfl)
    (of_decide_eq_true (by kernel_rfl)) (by unfold Func.isWrapper; first | (rw [if_pos (by decide +kernel)]; kernel_rfl) | (rw [if_neg (by decide +kernel)]; exact ⟨rfl, rfl⟩))
    (fun os started H enc _ => graphBehind_lifted os started H enc)

end Go.Proofs.Ytifcilhcjghmkaa.graphBehind
