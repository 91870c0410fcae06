/-
  The walks of the reference's Right, Few over choices, and of layer 7's Plain. Conditions: labels of at most 2000000 bytes.
-/
import Derived.Test.YtmcdggjcpfkchaaAgA
import Derived.BigQuiet
import Derived.IntWalk
namespace Go.Proofs.Ytmcdggjcpfkchaa.L
open Go
def short (l : List Nd) : Bool := l.all fun x => decide (x.name.size ≤ 100)
/-- A plain type of at most so many nodes, with short labels. -/
def good (most : Nat) (l : List Nd) : Bool := decide (l.length ≤ most) && short l && (rightL l && plainL l)
/-- An assignment of at most so many short types. -/
def fewC (most : Nat) (cs : List Ch) : Bool := decide (cs.length ≤ most) && (cs.all (fun c => good 30 c.t) && asgF 0 cs)
end Go.Proofs.Ytmcdggjcpfkchaa.L
namespace Go.Proofs.Ytmcdggjcpfkchaa
open Go.RowKit

theorem good_parts {most : Nat} {l : List L.Nd} (h : L.good most l = true) : l.length ≤ most ∧ (∀ x ∈ l, x.name.size ≤ 100) ∧ L.rightL l = true ∧ L.plainL l = true := by
  simp only [L.good, L.short, Bool.and_eq_true, decide_eq_true_eq, List.all_eq_true] at h
  exact ⟨h.1.1, h.1.2, h.2.1, h.2.2⟩

theorem right_few {l : List L.Nd} (h : L.rightL l = true) : Few l := by
  obtain ⟨x, ks, hl, hn, hb, hok, -⟩ := (L.rightL_iff l).1 h
  refine few_of hn ?_
  rw [List.all_eq_true]
  intro z hz
  have := L.numbered_flat _ hok z
  simp only [L.Fo.flat, List.append_nil] at this
  exact this (by rw [← hl]; exact hz)

set_option maxHeartbeats 2000000 in
set_option maxRecDepth 100000 in
theorem plain7_any (l : List L.Nd) (most : Nat) (hm : most ≤ 1000) (v : Value) (w : World) (hx : Rd w w.heap.size v l) :
    Calls Try.prog 10 #[v, .int .i64 (most : Int)] w fun e w' => e = .returned (.bool (L.good most l)) ∧ Below w.heap.size w w' := by
  have HX := hid hx
  obtain ⟨A, cap, rfl, hl1, hl2, -, hcx⟩ := hx
  unfold maxLen at hl2
  have HCX := hid hcx
  clear hcx
  by_cases hlm : most < l.length
  · have HG : Hid (L.good most l = false) := hid (by simp [L.good]; intro h; omega)
    go_enter Try.func10, Try.ntmps10
    go_wp2
    go_ret
    exact ⟨ret_bool HG.out.symm, Below.refl _ _⟩
  · go_enter Try.func10, Try.ntmps10
    go_wp2
    go_loop [5] (fun vi => ∃ k : Nat, vi = .int .i64 k ∧ k ≤ l.length ∧ Hid (∀ (j : Nat) (h : j < l.length), j < k → l[j].name.size ≤ 100)) (fun vi => l.length - (intOf vi).toNat)
    case atStart => exact ⟨0, rfl, by omega, hid fun j _ h => by omega⟩
    case round =>
      obtain ⟨k, rfl, hk, hS⟩ := hrel
      by_cases hlt : k < l.length
      · obtain ⟨b, o, hA, hb, hcx⟩ := HCX.out (by rintro rfl; simp at hlt)
        obtain ⟨x0, x1, x2⟩ := hcx k hlt
        subst hA
        have HM : Hid (l[k] ∈ l) := hid (List.getElem_mem hlt)
        have HL : Hid (∀ (j : Nat) (h : j < l.length), j < k + 1 → l[k].name.size ≤ 100 → l[j].name.size ≤ 100) := hid fun j hj hjk hx => by
          by_cases e : j = k
          · subst e; exact hx
          · exact hS.out j hj (by omega)
        clear hcx
        generalize l[k] = X at *
        obtain ⟨xk, xs, xn⟩ := X
        simp only at x0 x1 x2
        by_cases h100 : 100 < xs.size
        · have HG : Hid (L.good most l = false) := hid (by
            cases hg : L.good most l with
            | false => rfl
            | true =>
              have := (good_parts hg).2.1 _ HM.out
              simp only at this
              omega)
          go_wp2
          go_ret
          exact ⟨ret_bool HG.out.symm, Below.refl _ _⟩
        · go_wp2
          go_round
          case rel => exact ⟨k + 1, by go_num, by omega, hid fun j hj hjk => HL.out j hj hjk (by simp only; omega)⟩
          case measure => simp [intOf]; omega
      · obtain rfl : k = l.length := by omega
        have hsh : L.short l = true := by
          simp only [L.short, List.all_eq_true, decide_eq_true_eq]
          intro x hx
          obtain ⟨i, hi, rfl⟩ := List.mem_iff_getElem.1 hx
          exact hS.out i hi hi
        have HG : Hid (L.good most l = (L.rightL l && L.plainL l)) := hid (by simp only [L.good, hsh]; rw [decide_eq_true (by omega)]; rfl)
        have HR := hid (refRight_any l (fun x hx => by
          simp only [L.short, List.all_eq_true, decide_eq_true_eq] at hsh
          exact Nat.le_trans (hsh x hx) (by omega)) _ w HX.out)
        clear hsh
        cases hr : L.rightL l with
        | false =>
          rw [hr] at HR HG
          clear hr
          go_wp2_with fail
          refine (HR.out).mono ?_
          rintro e w1 ⟨rfl, h1⟩
          go_wp2
          go_ret
          exact ⟨ret_bool HG.out.symm, h1⟩
        | true =>
          rw [hr] at HR HG
          clear hr
          go_wp2_with fail
          refine (HR.out).mono ?_
          rintro e w1 ⟨rfl, h1⟩
          have HP := hid (ref_plain l _ w1 ((HX.out.below h1).mono h1.size))
          have H1 := hid h1
          clear h1
          go_wp2_with fail
          refine (HP.out).mono ?_
          rintro e w2 ⟨rfl, rfl⟩
          go_wp2
          go_ret
          exact ⟨ret_bool (by rw [HG.out]; simp), H1.out⟩

theorem drew_b (B : Nat) (w : World) (n : Nat) : Below B w (w.drewN n) := ⟨rfl, rfl, rfl, Nat.le_refl _, fun _ _ => rfl⟩

set_option maxHeartbeats 8000000 in
set_option maxRecDepth 100000 in
theorem refAsg_any (cs : List L.Ch) (hnm : NmC cs) (v : Value) (w : World) (hx : RdC w w.heap.size v cs) :
    Calls Try.prog 9 #[v] w fun e w' => e = .returned (.bool (L.asgF 0 cs)) ∧ Below w.heap.size w w' := by
  have HX := hid hx
  have HN := hid hnm
  obtain ⟨A, cap, rfl, h1, h2, -⟩ := hx
  unfold maxLen at h2
  clear hnm
  go_enter Try.func9, Try.ntmps9
  go_wp2_with fail
  go_loopw [3] (fun vi wr => ∃ (k : Nat) (p : Int), vi = .int .i64 k ∧ k ≤ cs.length ∧ Hid (L.asgF p (cs.drop k) = L.asgF 0 cs) ∧ Hid (0 ≤ p ∧ (k = 0 → p = 0) ∧ ∀ (j : Nat) (h : j < cs.length), k = j + 1 → p = cs[j].site) ∧ Below w.heap.size w wr) (fun vi _ => cs.length - (intOf vi).toNat)
  case atStart => exact ⟨0, 0, rfl, by omega, hid rfl, hid ⟨by omega, fun _ => rfl, fun j _ h => by omega⟩, Below.refl _ _⟩
  case round =>
    obtain ⟨k, p, rfl, hk, hE, hP, hbel⟩ := hrel
    obtain ⟨wo, hwo⟩ : ∃ wo : World, wo = wr := ⟨_, rfl⟩
    subst hwo
    have hsz := hbel.size
    by_cases hlt : k < cs.length
    · have hkz : (k : Int) < (cs.length : Int) := by omega
      obtain ⟨b, o, c', At, ct, hv, hbb, x0, x1, hr⟩ := HX.out.at_ hbel hlt
      simp only [Value.slice.injEq, true_and] at hv
      obtain ⟨rfl, rfl⟩ := hv
      have hst := hE.out
      rw [L.asgF_drop hlt] at hst
      have hnm := HN.out cs[k] (List.getElem_mem hlt)
      have hnext : ∀ (j : Nat) (h : j < cs.length), k + 1 = j + 1 → cs[k].site = cs[j].site := fun j h e => by
        have e : k = j := by omega
        subst e; rfl
      have hp0 := hP.out.1
      have hprev := hP.out.2
      obtain ⟨s, hs⟩ : ∃ s, cs[k].site = s := ⟨_, rfl⟩
      obtain ⟨t, ht⟩ : ∃ t, cs[k].t = t := ⟨_, rfl⟩
      rw [hs] at x0 hst hnext
      rw [ht] at x1 hr hst hnm
      have HB := hid hbel
      have HR := hid hr.size
      have HNM := hid hnm
      have HNX := hid hnext
      obtain ⟨nt, hnt⟩ : ∃ nt, t.length = nt := ⟨_, rfl⟩
      have HNT := hid hnt
      rw [hnt] at x1
      rw [hnt] at HR
      have X1 := hid (fun (V : World) (hV : Below wo.heap.size wo V) => (hV.cell (p := ⟨b, o + k * 2 + 1, none⟩) (show b < wo.heap.size by omega)).trans x1)
      clear hE hP hs ht hr hbel hnm hnext hnt
      -- what stands behind the first test
      have key : ∀ (Q : Exit → Act → World → Prop), True := fun _ => trivial
      clear key
      by_cases hlo : p < s
      · rw [decide_eq_true hlo, Bool.true_and] at hst
        have HST := hid hst
        have hs1 : ¬ s < 1 := by omega
        clear hst
        have fin : ∀ V : World, Below w.heap.size w V → Hid (Below wo.heap.size wo V) → True := fun _ _ _ => trivial
        clear fin
        rcases Nat.eq_zero_or_pos k with hk0 | hk0
        · have hkn : decide (0 < k) = false := decide_eq_false (by omega)
          have hs1b : decide (s < 1) = false := decide_eq_false hs1
          clear hprev hp0 hlo hk0
          go_wp2_with fail
          go_quiet (fail)
          obtain ⟨wq, hwq⟩ : ∃ wq, wo.drewN nq = wq := ⟨_, rfl⟩
          have hbq : Below wo.heap.size wo wq := hwq ▸ drew_b _ _ _
          rw [hwq]
          have x1 := X1.out wq hbq
          have H1 := hid (refRight_any t HNM.out (.slice At nt ct) wq ((HR.out.below hbq).mono hbq.size))
          have HB1 := hid hbq
          clear hwq hbq x0 
          go_wp2_with fail
          refine (H1.out).mono ?_
          rintro e w1 ⟨rfl, h0⟩
          have HB2 := hid (HB1.out.trans (h0.mono HB1.out.size))
          clear h0 H1 x1
          obtain ⟨b1, hb1⟩ : ∃ b, L.rightL t = b := ⟨_, rfl⟩
          have V1 := hid hb1
          rw [hb1]
          clear hb1
          cases b1 with
          | false =>
            have HV := hid (show L.asgF 0 cs = false from by rw [← HST.out]; simp [L.fillB, V1.out])
            go_wp2_with fail
            go_ret
            exact ⟨ret_bool HV.out.symm, HB.out.trans (HB2.out.mono hsz)⟩
          | true =>
            have x1 := X1.out w1 HB2.out
            have H2 := hid (ref_plain t (.slice At nt ct) w1 ((HR.out.below HB2.out).mono HB2.out.size))
            go_wp2_with fail
            refine (H2.out).mono ?_
            rintro e w2 ⟨rfl, rfl⟩
            clear H2
            obtain ⟨b2, hb2⟩ : ∃ b, L.plainL t = b := ⟨_, rfl⟩
            have V2 := hid hb2
            rw [hb2]
            clear hb2
            cases b2 with
            | false =>
              have HV := hid (show L.asgF 0 cs = false from by rw [← HST.out]; simp [L.fillB, V1.out, V2.out])
              go_wp2_with fail
              go_ret
              exact ⟨ret_bool HV.out.symm, HB.out.trans (HB2.out.mono hsz)⟩
            | true =>
              have H3 := hid (ref_static t (.slice At nt ct) w2 ((HR.out.below HB2.out).mono HB2.out.size))
              go_wp2_with fail
              refine (H3.out).mono ?_
              rintro e w3 ⟨rfl, rfl⟩
              clear H3
              obtain ⟨b3, hb3⟩ : ∃ b, L.staticL t = b := ⟨_, rfl⟩
              have V3 := hid hb3
              rw [hb3]
              clear hb3
              cases b3 with
              | false =>
                have HV := hid (show L.asgF 0 cs = false from by rw [← HST.out]; simp [L.fillB, V1.out, V2.out, V3.out])
                go_wp2_with fail
                go_ret
                exact ⟨ret_bool HV.out.symm, HB.out.trans (HB2.out.mono hsz)⟩
              | true =>
                have HV := hid (show L.asgF s (cs.drop (k + 1)) = L.asgF 0 cs from by rw [← HST.out]; simp [L.fillB, V1.out, V2.out, V3.out])
                have HP2 := hid (show 0 ≤ s ∧ (k + 1 = 0 → s = 0) ∧ ∀ (j : Nat) (h : j < cs.length), k + 1 = j + 1 → s = cs[j].site from ⟨by omega, fun h => by omega, HNX.out⟩)
                clear HST HNX x1
                go_wp2_with fail
                go_roundw
                case rel => exact ⟨k + 1, s, by go_num, by omega, HV, HP2, HB.out.trans (HB2.out.mono hsz)⟩
                case measure => simp [intOf] <;> omega
        · obtain ⟨k0, rfl⟩ : ∃ k0, k = k0 + 1 := ⟨k - 1, by omega⟩
          clear hk0
          have hkz2 : (k0 : Int) + 1 < (cs.length : Int) := by omega
          have hkz4 : (0 : Int) ≤ (k0 : Int) + 1 := by omega
          have hkz3 : (k0 : Int) < (cs.length : Int) := by omega
          have hs1b : decide (s < 1) = false := decide_eq_false hs1
          obtain ⟨b', o', c', A0, c0, hv, hbb', z0, -⟩ := HX.out.at_ HB.out (show k0 < cs.length by omega)
          simp only [Value.slice.injEq, Option.some.injEq, Addr.mk.injEq, and_true, true_and] at hv
          obtain ⟨⟨rfl, rfl⟩, rfl⟩ := hv
          rw [← hprev.2 k0 (by omega) rfl] at z0
          have hge : ¬ s ≤ p := by omega
          have hpos : (0 : Int) < (k0 : Int) + 1 := by omega
          clear hprev
          go_wp2_with fail
          go_quiet (fail)
          obtain ⟨wq, hwq⟩ : ∃ wq, wo.drewN nq = wq := ⟨_, rfl⟩
          have hbq : Below wo.heap.size wo wq := hwq ▸ drew_b _ _ _
          rw [hwq]
          have x1 := X1.out wq hbq
          have H1 := hid (refRight_any t HNM.out (.slice At nt ct) wq ((HR.out.below hbq).mono hbq.size))
          have HB1 := hid hbq
          clear hwq hbq x0 z0
          go_wp2_with fail
          refine (H1.out).mono ?_
          rintro e w1 ⟨rfl, h0⟩
          have HB2 := hid (HB1.out.trans (h0.mono HB1.out.size))
          clear h0 H1 x1
          obtain ⟨b1, hb1⟩ : ∃ b, L.rightL t = b := ⟨_, rfl⟩
          have V1 := hid hb1
          rw [hb1]
          clear hb1
          cases b1 with
          | false =>
            have HV := hid (show L.asgF 0 cs = false from by rw [← HST.out]; simp [L.fillB, V1.out])
            go_wp2_with fail
            go_ret
            exact ⟨ret_bool HV.out.symm, HB.out.trans (HB2.out.mono hsz)⟩
          | true =>
            have x1 := X1.out w1 HB2.out
            have H2 := hid (ref_plain t (.slice At nt ct) w1 ((HR.out.below HB2.out).mono HB2.out.size))
            go_wp2_with fail
            refine (H2.out).mono ?_
            rintro e w2 ⟨rfl, rfl⟩
            clear H2
            obtain ⟨b2, hb2⟩ : ∃ b, L.plainL t = b := ⟨_, rfl⟩
            have V2 := hid hb2
            rw [hb2]
            clear hb2
            cases b2 with
            | false =>
              have HV := hid (show L.asgF 0 cs = false from by rw [← HST.out]; simp [L.fillB, V1.out, V2.out])
              go_wp2_with fail
              go_ret
              exact ⟨ret_bool HV.out.symm, HB.out.trans (HB2.out.mono hsz)⟩
            | true =>
              have H3 := hid (ref_static t (.slice At nt ct) w2 ((HR.out.below HB2.out).mono HB2.out.size))
              go_wp2_with fail
              refine (H3.out).mono ?_
              rintro e w3 ⟨rfl, rfl⟩
              clear H3
              obtain ⟨b3, hb3⟩ : ∃ b, L.staticL t = b := ⟨_, rfl⟩
              have V3 := hid hb3
              rw [hb3]
              clear hb3
              cases b3 with
              | false =>
                have HV := hid (show L.asgF 0 cs = false from by rw [← HST.out]; simp [L.fillB, V1.out, V2.out, V3.out])
                go_wp2_with fail
                go_ret
                exact ⟨ret_bool HV.out.symm, HB.out.trans (HB2.out.mono hsz)⟩
              | true =>
                have HV := hid (show L.asgF s (cs.drop ((k0 + 1) + 1)) = L.asgF 0 cs from by rw [← HST.out]; simp [L.fillB, V1.out, V2.out, V3.out])
                have HP2 := hid (show 0 ≤ s ∧ ((k0 + 1) + 1 = 0 → s = 0) ∧ ∀ (j : Nat) (h : j < cs.length), (k0 + 1) + 1 = j + 1 → s = cs[j].site from ⟨by omega, fun h => by omega, HNX.out⟩)
                clear HST HNX x1
                go_wp2_with fail
                go_roundw
                case rel => exact ⟨(k0 + 1) + 1, s, by go_num, by omega, HV, HP2, HB.out.trans (HB2.out.mono hsz)⟩
                case measure => simp [intOf] <;> omega
      · have HV := hid (show L.asgF 0 cs = false from by rw [← hst, decide_eq_false hlo]; rfl)
        clear hst
        by_cases hs1 : s < 1
        · clear hlo hprev
          go_wp2_with fail
          go_quiet (fail)
          go_wp2_with fail
          go_ret
          exact ⟨ret_bool HV.out.symm, HB.out.trans (drew_b _ _ _)⟩
        · rcases Nat.eq_zero_or_pos k with hk0 | hk0
          · exact absurd (hprev.1 hk0) (by omega)
          · obtain ⟨k0, rfl⟩ : ∃ k0, k = k0 + 1 := ⟨k - 1, by omega⟩
            clear hk0
            have hkz2 : (k0 : Int) + 1 < (cs.length : Int) := by omega
            have hkz4 : (0 : Int) ≤ (k0 : Int) + 1 := by omega
            have hkz3 : (k0 : Int) < (cs.length : Int) := by omega
            have hs1b : decide (s < 1) = false := decide_eq_false hs1
            obtain ⟨b', o', c', A0, c0, hv, hbb', z0, -⟩ := HX.out.at_ HB.out (show k0 < cs.length by omega)
            simp only [Value.slice.injEq, Option.some.injEq, Addr.mk.injEq, and_true, true_and] at hv
            obtain ⟨⟨rfl, rfl⟩, rfl⟩ := hv
            rw [← hprev.2 k0 (by omega) rfl] at z0
            have hge : s ≤ p := by omega
            have hpos : (0 : Int) < (k0 : Int) + 1 := by omega
            clear hprev
            go_wp2_with fail
            go_quiet (fail)
            go_wp2_with fail
            go_ret
            exact ⟨ret_bool HV.out.symm, HB.out.trans (drew_b _ _ _)⟩
    · have hkz : ¬ (k : Int) < (cs.length : Int) := by omega
      have HV := hid (show L.asgF 0 cs = true from by rw [← hE.out, List.drop_eq_nil_of_le (by omega)]; rfl)
      have HB := hid hbel
      clear hE hP hbel
      go_wp2_with fail
      go_ret
      exact ⟨ret_bool HV.out.symm, HB.out⟩

set_option maxHeartbeats 4000000 in
set_option maxRecDepth 100000 in
theorem fewC_any (cs : List L.Ch) (most : Nat) (hm : most ≤ 1000) (v : Value) (w : World) (hx : RdC w w.heap.size v cs) :
    Calls Try.prog 11 #[v, .int .i64 (most : Int)] w fun e w' => e = .returned (.bool (L.fewC most cs)) ∧ Below w.heap.size w w' := by
  have HX := hid hx
  obtain ⟨A, cap, rfl, h1, h2, -⟩ := hx
  unfold maxLen at h2
  go_enter Try.func11, Try.ntmps11
  by_cases hlm : most < cs.length
  · have hlz : (most : Int) < (cs.length : Int) := by omega
    have HV := hid (show L.fewC most cs = false from by simp only [L.fewC]; rw [decide_eq_false (by omega)]; rfl)
    go_wp2_with fail
    go_ret
    exact ⟨ret_bool HV.out.symm, Below.refl _ _⟩
  · have hlz : ¬ (most : Int) < (cs.length : Int) := by omega
    have HL := hid (show L.fewC most cs = (cs.all (fun c => L.good 30 c.t) && L.asgF 0 cs) from by simp only [L.fewC]; rw [decide_eq_true (by omega)]; rfl)
    go_wp2_with fail
    go_loopw [5] (fun vi wr => ∃ k : Nat, vi = .int .i64 k ∧ k ≤ cs.length ∧ Hid (∀ (j : Nat) (h : j < cs.length), j < k → L.good 30 cs[j].t = true) ∧ Below w.heap.size w wr) (fun vi _ => cs.length - (intOf vi).toNat)
    case atStart => exact ⟨0, rfl, by omega, hid fun j _ h => by omega, Below.refl _ _⟩
    case round =>
      obtain ⟨k, rfl, hk, hE, hbel⟩ := hrel
      obtain ⟨wo, hwo⟩ : ∃ wo : World, wo = wr := ⟨_, rfl⟩
      subst hwo
      have hsz := hbel.size
      by_cases hlt : k < cs.length
      · have hkz : (k : Int) < (cs.length : Int) := by omega
        obtain ⟨b, o, c', At, ct, hv, hbb, x0, x1, hr⟩ := HX.out.at_ hbel hlt
        simp only [Value.slice.injEq, true_and] at hv
        obtain ⟨rfl, rfl⟩ := hv
        have HG := hid (plain7_any cs[k].t 30 (by omega) _ wo hr.size)
        have hno : L.good 30 cs[k].t = false → L.fewC most cs = false := fun h => by
          rw [HL.out, Bool.and_eq_false_iff]
          refine Or.inl ?_
          cases e : cs.all fun c => L.good 30 c.t with
          | false => rfl
          | true => rw [List.all_eq_true.1 e cs[k] (List.getElem_mem hlt)] at h; cases h
        have hyes : L.good 30 cs[k].t = true → ∀ (j : Nat) (h : j < cs.length), j < k + 1 → L.good 30 cs[j].t = true := fun h j hj hjk => by
          by_cases e : j = k
          · subst e; exact h
          · exact hE.out j hj (by omega)
        have HB := hid hbel
        obtain ⟨t, ht⟩ : ∃ t, cs[k].t = t := ⟨_, rfl⟩
        rw [ht] at x1 HG hno hyes
        obtain ⟨nt, hnt⟩ : ∃ nt, t.length = nt := ⟨_, rfl⟩
        rw [hnt] at x1 HG
        obtain ⟨b1, hb1⟩ : ∃ b, L.good 30 t = b := ⟨_, rfl⟩
        rw [hb1] at HG hno hyes
        have HNO := hid (show ∀ c : Bool, b1 = c → c = false → L.fewC most cs = false from fun c h1 h2 => hno (h1.trans h2))
        have HYES := hid (show ∀ c : Bool, b1 = c → c = true → ∀ (j : Nat) (h : j < cs.length), j < k + 1 → L.good 30 cs[j].t = true from fun c h1 h2 => hyes (h1.trans h2))
        clear hE ht hnt hb1 hr hbel hno hyes x0
        go_wp2_with fail
        refine (HG.out).mono ?_
        rintro e w1 ⟨rfl, h0⟩
        have HB1 := hid (HB.out.trans (h0.mono hsz))
        clear h0 HG
        cases b1 with
        | false =>
          have HV := hid (HNO.out false rfl rfl)
          clear HNO HYES
          go_wp2_with fail
          go_ret
          exact ⟨ret_bool HV.out.symm, HB1.out⟩
        | true =>
          have HE := hid (HYES.out true rfl rfl)
          clear HNO HYES x1
          go_wp2_with fail
          go_roundw
          case rel => exact ⟨k + 1, by go_num, by omega, HE, HB1.out⟩
          case measure => simp [intOf]; omega
      · have hkz : ¬ (k : Int) < (cs.length : Int) := by omega
        have HA := hid (show cs.all (fun c => L.good 30 c.t) = true from by
          rw [List.all_eq_true]
          intro c hc
          obtain ⟨i, hi, rfl⟩ := List.mem_iff_getElem.1 hc
          exact hE.out i hi (by omega))
        have HB := hid hbel
        have HR := hid (refAsg_any cs (fun c hc x hx => by
          have := (good_parts (List.all_eq_true.1 HA.out c hc)).2.1 x hx
          omega) _ wo ((HX.out.below hbel).mono hsz))
        have HV := hid (show L.asgF 0 cs = L.fewC most cs from by rw [HL.out, HA.out, Bool.true_and])
        clear hE hbel
        go_wp2_with fail
        refine (HR.out).mono ?_
        rintro e w1 ⟨rfl, h0⟩
        have HB1 := hid (HB.out.trans (h0.mono hsz))
        clear h0 HR
        go_wp2_with fail
        go_ret
        exact ⟨ret_bool HV.out, HB1.out⟩

end Go.Proofs.Ytmcdggjcpfkchaa
