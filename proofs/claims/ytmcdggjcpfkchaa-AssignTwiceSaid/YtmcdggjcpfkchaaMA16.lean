/-
  The texts AsFw, AsTr, one behind the other. Conditions: those that each of them names.
-/
import Derived.Test.YtmcdggjcpfkchaaMA4
import Derived.Test.YtmcdggjcpfkchaaMA14
import Derived.Test.YtmcdggjcpfkchaaMA13
import Derived.Test.YtmcdggjcpfkchaaMA15
section
/-
  The walk of the reference's Few: what it tells. Conditions: a slice that reads as parts.
-/
namespace Go.Proofs.Ytmcdggjcpfkchaa
open Go.RowKit

namespace E
/-- Of short names and types? -/
def fewP (p : Pt) : Bool := (decide (p.label.size ≤ 100) && (decide (p.name.size ≤ 200) && (decide (p.bind.size ≤ 100) && (decide (p.t.length ≤ 60) && decide (p.u.length ≤ 60))))) && ((p.t.all fun x => decide (x.name.size ≤ 100)) && p.u.all fun x => decide (x.name.size ≤ 100))
def fewL (l : List Pt) (most : Nat) : Bool := decide (l.length ≤ most) && l.all fewP

theorem fewL_step {l : List Pt} {most k : Nat} (h : k < l.length) : (decide (l.length ≤ most) && (l.drop k).all fewP) = (decide (l.length ≤ most) && (fewP l[k] && (l.drop (k + 1)).all fewP)) := by
  rw [List.drop_eq_getElem_cons h, List.all_cons]

theorem small_of_few {p : Pt} (h : fewP p = true) : Small p := by
  simp only [fewP, Bool.and_eq_true, decide_eq_true_eq, List.all_eq_true] at h
  obtain ⟨⟨h1, h2, h3, h4, h5⟩, h6, h7⟩ := h
  exact ⟨by omega, by omega, by omega, fun x hx => by have := h6 x hx; omega, fun x hx => by have := h7 x hx; omega⟩
end E

theorem RdP.row {w : World} {B : Nat} {v : Value} {l : List E.Pt} (h : RdP w B v l) {k : Nat} (hk : k < l.length) : ∃ A cap b o vt vu, v = .slice A l.length cap ∧ A = some ⟨b, o, none⟩ ∧ b < B ∧
    w.cell? ⟨b, o + k * 8 + 1, none⟩ = some (.string l[k].label) ∧ w.cell? ⟨b, o + k * 8 + 2, none⟩ = some (.string l[k].name) ∧ w.cell? ⟨b, o + k * 8 + 3, none⟩ = some (.string l[k].bind) ∧
    w.cell? ⟨b, o + k * 8 + 6, none⟩ = some vt ∧ w.cell? ⟨b, o + k * 8 + 7, none⟩ = some vu ∧ Rd w B vt l[k].t ∧ Rd w B vu l[k].u := by
  obtain ⟨A, cap, hv, -, -, hc⟩ := h
  obtain ⟨b, o, hA, hb, hx⟩ := hc (by rintro rfl; simp at hk)
  obtain ⟨vt, vu, c0, c1, c2, c3, c4, c5, c6, c7, ht, hu⟩ := hx k hk
  exact ⟨A, cap, b, o, vt, vu, hv, hA, hb, c1, c2, c3, c6, c7, ht, hu⟩

set_option maxHeartbeats 8000000 in
set_option maxRecDepth 100000 in
theorem rfew_any (l : List E.Pt) (most : Nat) (hmo : most ≤ 1000) (v : Value) (w : World) (hx : RdP w w.heap.size v l) :
    Calls Try.prog 12 #[v, .int .i64 most] w fun e w' => e = .returned (.bool (E.fewL l most)) ∧ w' = w := by
  have HX := hid hx
  obtain ⟨A, cap, rfl, hl1, hl2, hcx⟩ := hx
  unfold maxLen at hl2
  clear hcx
  go_enter Try.func12, Try.ntmps12
  go_wp2
  go_loop [5] (fun vi => ∃ k : Nat, vi = .int .i64 k ∧ k ≤ l.length ∧ k ≤ most ∧ Hid (E.fewL l most = (decide (l.length ≤ most) && (l.drop k).all E.fewP))) (fun vi => l.length - (intOf vi).toNat)
  case atStart => exact ⟨0, rfl, by omega, by omega, hid rfl⟩
  case round =>
    obtain ⟨k, rfl, hk, hkm, hE⟩ := hrel
    by_cases hlt : k < l.length
    · by_cases hm : k = most
      · have HZ : Hid (E.fewL l most = false) := hid (by rw [hE.out, decide_eq_false (show ¬ l.length ≤ most by omega), Bool.false_and])
        have hmz : ((k : Int) == (most : Int)) = true := by simp; omega
        clear hm
        go_wp2
        go_ret
        exact ⟨ret_bool HZ.out.symm, rfl⟩
      · have hmz : ((k : Int) == (most : Int)) = false := by simp; omega
        obtain ⟨A', cap', b, o, vt, vu, hv, hA, hb, y1, y2, y3, y6, y7, yt, yu⟩ := HX.out.row hlt
        simp only [Value.slice.injEq, true_and] at hv
        obtain ⟨rfl, rfl⟩ := hv
        subst hA
        obtain ⟨A1, c1, rfl, -, -, -, tc⟩ := yt
        obtain ⟨A2, c2, rfl, -, -, -, uc⟩ := yu
        have hkl : (k : Int) < (l.length : Int) := by omega
        have hst := hid (hE.out.trans (E.fewL_step hlt))
        have hkm2 : k < most := by omega
        clear hE hm
        generalize hP : l[k] = P at *
        clear hP
        obtain ⟨k1, s1, s2, s3, n1, n2, t1, t2⟩ := P
        simp only at y1 y2 y3 y6 y7 tc uc
        have HTC := hid tc
        have HUC := hid uc
        clear tc uc
        by_cases g1 : 100 < s1.size
        · have HZ : Hid (E.fewL l most = false) := hid (by rw [hst.out]; simp only [E.fewP]; rw [decide_eq_false (show ¬ s1.size ≤ 100 by omega)]; simp)
          go_wp2
          go_ret
          exact ⟨ret_bool HZ.out.symm, rfl⟩
        by_cases g2 : 200 < s2.size
        · have HZ : Hid (E.fewL l most = false) := hid (by rw [hst.out]; simp only [E.fewP]; rw [decide_eq_false (show ¬ s2.size ≤ 200 by omega)]; simp)
          go_wp2
          go_ret
          exact ⟨ret_bool HZ.out.symm, rfl⟩
        by_cases g3 : 100 < s3.size
        · have HZ : Hid (E.fewL l most = false) := hid (by rw [hst.out]; simp only [E.fewP]; rw [decide_eq_false (show ¬ s3.size ≤ 100 by omega)]; simp)
          go_wp2
          go_ret
          exact ⟨ret_bool HZ.out.symm, rfl⟩
        by_cases g4 : 60 < t1.length
        · have HZ : Hid (E.fewL l most = false) := hid (by rw [hst.out]; simp only [E.fewP]; rw [decide_eq_false (show ¬ t1.length ≤ 60 by omega)]; simp)
          go_wp2
          go_ret
          exact ⟨ret_bool HZ.out.symm, rfl⟩
        by_cases g5 : 60 < t2.length
        · have HZ : Hid (E.fewL l most = false) := hid (by rw [hst.out]; simp only [E.fewP]; rw [decide_eq_false (show ¬ t2.length ≤ 60 by omega)]; simp)
          go_wp2
          go_ret
          exact ⟨ret_bool HZ.out.symm, rfl⟩
        have hst2 : Hid (E.fewL l most = (decide (l.length ≤ most) && (((t1.all fun x => decide (x.name.size ≤ 100)) && t2.all fun x => decide (x.name.size ≤ 100)) && (l.drop (k + 1)).all E.fewP))) := hid (by
          rw [hst.out]; simp only [E.fewP]
          rw [decide_eq_true (show s1.size ≤ 100 by omega), decide_eq_true (show s2.size ≤ 200 by omega), decide_eq_true (show s3.size ≤ 100 by omega), decide_eq_true (show t1.length ≤ 60 by omega), decide_eq_true (show t2.length ≤ 60 by omega)]
          simp only [Bool.true_and])
        clear hst
        go_wp2
        go_loop [6] (fun vj => ∃ j : Nat, vj = .int .i64 j ∧ j ≤ t1.length ∧ Hid (t1.all (fun x => decide (x.name.size ≤ 100)) = (t1.drop j).all fun x => decide (x.name.size ≤ 100))) (fun vj => t1.length - (intOf vj).toNat)
        case atStart => exact ⟨0, rfl, by omega, hid rfl⟩
        case round =>
          obtain ⟨j, rfl, hj, hJ⟩ := hrel
          by_cases hjt : j < t1.length
          · obtain ⟨b1, o1, rfl, hb1, hx1⟩ := HTC.out (by rintro rfl; simp at hjt)
            have z1 := (hx1 j hjt).2.1
            have hJs : Hid (t1.all (fun x => decide (x.name.size ≤ 100)) = (decide (t1[j].name.size ≤ 100) && (t1.drop (j + 1)).all fun x => decide (x.name.size ≤ 100))) := hid (by rw [hJ.out, List.drop_eq_getElem_cons hjt, List.all_cons])
            have hjl : (j : Int) < (t1.length : Int) := by omega
            clear hx1 hJ
            generalize t1[j].name = N1 at *
            by_cases gn : 100 < N1.size
            · have HZ : Hid (E.fewL l most = false) := hid (by rw [hst2.out, hJs.out, decide_eq_false (show ¬ N1.size ≤ 100 by omega)]; simp)
              go_wp2
              go_ret
              exact ⟨ret_bool HZ.out.symm, rfl⟩
            · have hJ2 : Hid (t1.all (fun x => decide (x.name.size ≤ 100)) = (t1.drop (j + 1)).all fun x => decide (x.name.size ≤ 100)) := hid (by rw [hJs.out, decide_eq_true (show N1.size ≤ 100 by omega), Bool.true_and])
              go_wp2
              go_round
              case rel => exact ⟨j + 1, by go_num, by omega, hJ2⟩
              case measure => simp [intOf]; omega
          · have hJ1 : Hid (t1.all (fun x => decide (x.name.size ≤ 100)) = true) := hid (by rw [hJ.out, List.drop_eq_nil_of_le (by omega)]; rfl)
            go_wp2
            go_loop [7] (fun vj => ∃ j : Nat, vj = .int .i64 j ∧ j ≤ t2.length ∧ Hid (t2.all (fun x => decide (x.name.size ≤ 100)) = (t2.drop j).all fun x => decide (x.name.size ≤ 100))) (fun vj => t2.length - (intOf vj).toNat)
            case atStart => exact ⟨0, rfl, by omega, hid rfl⟩
            case round =>
              obtain ⟨i, rfl, hi, hI⟩ := hrel
              by_cases hit : i < t2.length
              · obtain ⟨b2, o2, rfl, hb2, hx2⟩ := HUC.out (by rintro rfl; simp at hit)
                have z2 := (hx2 i hit).2.1
                have hIs : Hid (t2.all (fun x => decide (x.name.size ≤ 100)) = (decide (t2[i].name.size ≤ 100) && (t2.drop (i + 1)).all fun x => decide (x.name.size ≤ 100))) := hid (by rw [hI.out, List.drop_eq_getElem_cons hit, List.all_cons])
                have hil : (i : Int) < (t2.length : Int) := by omega
                clear hx2 hI
                generalize t2[i].name = N2 at *
                by_cases gn : 100 < N2.size
                · have HZ : Hid (E.fewL l most = false) := hid (by rw [hst2.out, hIs.out, decide_eq_false (show ¬ N2.size ≤ 100 by omega)]; simp)
                  go_wp2
                  go_ret
                  exact ⟨ret_bool HZ.out.symm, rfl⟩
                · have hI2 : Hid (t2.all (fun x => decide (x.name.size ≤ 100)) = (t2.drop (i + 1)).all fun x => decide (x.name.size ≤ 100)) := hid (by rw [hIs.out, decide_eq_true (show N2.size ≤ 100 by omega), Bool.true_and])
                  go_wp2
                  go_round
                  case rel => exact ⟨i + 1, by go_num, by omega, hI2⟩
                  case measure => simp [intOf]; omega
              · have HR : Hid (E.fewL l most = (decide (l.length ≤ most) && (l.drop (k + 1)).all E.fewP)) := hid (by rw [hst2.out, hJ1.out, hI.out, List.drop_eq_nil_of_le (show t2.length ≤ i by omega)]; rfl)
                go_wp2
                go_round
                case rel => exact ⟨k + 1, by go_num, by omega, by omega, HR⟩
                case measure => simp [intOf]; omega
    · obtain rfl : k = l.length := by omega
      go_wp2
      go_ret
      exact ⟨ret_bool (by rw [hE.out, List.drop_length, decide_eq_true hkm]; rfl), rfl⟩

end Go.Proofs.Ytmcdggjcpfkchaa
end

section
/-
  The walk of the reference's Right: it tells just what ast.Right does. Condition: a slice that reads as parts, names of at most 2000000 bytes.
-/
namespace Go.Proofs.Ytmcdggjcpfkchaa
open Go.RowKit

theorem afew_of {l : List E.Pt} (hl : l.length ≤ 10000) (h : l.all E.sound = true) : FewP l := ⟨by omega, fun x hx => by
  have hs := List.all_eq_true.1 h x hx
  have h1 := E.many_of_sound hs
  have h2 := E.many_bound hs
  exact ⟨h1.1, h1.2, h2.1, h2.2⟩⟩

theorem manyR_of_sound {p : E.Pt} (h : E.sound p = true) : E.many p = E.manyR p := by
  have hk := E.kind_bound h
  obtain ⟨k, lb, nm, bd, m, n, t, u⟩ := p
  simp only at hk
  rcases (by omega : k = 0 ∨ k = 1 ∨ k = 2 ∨ k = 3 ∨ k = 4 ∨ k = 5 ∨ k = 6 ∨ k = 7 ∨ k = 8 ∨ k = 9 ∨ k = 10 ∨ k = 11 ∨ k = 12 ∨ k = 13 ∨ k = 14) with rfl | rfl | rfl | rfl | rfl | rfl | rfl | rfl | rfl | rfl | rfl | rfl | rfl | rfl | rfl
  case inl =>
    have h1 := E.lit_eq ⟨0, lb, nm, bd, m, n, t, u⟩
    have h2 : E.litOK ⟨0, lb, nm, bd, m, n, t, u⟩ = true := h
    rw [h2] at h1
    have hm : m = 0 := of_decide_eq_true ((Bool.and_eq_true _ _).mp ((Bool.and_eq_true _ _).mp h1).1).2
    exact E.many_eq ⟨by simp, by simp⟩ (fun _ _ => hm) (by simp [hm])
  case inr.inr.inr.inr.inr.inr.inr.inl =>
    rw [sound_is_7] at h
    simp only [Bool.and_eq_true, decide_eq_true_eq] at h
    exact E.many_eq ⟨by simp, by simp⟩ (fun h7 => absurd rfl h7) (by simp; omega)
  case inr.inr.inr.inr.inr.inr.inr.inr.inr.inr.inl =>
    rw [sound_is_10] at h
    simp only [Bool.and_eq_true, decide_eq_true_eq] at h
    exact E.many_eq ⟨by simp, by simp⟩ (fun _ h7 => absurd rfl h7) (by simp; omega)
  all_goals first | rw [sound_is_1] at h | rw [sound_is_2] at h | rw [sound_is_3] at h | rw [sound_is_4] at h | rw [sound_is_5] at h | rw [sound_is_6] at h | rw [sound_is_8] at h | rw [sound_is_9] at h | rw [sound_is_11] at h | rw [sound_is_12] at h | rw [sound_is_13] at h | rw [sound_is_14] at h
  all_goals simp only [Bool.and_eq_true, decide_eq_true_eq] at h
  all_goals have hm : m = 0 := by first | exact h.2.2.1 | exact h.2.1.2 | exact h.2.2.1.2
  all_goals exact E.many_eq ⟨by simp, by simp⟩ (fun _ _ => hm) (by simp [hm])

set_option maxHeartbeats 4000000 in
set_option maxRecDepth 100000 in
theorem raright_any (l : List E.Pt) (hnm : ∀ x ∈ l, Small x) (v : Value) (w : World) (hx : RdP w w.heap.size v l) :
    Calls Try.prog 13 #[v] w fun e w' => e = .returned (.bool (E.rightL l)) ∧ Below w.heap.size w w' := by
  rw [← E.rightR_eq]
  have HX := hid hx
  have HNM := hid hnm
  obtain ⟨A, cap, rfl, hl1, hl2, hcx⟩ := hx
  unfold maxLen at hl2
  have HCX := hid hcx
  clear hcx hnm
  by_cases h0 : l = []
  · subst h0
    go_enter Try.func13, Try.ntmps13
    go_wp2
    go_ret
    exact ⟨rfl, Below.refl _ _⟩
  have hpos : 0 < l.length := List.length_pos_iff.2 h0
  have e0 : ((l.length : Int) == 0) = false := by simp; omega
  have hl0 : ∃ r, l = l[0] :: r := by
    cases l with
    | nil => exact absurd rfl h0
    | cons x r => exact ⟨r, rfl⟩
  have HR : Hid (E.rightR l = (decide (l.length ≤ 10000) && (E.bare l[0] && (l.all E.sound && (decide (E.eat 1 l = l.length) && (E.shal [] l && (List.range l.length).all (E.labR l))))))) := hid (by
    obtain ⟨r, hr⟩ := hl0
    generalize l[0] = y at hr ⊢
    subst hr
    rfl)
  clear hl0
  by_cases hbig : 10000 < l.length
  · have HZ : Hid (E.rightR l = false) := hid (by rw [HR.out]; simp; omega)
    go_enter Try.func13, Try.ntmps13
    go_wp2
    go_ret
    exact ⟨ret_bool HZ.out.symm, Below.refl _ _⟩
  have hbig2 : l.length ≤ 10000 := by omega
  obtain ⟨b, o, rfl, hb, hcx⟩ := HCX.out h0
  obtain ⟨vt0, vu0, x0, x1, -⟩ := hcx 0 hpos
  clear hcx
  simp only [Nat.zero_mul, Nat.add_zero] at x0 x1
  generalize l[0] = X at *
  obtain ⟨k1, s1, a2, a3, a4, a5, a6, a7⟩ := X
  simp only at x0 x1
  have he := eqS s1 ⟨#[]⟩
  by_cases hs0 : s1.size = 0
  case neg =>
    have HZ : Hid (E.rightR l = false) := hid (by rw [HR.out]; unfold E.bare; simp only; rw [decide_eq_false (fun h => hs0 (E.size_iff.1 h))]; simp)
    have hne := ne_empty (show 0 < s1.size by omega)
    clear he
    go_enter Try.func13, Try.ntmps13
    go_wp2
    go_ret
    exact ⟨ret_bool HZ.out.symm, Below.refl _ _⟩
  case pos =>
    have hne := is_empty hs0
    clear he
    by_cases h9 : k1 = 8
    · have HZ : Hid (E.rightR l = false) := hid (by rw [HR.out]; unfold E.bare; simp only; rw [decide_eq_false (show ¬ k1 ≠ 8 by omega)]; simp)
      have z9 : (k1 == 8) = true := by simp [h9]
      clear h9
      go_enter Try.func13, Try.ntmps13
      go_wp2
      go_ret
      exact ⟨ret_bool HZ.out.symm, Below.refl _ _⟩
    have z9 : (k1 == 8) = false := by simp; omega
    have HR2 : Hid (E.rightR l = (l.all E.sound && (decide (E.eat 1 l = l.length) && (E.shal [] l && (List.range l.length).all (E.labR l))))) := hid (by rw [HR.out]; unfold E.bare; simp only; rw [decide_eq_true (E.size_iff.2 hs0), decide_eq_true (show k1 ≠ 8 from h9), decide_eq_true hbig2]; simp)
    clear hs0 h9
    go_enter Try.func13, Try.ntmps13
    go_wp2
    go_loopw [3] (fun vi wr => ∃ k : Nat, vi = .int .i64 k ∧ k ≤ l.length ∧ Below w.heap.size w wr ∧ Hid (∀ (j : Nat) (h : j < l.length), j < k → E.sound l[j] = true)) (fun vi _ => l.length - (intOf vi).toNat)
    case atStart => exact ⟨0, rfl, by omega, Below.refl _ _, hid fun j _ h => by omega⟩
    case round =>
      obtain ⟨k, rfl, hk, hB, hS⟩ := hrel
      have hbw := hB.size
      by_cases hlt : k < l.length
      · obtain ⟨b', o', hA, hb', hcx⟩ := HCX.out h0
        simp only [Option.some.injEq, Addr.mk.injEq, and_true] at hA
        obtain ⟨rfl, rfl⟩ := hA
        obtain ⟨vt, vu, y0, y1, y2, y3, y4, y5, y6, y7, yt, yu⟩ := hcx k hlt
        obtain ⟨A1, c1, rfl⟩ : ∃ A1 c1, vt = .slice A1 l[k].t.length c1 := by obtain ⟨A1, c1, h, -⟩ := yt; exact ⟨A1, c1, h⟩
        obtain ⟨A2, c2, rfl⟩ : ∃ A2 c2, vu = .slice A2 l[k].u.length c2 := by obtain ⟨A2, c2, h, -⟩ := yu; exact ⟨A2, c2, h⟩
        have ey : ∀ j, wr.cell? ⟨b, j, none⟩ = w.cell? ⟨b, j, none⟩ := fun j => hB.cell (p := ⟨b, j, none⟩) hb
        rw [← ey] at y0 y1 y2 y3 y4 y5 y6 y7
        have hsm := HNM.out _ (List.getElem_mem hlt)
        have HU := hid (ruses_any l[k] hsm.1 hsm.2.1 hsm.2.2.2.1 (fun x hx => Nat.le_trans (hsm.2.2.2.2 x hx) (by omega)) A1 A2 c1 c2 wr ((yt.below hB).size) ((yu.below hB).size))
        have HNX : Hid (∀ b, E.sound l[k] = b → (b = false → E.rightR l = false)) := hid fun b hb' hbf => by
          rw [HR2.out]
          have : l.all E.sound = false := by
            rw [List.all_eq_false]
            exact ⟨_, List.getElem_mem hlt, by rw [hb', hbf]; simp⟩
          rw [this]
          rfl
        have HNY : Hid (E.sound l[k] = true → ∀ (j : Nat) (h : j < l.length), j < k + 1 → E.sound l[j] = true) := hid fun hh j hj hjk => by
          rcases Nat.lt_or_ge j k with h | h
          · exact hS.out j hj h
          · have : j = k := by omega
            subst this
            exact hh
        clear hcx ey yt yu hsm
        generalize l[k] = Y at *
        obtain ⟨k2, s2, q2, q3, q4, q5, q6, q7⟩ := Y
        unfold partV at HU
        simp only at HU y0 y1 y2 y3 y4 y5 y6 y7
        cases hnum : E.sound ⟨k2, s2, q2, q3, q4, q5, q6, q7⟩ with
        | false =>
          rw [hnum] at HU
          have HZ := hid (HNX.out _ hnum rfl)
          go_wp2_with fail
          refine (HU.out).mono ?_
          rintro e w1 ⟨rfl, hb1⟩
          go_wp2
          go_ret
          exact ⟨ret_bool HZ.out.symm, hB.trans (hb1.mono hbw)⟩
        | true =>
          rw [hnum] at HU
          have HZ := hid (HNY.out hnum)
          go_wp2_with fail
          refine (HU.out).mono ?_
          rintro e w1 ⟨rfl, hb1⟩
          go_wp2
          go_roundw
          case rel => exact ⟨k + 1, by go_num, by omega, hB.trans (hb1.mono hbw), HZ⟩
          case measure => simp [intOf]; omega
      · obtain rfl : k = l.length := by omega
        have hall : l.all E.sound = true := by
          rw [List.all_eq_true]
          intro x hx
          obtain ⟨j, hj, rfl⟩ := List.getElem_of_mem hx
          exact hS.out j hj hj
        have hF := hid (afew_of hbig2 hall)
        have hRR := hid (fun x (hx : x ∈ l) => manyR_of_sound (List.all_eq_true.1 hall x hx))
        have HR3 : Hid (E.rightR l = (decide (E.eat 1 l = l.length) && (E.shal [] l && (List.range l.length).all (E.labR l)))) := hid (by rw [HR2.out, hall]; rfl)
        have HXR := hid (HX.out.below hB)
        have HEN := hid (rend_any l hF.out hRR.out _ 0 hpos wr HXR.out)
        rw [List.drop_zero, Nat.zero_add] at HEN
        clear hall
        by_cases heat : E.eat 1 l = l.length
        case neg =>
          have HZ : Hid (E.rightR l = false) := hid (by rw [HR3.out]; simp [heat])
          have hez : ((E.eat 1 l : Int) != (l.length : Int)) = true := by simp; omega
          generalize E.eat 1 l = E at *
          go_wp2_with fail
          refine (HEN.out).mono ?_
          rintro e w1 ⟨rfl, hb1⟩
          go_wp2
          go_ret
          exact ⟨ret_bool HZ.out.symm, hB.trans (hb1.mono hbw)⟩
        case pos =>
          have HR4 : Hid (E.rightR l = (E.shal [] l && (List.range l.length).all (E.labR l))) := hid (by rw [HR3.out]; simp [heat])
          rw [heat] at HEN
          have HSH := hid fun W hW => ashallow_any l hF.out hRR.out (.slice (some ⟨b, o, none⟩) l.length cap) W hW
          clear heat
          cases hsh : E.shal [] l with
          | false =>
            rw [hsh] at HSH
            have HZ : Hid (E.rightR l = false) := hid (by rw [HR4.out, hsh]; rfl)
            go_wp2_with fail
            refine (HEN.out).mono ?_
            rintro e w1 ⟨rfl, hb1⟩
            have hB1 : Below w.heap.size w w1 := hB.trans (hb1.mono hbw)
            have HS1 := hid (HSH.out w1 (HX.out.below hB1))
            go_wp2_with fail
            refine (HS1.out).mono ?_
            rintro e w2 ⟨rfl, hb2⟩
            go_wp2
            go_ret
            exact ⟨ret_bool HZ.out.symm, hB1.trans (hb2.mono hB1.size)⟩
          | true =>
            rw [hsh] at HSH
            have HR5 : Hid (E.rightR l = (List.range l.length).all (E.labR l)) := hid (by rw [HR4.out, hsh]; rfl)
            clear hsh
            go_wp2_with fail
            refine (HEN.out).mono ?_
            rintro e w1 ⟨rfl, hb1⟩
            have hB1 : Below w.heap.size w w1 := hB.trans (hb1.mono hbw)
            have HS1 := hid (HSH.out w1 (HX.out.below hB1))
            go_wp2_with fail
            refine (HS1.out).mono ?_
            rintro e w2 ⟨rfl, hb2⟩
            have hB2 : Below w.heap.size w w2 := hB1.trans (hb2.mono hB1.size)
            clear hb1 hb2 hB1
            go_wp2
            go_loopw [4] (fun vi wr => ∃ k : Nat, vi = .int .i64 k ∧ k ≤ l.length ∧ Below w.heap.size w wr ∧ Hid (∀ j, j < k → E.labR l j = true)) (fun vi _ => l.length - (intOf vi).toNat)
            case atStart => exact ⟨0, rfl, by omega, hB2, hid fun j h => by omega⟩
            case round =>
              obtain ⟨k, rfl, hk, hB3, hS3⟩ := hrel
              have hbw3 := hB3.size
              by_cases hlt : k < l.length
              · have HLB := hid (alabelled_any l hF.out hRR.out (fun x hx => (HNM.out x hx).2.2.1) k hlt _ _ (HX.out.below hB3))
                cases hlb : E.labR l k with
                | false =>
                  rw [hlb] at HLB
                  have HZ : Hid (E.rightR l = false) := hid (by
                    rw [HR5.out, List.all_eq_false]
                    exact ⟨k, by simpa using hlt, by rw [hlb]; simp⟩)
                  go_wp2_with fail
                  refine (HLB.out).mono ?_
                  rintro e w3 ⟨rfl, hb3⟩
                  go_wp2
                  go_ret
                  exact ⟨ret_bool HZ.out.symm, hB3.trans (hb3.mono hbw3)⟩
                | true =>
                  rw [hlb] at HLB
                  have HZ : Hid (∀ j, j < k + 1 → E.labR l j = true) := hid fun j hj => by
                    rcases Nat.lt_or_ge j k with h | h
                    · exact hS3.out j h
                    · have : j = k := by omega
                      subst this
                      exact hlb
                  clear hlb
                  go_wp2_with fail
                  refine (HLB.out).mono ?_
                  rintro e w3 ⟨rfl, hb3⟩
                  go_wp2
                  go_roundw
                  case rel => exact ⟨k + 1, by go_num, by omega, hB3.trans (hb3.mono hbw3), HZ⟩
                  case measure => simp [intOf]; omega
              · obtain rfl : k = l.length := by omega
                have HZ : Hid (E.rightR l = true) := hid (by
                  rw [HR5.out, List.all_eq_true]
                  exact fun j hj => hS3.out j (by simpa using hj))
                go_wp2
                go_ret
                exact ⟨ret_bool HZ.out.symm, hB3⟩

end Go.Proofs.Ytmcdggjcpfkchaa
end
