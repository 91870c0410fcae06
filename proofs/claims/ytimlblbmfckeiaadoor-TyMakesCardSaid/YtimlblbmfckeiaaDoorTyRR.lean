/-
  The walk of the reference's Right: it tells just what ty.Right does. Condition: a slice that reads as nodes, labels of at most 2000000 bytes.
-/
import Derived.Test.YtimlblbmfckeiaaDoorTyJ
namespace Go.Proofs.YtimlblbmfckeiaaDoor
open Go.RowKit

theorem few_of {l : List L.Nd} (hl : l.length ≤ 10000) (h : l.all L.numbered = true) : Few l := ⟨by omega, fun x hx => L.many_of_numbered (List.all_eq_true.1 h x hx)⟩

set_option maxHeartbeats 4000000 in
set_option maxRecDepth 100000 in
theorem refRight_any (l : List L.Nd) (hnm : ∀ x ∈ l, x.name.size ≤ 2000000) (v : Value) (w : World) (hx : Rd w w.heap.size v l) :
    Calls Tryd.prog 7 #[v] w fun e w' => e = .returned (.bool (L.rightL l)) ∧ Below w.heap.size w w' := by
  rw [← L.rightR_eq]
  have HX := hid hx
  have HNM := hid hnm
  obtain ⟨A, cap, rfl, hl1, hl2, -, hcx⟩ := hx
  unfold maxLen at hl2
  have HCX := hid hcx
  clear hcx hnm
  by_cases h0 : l = []
  · subst h0
    go_enter Tryd.func7, Tryd.ntmps7
    go_wp2
    go_ret
    exact ⟨rfl, Below.refl _ _⟩
  have hpos : 0 < l.length := List.length_pos_iff.2 h0
  have e0 : ((l.length : Int) == 0) = false := by simp; omega
  have hl0 : ∃ r, l = l[0] :: r := by
    cases l with
    | nil => exact absurd rfl h0
    | cons x r => exact ⟨r, rfl⟩
  have HR : Hid (L.rightR l = (decide (l.length ≤ 10000) && (L.bare l[0] && (l.all L.numbered && (decide (L.eat 1 l = l.length) && (L.shal [] l && (List.range l.length).all (L.labR l))))))) := hid (by
    obtain ⟨r, hr⟩ := hl0
    generalize l[0] = y at hr ⊢
    subst hr
    rfl)
  clear hl0
  by_cases hbig : 10000 < l.length
  · have HZ : Hid (L.rightR l = false) := hid (by rw [HR.out]; simp; omega)
    go_enter Tryd.func7, Tryd.ntmps7
    go_wp2
    go_ret
    exact ⟨ret_bool HZ.out.symm, Below.refl _ _⟩
  have hbig2 : l.length ≤ 10000 := by omega
  obtain ⟨b, o, rfl, hb, hcx⟩ := HCX.out h0
  obtain ⟨x0, x1, x2⟩ := hcx 0 hpos
  clear hcx
  simp only [Nat.zero_mul, Nat.add_zero] at x0 x1 x2
  generalize l[0] = X at *
  obtain ⟨k1, s1, n1⟩ := X
  have he := eqS s1 ⟨#[]⟩
  by_cases hs0 : s1.size = 0
  case neg =>
    have HZ : Hid (L.rightR l = false) := hid (by rw [HR.out]; simp [L.bare, hs0])
    have hne := ne_empty (show 0 < s1.size by omega)
    clear he
    go_enter Tryd.func7, Tryd.ntmps7
    go_wp2
    go_ret
    exact ⟨ret_bool HZ.out.symm, Below.refl _ _⟩
  case pos =>
    have hne := is_empty hs0
    clear he
    by_cases h9 : k1 = 9
    · have HZ : Hid (L.rightR l = false) := hid (by rw [HR.out]; simp [L.bare, h9])
      have z9 : (k1 == 9) = true := by simp [h9]
      clear h9
      go_enter Tryd.func7, Tryd.ntmps7
      go_wp2
      go_ret
      exact ⟨ret_bool HZ.out.symm, Below.refl _ _⟩
    have z9 : (k1 == 9) = false := by simp; omega
    have HR2 : Hid (L.rightR l = (l.all L.numbered && (decide (L.eat 1 l = l.length) && (L.shal [] l && (List.range l.length).all (L.labR l))))) := hid (by rw [HR.out]; simp [L.bare, hs0, h9, hbig2])
    clear hs0 h9
    go_enter Tryd.func7, Tryd.ntmps7
    go_wp2
    go_loopw [3] (fun vi wr => ∃ k : Nat, vi = .int .i64 k ∧ k ≤ l.length ∧ Below w.heap.size w wr ∧ Hid (∀ (j : Nat) (h : j < l.length), j < k → L.numbered l[j] = true)) (fun vi _ => l.length - (intOf vi).toNat)
    case atStart => exact ⟨0, rfl, by omega, Below.refl _ _, hid fun j _ h => by omega⟩
    case round =>
      obtain ⟨k, rfl, hk, hB, hS⟩ := hrel
      have hbw := hB.size
      by_cases hlt : k < l.length
      · obtain ⟨b', o', hA, hb', hcx⟩ := HCX.out h0
        simp only [Option.some.injEq, Addr.mk.injEq, and_true] at hA
        obtain ⟨rfl, rfl⟩ := hA
        obtain ⟨y0, y1, y2⟩ := hcx k hlt
        have ey : ∀ j, wr.cell? ⟨b, j, none⟩ = w.cell? ⟨b, j, none⟩ := fun j => hB.cell (p := ⟨b, j, none⟩) hb
        rw [← ey] at y0 y1 y2
        have HNX : Hid (∀ b, L.numbered l[k] = b → (b = false → L.rightR l = false)) := hid fun b hb' hbf => by
          rw [HR2.out]
          have : l.all L.numbered = false := by
            rw [List.all_eq_false]
            exact ⟨_, List.getElem_mem hlt, by rw [hb', hbf]; simp⟩
          rw [this]
          rfl
        have HNY : Hid (L.numbered l[k] = true → ∀ (j : Nat) (h : j < l.length), j < k + 1 → L.numbered l[j] = true) := hid fun hh j hj hjk => by
          rcases Nat.lt_or_ge j k with h | h
          · exact hS.out j hj h
          · have : j = k := by omega
            subst this
            exact hh
        clear hcx ey
        generalize l[k] = Y at *
        obtain ⟨k2, s2, n2⟩ := Y
        have HU := hid (refNumbered_any k2 n2 s2 wr)
        cases hnum : L.numbered ⟨k2, s2, n2⟩ with
        | false =>
          rw [hnum] at HU
          have HZ := hid (HNX.out _ hnum rfl)
          go_wp2_with fail
          refine (HU.out).mono ?_
          rintro e w1 ⟨rfl, hb1⟩
          go_wp2
          go_ret
          exact ⟨ret_bool HZ.out.symm, hB.trans (hb1.mono hbw)⟩
        | true =>
          rw [hnum] at HU
          have HZ := hid (HNY.out hnum)
          go_wp2_with fail
          refine (HU.out).mono ?_
          rintro e w1 ⟨rfl, hb1⟩
          go_wp2
          go_roundw
          case rel => exact ⟨k + 1, by go_num, by omega, hB.trans (hb1.mono hbw), HZ⟩
          case measure => simp [intOf]; omega
      · obtain rfl : k = l.length := by omega
        have hall : l.all L.numbered = true := by
          rw [List.all_eq_true]
          intro x hx
          obtain ⟨j, hj, rfl⟩ := List.getElem_of_mem hx
          exact hS.out j hj hj
        have hF := hid (few_of hbig2 hall)
        have HR3 : Hid (L.rightR l = (decide (L.eat 1 l = l.length) && (L.shal [] l && (List.range l.length).all (L.labR l)))) := hid (by rw [HR2.out, hall]; rfl)
        have HXR := hid ((HX.out.below hB).size)
        have HEN := hid (refEnd_any l hF.out _ 0 hpos wr HXR.out)
        rw [List.drop_zero, Nat.zero_add] at HEN
        clear hall
        by_cases heat : L.eat 1 l = l.length
        case neg =>
          have HZ : Hid (L.rightR l = false) := hid (by rw [HR3.out]; simp [heat])
          have hez : ((L.eat 1 l : Int) != (l.length : Int)) = true := by simp; omega
          generalize L.eat 1 l = E at *
          go_wp2_with fail
          refine (HEN.out).mono ?_
          rintro e w1 ⟨rfl, hb1⟩
          go_wp2
          go_ret
          exact ⟨ret_bool HZ.out.symm, hB.trans (hb1.mono hbw)⟩
        case pos =>
          have HR4 : Hid (L.rightR l = (L.shal [] l && (List.range l.length).all (L.labR l))) := hid (by rw [HR3.out]; simp [heat])
          rw [heat] at HEN
          have HSH := hid fun W hW => shallow_any l hF.out (.slice (some ⟨b, o, none⟩) l.length cap) W hW
          clear heat
          cases hsh : L.shal [] l with
          | false =>
            rw [hsh] at HSH
            have HZ : Hid (L.rightR l = false) := hid (by rw [HR4.out, hsh]; rfl)
            go_wp2_with fail
            refine (HEN.out).mono ?_
            rintro e w1 ⟨rfl, hb1⟩
            have hB1 : Below w.heap.size w w1 := hB.trans (hb1.mono hbw)
            have HS1 := hid (HSH.out w1 ((HX.out.below hB1).size))
            go_wp2_with fail
            refine (HS1.out).mono ?_
            rintro e w2 ⟨rfl, hb2⟩
            go_wp2
            go_ret
            exact ⟨ret_bool HZ.out.symm, hB1.trans (hb2.mono hB1.size)⟩
          | true =>
            rw [hsh] at HSH
            have HR5 : Hid (L.rightR l = (List.range l.length).all (L.labR l)) := hid (by rw [HR4.out, hsh]; rfl)
            clear hsh
            go_wp2_with fail
            refine (HEN.out).mono ?_
            rintro e w1 ⟨rfl, hb1⟩
            have hB1 : Below w.heap.size w w1 := hB.trans (hb1.mono hbw)
            have HS1 := hid (HSH.out w1 ((HX.out.below hB1).size))
            go_wp2_with fail
            refine (HS1.out).mono ?_
            rintro e w2 ⟨rfl, hb2⟩
            have hB2 : Below w.heap.size w w2 := hB1.trans (hb2.mono hB1.size)
            clear hb1 hb2 hB1
            go_wp2
            go_loopw [4] (fun vi wr => ∃ k : Nat, vi = .int .i64 k ∧ k ≤ l.length ∧ Below w.heap.size w wr ∧ Hid (∀ j, j < k → L.labR l j = true)) (fun vi _ => l.length - (intOf vi).toNat)
            case atStart => exact ⟨0, rfl, by omega, hB2, hid fun j h => by omega⟩
            case round =>
              obtain ⟨k, rfl, hk, hB3, hS3⟩ := hrel
              have hbw3 := hB3.size
              by_cases hlt : k < l.length
              · have HLB := hid (labelled_ref l hF.out HNM.out k hlt _ _ ((HX.out.below hB3).size))
                cases hlb : L.labR l k with
                | false =>
                  rw [hlb] at HLB
                  have HZ : Hid (L.rightR l = false) := hid (by
                    rw [HR5.out, List.all_eq_false]
                    exact ⟨k, by simpa using hlt, by rw [hlb]; simp⟩)
                  go_wp2_with fail
                  refine (HLB.out).mono ?_
                  rintro e w3 ⟨rfl, hb3⟩
                  go_wp2
                  go_ret
                  exact ⟨ret_bool HZ.out.symm, hB3.trans (hb3.mono hbw3)⟩
                | true =>
                  rw [hlb] at HLB
                  have HZ : Hid (∀ j, j < k + 1 → L.labR l j = true) := hid fun j hj => by
                    rcases Nat.lt_or_ge j k with h | h
                    · exact hS3.out j h
                    · have : j = k := by omega
                      subst this
                      exact hlb
                  clear hlb
                  go_wp2_with fail
                  refine (HLB.out).mono ?_
                  rintro e w3 ⟨rfl, hb3⟩
                  go_wp2
                  go_roundw
                  case rel => exact ⟨k + 1, by go_num, by omega, hB3.trans (hb3.mono hbw3), HZ⟩
                  case measure => simp [intOf]; omega
              · obtain rfl : k = l.length := by omega
                have HZ : Hid (L.rightR l = true) := hid (by
                  rw [HR5.out, List.all_eq_true]
                  exact fun j hj => hS3.out j (by simpa using hj))
                go_wp2
                go_ret
                exact ⟨ret_bool HZ.out.symm, hB3⟩

end Go.Proofs.YtimlblbmfckeiaaDoor
