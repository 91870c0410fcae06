/-
  The walk of the reference's labelled. Conditions: at most 20000 nodes, each of which has from 0 to 50 children, labels of at most 2000000 bytes.
-/
import Derived.Test.YtimlblbmfckeiaaDoorTyI
import Derived.BigQuiet
namespace Go.Proofs.YtimlblbmfckeiaaDoor.L
open Go

theorem stand_step {l : List Nd} {x : Nd} {k : Nat} {b : ByteArray} {ks : List Nat} {j : Nat} (h : j < ks.length) : standAt l x k b (ks.drop j) = (mayStand x k b (l.getD ks[j] default) && standAt l x (k + 1) (l.getD ks[j] default).name (ks.drop (j + 1))) := by
  rw [List.drop_eq_getElem_cons h, standAt]

theorem kidsL_lt (l : List Nd) : ∀ (c p : Nat), ∀ q ∈ kidsL l c p, q < l.length := by
  intro c
  induction c with
  | zero => intro p q h; simp [kidsL] at h
  | succ c ih =>
    intro p q h
    rw [kidsL] at h
    split at h
    · rename_i hp
      rcases List.mem_cons.1 h with rfl | h
      · exact hp
      · exact ih _ q h
    · simp at h

theorem many_pos {x : Nd} (h : 0 < many x) : x.kind = 5 ∨ ((x.kind = 6 ∨ x.kind = 7) ∧ many x = x.n) := by
  unfold many at h ⊢
  split at h
  · exact Or.inl (by assumption)
  · split at h
    · rename_i h5 h6
      exact Or.inr ⟨h6, by rw [if_neg h5, if_pos h6]⟩
    · omega

theorem label_ne {kind : Int} {s : ByteArray} (h : isLabel kind s = true) : 0 < s.size := by
  simp only [isLabel, Bool.or_eq_true, Bool.and_eq_true, nameB, decide_eq_true_eq] at h
  rcases h with h | h
  · exact h.2.1
  · exact h.2.1

theorem ltB_empty {s : ByteArray} (h : 0 < s.size) : ltB ⟨#[]⟩ s = true := by
  unfold ltB
  rw [Lib.toList_data, Lib.toList_data]
  show Op.bytesLess [] s.data.toList = true
  cases hs : s.data.toList with
  | nil =>
    have : s.data.toList.length = s.size := by simp
    rw [hs] at this
    simp at this
    omega
  | cons a r => rfl

end Go.Proofs.YtimlblbmfckeiaaDoor.L
namespace Go.Proofs.YtimlblbmfckeiaaDoor
open Go.RowKit

theorem RdI.cell {w : World} {v : Value} {ks : List Nat} (h : RdI w v ks) (hn : 0 < ks.length) : ∃ g cap, v = .slice (some ⟨g, 0, none⟩) ks.length cap ∧ g < w.heap.size ∧ ∀ (i : Nat) (h : i < ks.length), w.cell? ⟨g, i, none⟩ = some (.int .i64 ((ks[i] : Nat) : Int)) := by
  obtain ⟨A, cap, hv, hc⟩ := h
  obtain ⟨g, hA, hg, hx⟩ := hc (List.length_pos_iff.1 hn)
  subst hA
  exact ⟨g, cap, hv, hg, hx⟩

set_option maxHeartbeats 40000000 in
set_option maxRecDepth 100000 in
theorem labelled_ref (l : List L.Nd) (hF : Few l) (hnm : ∀ x ∈ l, x.name.size ≤ 2000000) (i : Nat) (hil : i < l.length) (v : Value) (w : World) (hx : Rd w w.heap.size v l) :
    Calls Tryd.prog 28 #[v, .int .i64 i] w fun e w' => e = .returned (.bool (L.labR l i)) ∧ Below w.heap.size w w' := by
  have hgd : l.getD i default = l[i] := by simp [List.getD, hil]
  have HLR : Hid (L.labR l i = (decide ((L.kidsL l (L.many l[i]).toNat (i + 1)).length = (L.many l[i]).toNat) && L.standAt l l[i] 0 ⟨#[]⟩ (L.kidsL l (L.many l[i]).toNat (i + 1)))) := hid (by unfold L.labR; rw [hgd])
  have HKD := hid (refKids_any l hF v i hil w hx)
  have HX := hid hx
  have HNM := hid hnm
  obtain ⟨A, cap, rfl, hl1, hl2, -, hcx0⟩ := hx
  obtain ⟨b, o, hA, hb, hcx⟩ := hcx0 (by rintro rfl; simp at hil)
  subst hA
  unfold maxLen at hl2
  obtain ⟨hl, hM⟩ := hF
  obtain ⟨x0, x1, x2⟩ := hcx i hil
  have HCX := hid hcx
  have X0 := hid x0
  have X1 := hid x1
  have X2 := hid x2
  have hm := hM _ (List.getElem_mem hil)
  have hkl := L.kidsL_lt l (L.many l[i]).toNat (i + 1)
  have hkn := L.kidsL_length_le l (L.many l[i]).toNat (i + 1)
  have HKL := hid hkl
  clear hcx0 hcx hM x0 x1 x2 hkl hnm hgd
  generalize L.kidsL l (L.many l[i]).toNat (i + 1) = ks at *
  generalize l[i] = X at *
  obtain ⟨k1, s1, n1⟩ := X
  have hmn := refMany_any k1 n1 s1
  obtain ⟨c, hc⟩ : ∃ c : Nat, L.many ⟨k1, s1, n1⟩ = c := ⟨(L.many ⟨k1, s1, n1⟩).toNat, by omega⟩
  have HMC := hid hc
  rw [hc] at hmn hm hkn HLR
  rw [Int.toNat_natCast] at hkn HLR
  have HMN := hid hmn
  clear hmn hc
  by_cases hlen : ks.length = c
  case neg =>
    have hlz : ((ks.length : Int) != (c : Int)) = true := by simp; omega
    have HZ : Hid (L.labR l i = false) := hid (by rw [HLR.out]; simp [hlen])
    go_enter Tryd.func28, Tryd.ntmps28
    go_wp2_with fail
    refine (HKD.out).mono ?_
    rintro e w1 ⟨v5, rfl, hO, hb1⟩
    obtain ⟨A5, c5, rfl, -⟩ := hO.rd
    have x0 := (hb1.cell (p := ⟨b, o + i * 3, none⟩) hb).trans X0.out
    have x1 := (hb1.cell (p := ⟨b, o + i * 3 + 1, none⟩) hb).trans X1.out
    have x2 := (hb1.cell (p := ⟨b, o + i * 3 + 2, none⟩) hb).trans X2.out
    clear hO
    go_wp2_with fail
    refine (HMN.out _).mono ?_
    rintro e w2 ⟨rfl, hb2⟩
    go_wp2
    go_ret
    exact ⟨ret_bool HZ.out.symm, hb1.trans (hb2.mono hb1.size)⟩
  case pos =>
    have HLR2 : Hid (L.labR l i = L.standAt l ⟨k1, s1, n1⟩ 0 ⟨#[]⟩ ks) := hid (by rw [HLR.out, hlen]; simp)
    have HLEN := hid hlen
    have hlz : ((ks.length : Int) != (c : Int)) = false := by simp; omega
    clear hlen
    go_enter Tryd.func28, Tryd.ntmps28
    go_wp2_with fail
    refine (HKD.out).mono ?_
    rintro e w1 ⟨v5, rfl, hO, hb1⟩
    have HRI := hid hO.rd
    obtain ⟨A5, c5, rfl, -⟩ := hO.rd
    have x0 := (hb1.cell (p := ⟨b, o + i * 3, none⟩) hb).trans X0.out
    have x1 := (hb1.cell (p := ⟨b, o + i * 3 + 1, none⟩) hb).trans X1.out
    have x2 := (hb1.cell (p := ⟨b, o + i * 3 + 2, none⟩) hb).trans X2.out
    clear hO
    go_wp2_with fail
    refine (HMN.out _).mono ?_
    rintro e w2 ⟨rfl, hb2⟩
    have hB2 : Below w.heap.size w w2 := hb1.trans (hb2.mono hb1.size)
    have HRI2 := hid (HRI.out.below hb2)
    clear x0 x1 x2 hb2
    go_wp2
    go_loopw [6] (fun vk wr => ∃ (k : Nat) (bf : ByteArray), vk = .int .i64 k ∧ k ≤ ks.length ∧ Below w.heap.size w wr ∧ RdI wr (.slice A5 ks.length c5) ks ∧ Hid (k = 0 ∧ bf = ⟨#[]⟩ ∨ ∃ h : k - 1 < ks.length, 0 < k ∧ bf = (l.getD ks[k - 1] default).name) ∧ Hid (L.standAt l ⟨k1, s1, n1⟩ k bf (ks.drop k) = L.labR l i)) (fun vk _ => ks.length - (intOf vk).toNat)
    case atStart => exact ⟨0, ⟨#[]⟩, rfl, by omega, hB2, HRI2.out, hid (Or.inl ⟨rfl, rfl⟩), hid (by rw [HLR2.out]; rfl)⟩
    case round =>
      obtain ⟨k, bf, rfl, hk, hB, hR, hbf, hE⟩ := hrel
      have HR := hid hR
      by_cases hlt : k < ks.length
      · obtain ⟨g, c6, hv6, hg, hcell⟩ := hR.cell (by omega)
        simp only [Value.slice.injEq, true_and] at hv6
        obtain ⟨rfl, rfl⟩ := hv6
        have hq : ks[k] < l.length := HKL.out _ (List.getElem_mem hlt)
        have cq := hcell k hlt
        have HCELL := hid hcell
        obtain ⟨y0, y1, y2⟩ := HCX.out ks[k] hq
        have ey : ∀ j, wr.cell? ⟨b, j, none⟩ = w.cell? ⟨b, j, none⟩ := fun j => hB.cell (p := ⟨b, j, none⟩) hb
        rw [← ey] at y0 y1 y2
        have x0 := (ey (o + i * 3)).trans X0.out
        have EY := hid ey
        have hny := HNM.out _ (List.getElem_mem hq)
        have hST : Hid (L.labR l i = (L.mayStand ⟨k1, s1, n1⟩ k bf (l[ks[k]]'hq) && L.standAt l ⟨k1, s1, n1⟩ (k + 1) (l[ks[k]]'hq).name (ks.drop (k + 1)))) := hid (by
          have hgy : l.getD ks[k] default = l[ks[k]]'hq := by simp [List.getD, hq]
          rw [← hE.out, L.stand_step hlt, hgy])
        have HNB : Hid ((l.getD ks[k] default).name = (l[ks[k]]'hq).name) := hid (by simp [List.getD, hq])
        have hqz : (ks[k] : Int) < (l.length : Int) := by omega
        have hbw := hB.size
        have hbr : b < wr.heap.size := by omega
        have hbne : b ≠ wr.heap.size := by omega
        have hgne : g ≠ wr.heap.size := by omega
        have hc50 : ks.length ≤ 50 := by have := HLEN.out; omega
        have hcpos : 0 < L.many ⟨k1, s1, n1⟩ := by have := HLEN.out; have := HMC.out; omega
        have hkd := L.many_pos hcpos
        have hBN : ∀ cs, Below w.heap.size w (wr.alloc (.cells cs 44)) := fun cs => hB.trans ((below_new _).mono hbw)
        have HBN := hid hBN
        have HRN : Hid (∀ cs, RdI (wr.alloc (.cells cs 44)) (.slice (some ⟨g, 0, none⟩) ks.length c5) ks) := hid fun cs => HR.out.below (below_new _)
        have HKQ := hid (show ∀ h : k + 1 - 1 < ks.length, ks[k + 1 - 1] = ks[k] from fun _ => rfl)
        clear hR hcell ey hBN hcpos
        generalize hY : l[ks[k]]'hq = Y at *
        obtain ⟨k2, s2, n2⟩ := Y
        have HY := hid hY
        clear hY
        generalize hQ : ks[k] = Q at *
        have HQ := hid hQ
        clear hQ
        have HKD2 : Hid (k1 = 5 ∨ ((k1 = 6 ∨ k1 = 7) ∧ n1 = (ks.length : Int))) := hid (by
          rcases hkd with h | ⟨h, h2⟩
          · exact Or.inl h
          · right; refine ⟨h, ?_⟩; have := HMC.out; have := HLEN.out; simp only at h2; omega)
        clear hkd
        by_cases h5 : k1 = 5
        · have z6 : (k1 == 6) = false := by simp; omega
          have z7 : (k1 == 7) = false := by simp; omega
          by_cases h9 : k2 = 9
          · have z9 : (k2 == 9) = true := by simp [h9]
            have HM : Hid (L.mayStand ⟨k1, s1, n1⟩ k bf ⟨k2, s2, n2⟩ = false) := hid (by simp [L.mayStand, h5, L.bare, h9])
            clear h5 h9
            go_wp2
            go_ret
            exact ⟨ret_bool (by rw [hST.out, HM.out]; rfl), HBN.out _⟩
          · have z9 : (k2 == 9) = false := by simp; omega
            by_cases h0 : s2.size = 0
            · have ze := is_empty h0
              have HM : Hid (L.mayStand ⟨k1, s1, n1⟩ k bf ⟨k2, s2, n2⟩ = true) := hid (by simp [L.mayStand, h5, L.bare, h9, h0])
              clear h5 h9
              go_wp2
              go_quiet (fail)
              go_wp2
              go_roundw
              case rel => exact ⟨k + 1, s2, by go_num, by omega, below_drewN (HBN.out _) _, (HRN.out _).below (below_drewN (Below.refl _ _) _), hid (Or.inr ⟨by omega, by omega, by rw [HKQ.out, HQ.out]; exact HNB.out.symm⟩), hid (by rw [hST.out, HM.out]; rfl)⟩
              case measure => simp [intOf]; omega
            · have ze := ne_empty (show 0 < s2.size by omega)
              have HM : Hid (L.mayStand ⟨k1, s1, n1⟩ k bf ⟨k2, s2, n2⟩ = false) := hid (by simp [L.mayStand, h5, L.bare, h0])
              clear h5 h9
              go_wp2
              go_ret
              exact ⟨ret_bool (by rw [hST.out, HM.out]; rfl), HBN.out _⟩
        · have h67 : (k1 = 6 ∨ k1 = 7) ∧ n1 = (ks.length : Int) := by rcases HKD2.out with h | h; exact absurd h h5; exact h
          obtain ⟨h67, hn1⟩ := h67
          by_cases h9 : k2 = 9
          · have z9 : (k2 == 9) = true := by simp [h9]
            by_cases h0 : s2.size = 0
            · have ze := is_empty h0
              by_cases hkl : (k : Int) = (ks.length : Int) - 1
              · have zk : ((k : Int) == (ks.length : Int) - 1) = true := by simp [hkl]
                have HM : Hid (L.mayStand ⟨k1, s1, n1⟩ k bf ⟨k2, s2, n2⟩ = true) := hid (by simp [L.mayStand, h5, h9, h0, hn1, hkl])
                rcases h67 with h6 | h7
                · have z6 : (k1 == 6) = true := by simp [h6]
                  clear h5 h6 h9 hn1 hkl
                  go_wp2
                  go_roundw
                  case rel => exact ⟨k + 1, s2, by go_num, by omega, HBN.out _, HRN.out _, hid (Or.inr ⟨by omega, by omega, by rw [HKQ.out, HQ.out]; exact HNB.out.symm⟩), hid (by rw [hST.out, HM.out]; rfl)⟩
                  case measure => simp [intOf]; omega
                · have z6 : (k1 == 6) = false := by simp; omega
                  have z7 : (k1 == 7) = true := by simp [h7]
                  clear h5 h7 h9 hn1 hkl
                  go_wp2
                  go_roundw
                  case rel => exact ⟨k + 1, s2, by go_num, by omega, HBN.out _, HRN.out _, hid (Or.inr ⟨by omega, by omega, by rw [HKQ.out, HQ.out]; exact HNB.out.symm⟩), hid (by rw [hST.out, HM.out]; rfl)⟩
                  case measure => simp [intOf]; omega
              · have zk : ((k : Int) == (ks.length : Int) - 1) = false := by simp; omega
                have HM : Hid (L.mayStand ⟨k1, s1, n1⟩ k bf ⟨k2, s2, n2⟩ = false) := hid (by simp [L.mayStand, h5, h9, hn1, hkl])
                rcases h67 with h6 | h7
                · have z6 : (k1 == 6) = true := by simp [h6]
                  clear h5 h6 h9 hn1 hkl
                  go_wp2
                  go_ret
                  exact ⟨ret_bool (by rw [hST.out, HM.out]; rfl), HBN.out _⟩
                · have z6 : (k1 == 6) = false := by simp; omega
                  have z7 : (k1 == 7) = true := by simp [h7]
                  clear h5 h7 h9 hn1 hkl
                  go_wp2
                  go_ret
                  exact ⟨ret_bool (by rw [hST.out, HM.out]; rfl), HBN.out _⟩
            · have ze := ne_empty (show 0 < s2.size by omega)
              have HM : Hid (L.mayStand ⟨k1, s1, n1⟩ k bf ⟨k2, s2, n2⟩ = false) := hid (by simp [L.mayStand, h5, h9, h0])
              by_cases hkl : (k : Int) = (ks.length : Int) - 1
              · have zk : ((k : Int) == (ks.length : Int) - 1) = true := by simp [hkl]
                rcases h67 with h6 | h7
                · have z6 : (k1 == 6) = true := by simp [h6]
                  clear h5 h6 h9 hn1 hkl
                  go_wp2
                  go_ret
                  exact ⟨ret_bool (by rw [hST.out, HM.out]; rfl), HBN.out _⟩
                · have z6 : (k1 == 6) = false := by simp; omega
                  have z7 : (k1 == 7) = true := by simp [h7]
                  clear h5 h7 h9 hn1 hkl
                  go_wp2
                  go_ret
                  exact ⟨ret_bool (by rw [hST.out, HM.out]; rfl), HBN.out _⟩
              · have zk : ((k : Int) == (ks.length : Int) - 1) = false := by simp; omega
                rcases h67 with h6 | h7
                · have z6 : (k1 == 6) = true := by simp [h6]
                  clear h5 h6 h9 hn1 hkl
                  go_wp2
                  go_ret
                  exact ⟨ret_bool (by rw [hST.out, HM.out]; rfl), HBN.out _⟩
                · have z6 : (k1 == 6) = false := by simp; omega
                  have z7 : (k1 == 7) = true := by simp [h7]
                  clear h5 h7 h9 hn1 hkl
                  go_wp2
                  go_ret
                  exact ⟨ret_bool (by rw [hST.out, HM.out]; rfl), HBN.out _⟩
          · have z9 : (k2 == 9) = false := by simp; omega
            rcases h67 with h6 | h7
            · have z6 : (k1 == 6) = true := by simp [h6]
              have z7 : (k1 == 7) = false := by simp [h6]
              have hw := fun W => refWord_any s2 hny W
              cases hlb : nameB 97 122 s2 with
              | false =>
                simp only [hlb] at hw
                have HW := hid hw
                have HM : Hid (L.mayStand ⟨k1, s1, n1⟩ k bf ⟨k2, s2, n2⟩ = false) := hid (by simp [L.mayStand, h9, L.isLabel, h6, hlb])
                clear h5 h6 h9 hn1 hw hlb
                go_wp2_with (go_at_call 50; refine (HW.out _).mono ?_; rintro e w' ⟨rfl, rfl⟩)
                go_ret
                exact ⟨ret_bool (by rw [hST.out, HM.out]; rfl), HBN.out _⟩
              | true =>
                simp only [hlb] at hw
                have HW := hid hw
                have hil2 : L.isLabel k1 s2 = true := by simp [L.isLabel, h6, hlb]
                have hpos := L.label_ne hil2
                have HIL := hid hil2
                have h5' := hid h5
                have h9' := hid h9
                clear h5 h6 h9 hn1 hw hlb hil2
                rcases hbf.out with ⟨hk0, hbe⟩ | ⟨hk1, hkp, hbe⟩
                · have HM : Hid (L.mayStand ⟨k1, s1, n1⟩ k bf ⟨k2, s2, n2⟩ = true) := hid (by rw [L.mayStand, if_neg h5'.out, if_neg h9'.out, HIL.out, hbe, L.ltB_empty hpos]; rfl)
                  have zk0 : decide ((0 : Int) < (k : Int)) = false := by simp; omega
                  have zk1 : decide (0 < k) = false := by simp; omega
                  subst hk0
                  clear hbe
                  go_wp2_with (go_at_call 50; refine (HW.out _).mono ?_; rintro e w' ⟨rfl, rfl⟩)
                  go_quiet (fail)
                  go_wp2
                  go_roundw
                  case rel => exact ⟨1, s2, by go_num, by omega, below_drewN (HBN.out _) _, (HRN.out _).below (below_drewN (Below.refl _ _) _), hid (Or.inr ⟨by omega, by omega, by rw [show ks[1 - 1]'(by omega) = Q from HQ.out]; exact HNB.out.symm⟩), hid (by rw [hST.out, HM.out]; rfl)⟩
                  case measure => simp [intOf]; omega
                · obtain ⟨p, rfl⟩ : ∃ p, k = p + 1 := ⟨k - 1, by omega⟩
                  have hp : p < ks.length := by omega
                  have hqp : ks[p] < l.length := HKL.out _ (List.getElem_mem hp)
                  have cp := HCELL.out p hp
                  obtain ⟨-, p1, -⟩ := HCX.out ks[p] hqp
                  rw [← EY.out] at p1
                  have hbe2 : bf = (l[ks[p]]'hqp).name := by
                    rw [hbe]
                    show (l.getD ks[p] default).name = _
                    simp [List.getD, hqp]
                  have hqpz : (ks[p] : Int) < (l.length : Int) := by omega
                  have HBE := hid hbe2
                  rw [← hbe2] at p1
                  clear hbe hbe2
                  generalize ks[p] = Qp at *
                  have hpz : (0 : Int) < (p : Int) + 1 := by omega
                  cases hcmp : Op.bytesLess bf.toList s2.toList with
                  | true =>
                    have HM : Hid (L.mayStand ⟨k1, s1, n1⟩ ((p + 1 : Nat) : Int) bf ⟨k2, s2, n2⟩ = true) := hid (by rw [L.mayStand, if_neg h5'.out, if_neg h9'.out, HIL.out]; simp [L.ltB, hcmp])
                    go_wp2_with (go_at_call 50; refine (HW.out _).mono ?_; rintro e w' ⟨rfl, rfl⟩)
                    go_quiet (fail)
                    go_wp2
                    go_roundw
                    case rel => exact ⟨p + 1 + 1, s2, by go_num, by omega, below_drewN (HBN.out _) _, (HRN.out _).below (below_drewN (Below.refl _ _) _), hid (Or.inr ⟨by omega, by omega, by rw [HKQ.out, HQ.out]; exact HNB.out.symm⟩), hid (by rw [hST.out, HM.out]; rfl)⟩
                    case measure => simp [intOf]; omega
                  | false =>
                    have HM : Hid (L.mayStand ⟨k1, s1, n1⟩ ((p + 1 : Nat) : Int) bf ⟨k2, s2, n2⟩ = false) := hid (by rw [L.mayStand, if_neg h5'.out, if_neg h9'.out, HIL.out]; simp [L.ltB, hcmp])
                    go_wp2_with (go_at_call 50; refine (HW.out _).mono ?_; rintro e w' ⟨rfl, rfl⟩)
                    go_quiet (fail)
                    go_wp2
                    go_ret
                    exact ⟨ret_bool (by rw [hST.out, HM.out]; rfl), below_drewN (HBN.out _) _⟩
            · have z6 : (k1 == 6) = false := by simp [h7]
              have z7 : (k1 == 7) = true := by simp [h7]
              have hw := fun W => refTag_any s2 hny W
              cases hlb : nameB 65 90 s2 with
              | false =>
                simp only [hlb] at hw
                have HW := hid hw
                have HM : Hid (L.mayStand ⟨k1, s1, n1⟩ k bf ⟨k2, s2, n2⟩ = false) := hid (by simp [L.mayStand, h9, L.isLabel, h7, hlb])
                clear h5 h7 h9 hn1 hw hlb
                go_wp2_with (go_at_call 51; refine (HW.out _).mono ?_; rintro e w' ⟨rfl, rfl⟩)
                go_ret
                exact ⟨ret_bool (by rw [hST.out, HM.out]; rfl), HBN.out _⟩
              | true =>
                simp only [hlb] at hw
                have HW := hid hw
                have hil2 : L.isLabel k1 s2 = true := by simp [L.isLabel, h7, hlb]
                have hpos := L.label_ne hil2
                have HIL := hid hil2
                have h5' := hid h5
                have h9' := hid h9
                clear h5 h7 h9 hn1 hw hlb hil2
                rcases hbf.out with ⟨hk0, hbe⟩ | ⟨hk1, hkp, hbe⟩
                · have HM : Hid (L.mayStand ⟨k1, s1, n1⟩ k bf ⟨k2, s2, n2⟩ = true) := hid (by rw [L.mayStand, if_neg h5'.out, if_neg h9'.out, HIL.out, hbe, L.ltB_empty hpos]; rfl)
                  have zk0 : decide ((0 : Int) < (k : Int)) = false := by simp; omega
                  have zk1 : decide (0 < k) = false := by simp; omega
                  subst hk0
                  clear hbe
                  go_wp2_with (go_at_call 51; refine (HW.out _).mono ?_; rintro e w' ⟨rfl, rfl⟩)
                  go_quiet (fail)
                  go_wp2
                  go_roundw
                  case rel => exact ⟨1, s2, by go_num, by omega, below_drewN (HBN.out _) _, (HRN.out _).below (below_drewN (Below.refl _ _) _), hid (Or.inr ⟨by omega, by omega, by rw [show ks[1 - 1]'(by omega) = Q from HQ.out]; exact HNB.out.symm⟩), hid (by rw [hST.out, HM.out]; rfl)⟩
                  case measure => simp [intOf]; omega
                · obtain ⟨p, rfl⟩ : ∃ p, k = p + 1 := ⟨k - 1, by omega⟩
                  have hp : p < ks.length := by omega
                  have hqp : ks[p] < l.length := HKL.out _ (List.getElem_mem hp)
                  have cp := HCELL.out p hp
                  obtain ⟨-, p1, -⟩ := HCX.out ks[p] hqp
                  rw [← EY.out] at p1
                  have hbe2 : bf = (l[ks[p]]'hqp).name := by
                    rw [hbe]
                    show (l.getD ks[p] default).name = _
                    simp [List.getD, hqp]
                  have hqpz : (ks[p] : Int) < (l.length : Int) := by omega
                  have HBE := hid hbe2
                  rw [← hbe2] at p1
                  clear hbe hbe2
                  generalize ks[p] = Qp at *
                  have hpz : (0 : Int) < (p : Int) + 1 := by omega
                  cases hcmp : Op.bytesLess bf.toList s2.toList with
                  | true =>
                    have HM : Hid (L.mayStand ⟨k1, s1, n1⟩ ((p + 1 : Nat) : Int) bf ⟨k2, s2, n2⟩ = true) := hid (by rw [L.mayStand, if_neg h5'.out, if_neg h9'.out, HIL.out]; simp [L.ltB, hcmp])
                    go_wp2_with (go_at_call 51; refine (HW.out _).mono ?_; rintro e w' ⟨rfl, rfl⟩)
                    go_quiet (fail)
                    go_wp2
                    go_roundw
                    case rel => exact ⟨p + 1 + 1, s2, by go_num, by omega, below_drewN (HBN.out _) _, (HRN.out _).below (below_drewN (Below.refl _ _) _), hid (Or.inr ⟨by omega, by omega, by rw [HKQ.out, HQ.out]; exact HNB.out.symm⟩), hid (by rw [hST.out, HM.out]; rfl)⟩
                    case measure => simp [intOf]; omega
                  | false =>
                    have HM : Hid (L.mayStand ⟨k1, s1, n1⟩ ((p + 1 : Nat) : Int) bf ⟨k2, s2, n2⟩ = false) := hid (by rw [L.mayStand, if_neg h5'.out, if_neg h9'.out, HIL.out]; simp [L.ltB, hcmp])
                    go_wp2_with (go_at_call 51; refine (HW.out _).mono ?_; rintro e w' ⟨rfl, rfl⟩)
                    go_quiet (fail)
                    go_wp2
                    go_ret
                    exact ⟨ret_bool (by rw [hST.out, HM.out]; rfl), below_drewN (HBN.out _) _⟩
      · obtain rfl : k = ks.length := by omega
        go_wp2
        go_ret
        refine ⟨ret_bool ?_, hB⟩
        rw [← hE.out, List.drop_length, L.standAt]

end Go.Proofs.YtimlblbmfckeiaaDoor
