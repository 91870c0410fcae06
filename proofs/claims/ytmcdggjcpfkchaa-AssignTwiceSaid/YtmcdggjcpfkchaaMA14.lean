/-
  The texts AsTj, one behind the other. Conditions: those that each of them names.
-/
import Derived.Test.YtmcdggjcpfkchaaMA13
import Derived.Test.YtmcdggjcpfkchaaM4
import Derived.BigQuiet
section
/-
  The walk of the reference's labelled. Conditions: at most 20000 parts, each of which has from 0 to 60 children, labels of at most 2000000 bytes.
-/
namespace Go.Proofs.Ytmcdggjcpfkchaa.E
open Go

theorem kidsL_lt (l : List Pt) : ∀ (c p : Nat), ∀ q ∈ kidsL l c p, q < l.length := by
  intro c
  induction c with
  | zero => intro p q h; simp [kidsL] at h
  | succ c ih =>
    intro p q h
    rw [kidsL] at h
    split at h
    · rename_i hp
      rcases List.mem_cons.1 h with rfl | h
      · exact hp
      · exact ih _ q h
    · simp at h

/-- The label of the child of this number. -/
def labK (l : List Pt) (ks : List Nat) (i : Nat) : ByteArray := (l.getD (ks.getD i 0) default).label
/-- The labels of the first children. -/
def labB (l : List Pt) (ks : List Nat) (k : Nat) : List ByteArray := (ks.take k).map fun q => (l.getD q default).label

theorem labB_iff {l : List Pt} {ks : List Nat} {k : Nat} {s : ByteArray} (h : s ∈ labB l ks k) : ∃ i, i < k ∧ i < ks.length ∧ labK l ks i = s := by
  unfold labB at h
  obtain ⟨q, hq, rfl⟩ := List.mem_map.1 h
  obtain ⟨i, hi, rfl⟩ := List.getElem_of_mem hq
  have hi3 : i < min k ks.length := by simpa using hi
  have hi2 : i < k ∧ i < ks.length := by omega
  exact ⟨i, hi2.1, hi2.2, by simp [labK, hi2.2]⟩
theorem labB_mem {l : List Pt} {ks : List Nat} {k i : Nat} {s : ByteArray} (h : i < k) (hi : i < ks.length) (he : labK l ks i = s) : s ∈ labB l ks k := by
  unfold labB
  refine List.mem_map.2 ⟨ks[i], List.mem_take_iff_getElem.2 ⟨i, by omega, rfl⟩, ?_⟩
  rw [← he]
  simp [labK, hi]
theorem labB_succ {l : List Pt} {ks : List Nat} {k : Nat} (h : k < ks.length) : labB l ks (k + 1) = labB l ks k ++ [(l.getD ks[k] default).label] := by
  unfold labB
  rw [List.take_succ_eq_append_getElem h, List.map_append]
  rfl
theorem stand_step {l : List Pt} {x : Pt} {k : Nat} {b : List ByteArray} {ks : List Nat} {j : Nat} (h : j < ks.length) : standAt l x k b (ks.drop j) = (may x k b (l.getD ks[j] default) && standAt l x (k + 1) (b ++ [(l.getD ks[j] default).label]) (ks.drop (j + 1))) := by
  rw [List.drop_eq_getElem_cons h, standAt]

end Go.Proofs.Ytmcdggjcpfkchaa.E
namespace Go.Proofs.Ytmcdggjcpfkchaa
open Go.RowKit

set_option maxHeartbeats 40000000 in
set_option maxRecDepth 100000 in
theorem alabelled_any (l : List E.Pt) (hF : FewP l) (hR : ∀ x ∈ l, E.many x = E.manyR x) (hnm : ∀ x ∈ l, x.label.size ≤ 9223372036854775807) (i : Nat) (hil : i < l.length) (v : Value) (w : World) (hx : RdP w w.heap.size v l) :
    Calls Try.prog 29 #[v, .int .i64 i] w fun e w' => e = .returned (.bool (E.labR l i)) ∧ Below w.heap.size w w' := by
  have hgd : l.getD i default = l[i] := by simp [List.getD, hil]
  have HLR : Hid (E.labR l i = (decide ((E.kidsL l (E.many l[i]).toNat (i + 1)).length = (E.many l[i]).toNat) && E.standAt l l[i] 0 [] (E.kidsL l (E.many l[i]).toNat (i + 1)))) := hid (by unfold E.labR; rw [hgd])
  have HKD := hid (rkids_any l hF hR v i hil w hx)
  have HNM := hid hnm
  obtain ⟨A, cap, rfl, hl1, hl2, hcx0⟩ := hx
  obtain ⟨b, o, hA, hb, hcx⟩ := hcx0 (by rintro rfl; simp at hil)
  subst hA
  unfold maxLen at hl2
  obtain ⟨hl, hM⟩ := hF
  obtain ⟨vt, vu, x0, x1, x2, x3, x4, x5, x6, x7, ht, hu⟩ := hcx i hil
  obtain ⟨A1, c1, rfl⟩ : ∃ A1 c1, vt = .slice A1 l[i].t.length c1 := by obtain ⟨A1, c1, h, -⟩ := ht; exact ⟨A1, c1, h⟩
  obtain ⟨A2, c2, rfl⟩ : ∃ A2 c2, vu = .slice A2 l[i].u.length c2 := by obtain ⟨A2, c2, h, -⟩ := hu; exact ⟨A2, c2, h⟩
  have HCX := hid hcx
  have hm4 := hM _ (List.getElem_mem hil)
  have hmn := fun W => rmany_any l[i] (.slice A1 l[i].t.length c1) (.slice A2 l[i].u.length c2) (hR _ (List.getElem_mem hil)) hm4.2.2 W
  have hm : 0 ≤ E.many l[i] ∧ E.many l[i] ≤ 60 := ⟨hm4.1, hm4.2.1⟩
  have hkl := E.kidsL_lt l (E.many l[i]).toNat (i + 1)
  have hkn := E.kidsL_length_le l (E.many l[i]).toNat (i + 1)
  have HKL := hid hkl
  clear hcx0 hcx hM hkl hnm hgd ht hu hm4 hR
  generalize E.kidsL l (E.many l[i]).toNat (i + 1) = ks at *
  generalize l[i] = X0 at *
  obtain ⟨c, hc⟩ : ∃ c : Nat, E.many X0 = c := ⟨(E.many X0).toNat, by omega⟩
  rw [hc] at hmn hm hkn HLR
  rw [Int.toNat_natCast] at hkn HLR
  have HMN := hid hmn
  clear hmn hc
  unfold partV at HMN
  have X0c := hid x0
  by_cases hlen : ks.length = c
  case neg =>
    have hlz : ((ks.length : Int) != (c : Int)) = true := by simp; omega
    have HZ : Hid (E.labR l i = false) := hid (by rw [HLR.out]; simp [hlen])
    go_enter Try.func29, Try.ntmps29
    go_wp2_with fail
    refine (HKD.out).mono ?_
    rintro e w1 ⟨v5, rfl, hO, hb1⟩
    obtain ⟨A5, c5, rfl, -⟩ := hO.rd
    have q0 := (hb1.cell (p := ⟨b, o + i * 8, none⟩) hb).trans x0
    have q1 := (hb1.cell (p := ⟨b, o + i * 8 + 1, none⟩) hb).trans x1
    have q2 := (hb1.cell (p := ⟨b, o + i * 8 + 2, none⟩) hb).trans x2
    have q3 := (hb1.cell (p := ⟨b, o + i * 8 + 3, none⟩) hb).trans x3
    have q4 := (hb1.cell (p := ⟨b, o + i * 8 + 4, none⟩) hb).trans x4
    have q5 := (hb1.cell (p := ⟨b, o + i * 8 + 5, none⟩) hb).trans x5
    have q6 := (hb1.cell (p := ⟨b, o + i * 8 + 6, none⟩) hb).trans x6
    have q7 := (hb1.cell (p := ⟨b, o + i * 8 + 7, none⟩) hb).trans x7
    clear hO x0 x1 x2 x3 x4 x5 x6 x7
    go_wp2_with fail
    refine (HMN.out _).mono ?_
    rintro e w2 ⟨rfl, hb2⟩
    go_wp2
    go_ret
    exact ⟨ret_bool HZ.out.symm, hb1.trans (hb2.mono hb1.size)⟩
  case pos =>
    have HLR2 : Hid (E.labR l i = E.standAt l X0 0 [] ks) := hid (by rw [HLR.out, hlen]; simp)
    have hks : ks.length ≤ 60 := by omega
    have hlz : ((ks.length : Int) != (c : Int)) = false := by simp; omega
    clear hlen
    go_enter Try.func29, Try.ntmps29
    go_wp2_with fail
    refine (HKD.out).mono ?_
    rintro e w1 ⟨v5, rfl, hO, hb1⟩
    have HRI := hid hO.rd
    obtain ⟨A5, c5, rfl, -⟩ := hO.rd
    have q0 := (hb1.cell (p := ⟨b, o + i * 8, none⟩) hb).trans x0
    have q1 := (hb1.cell (p := ⟨b, o + i * 8 + 1, none⟩) hb).trans x1
    have q2 := (hb1.cell (p := ⟨b, o + i * 8 + 2, none⟩) hb).trans x2
    have q3 := (hb1.cell (p := ⟨b, o + i * 8 + 3, none⟩) hb).trans x3
    have q4 := (hb1.cell (p := ⟨b, o + i * 8 + 4, none⟩) hb).trans x4
    have q5 := (hb1.cell (p := ⟨b, o + i * 8 + 5, none⟩) hb).trans x5
    have q6 := (hb1.cell (p := ⟨b, o + i * 8 + 6, none⟩) hb).trans x6
    have q7 := (hb1.cell (p := ⟨b, o + i * 8 + 7, none⟩) hb).trans x7
    clear hO x0 x1 x2 x3 x4 x5 x6 x7
    go_wp2_with fail
    refine (HMN.out _).mono ?_
    rintro e w2 ⟨rfl, hb2⟩
    have hB2 : Below w.heap.size w w2 := hb1.trans (hb2.mono hb1.size)
    have HRI2 := hid (HRI.out.below hb2)
    clear q0 q1 q2 q3 q4 q5 q6 q7 hb2
    go_wp2
    go_loopw [6] (fun vk wr => ∃ k : Nat, vk = .int .i64 k ∧ k ≤ ks.length ∧ Below w.heap.size w wr ∧ RdI wr (.slice A5 ks.length c5) ks ∧ Hid (E.standAt l X0 k (E.labB l ks k) (ks.drop k) = E.labR l i)) (fun vk _ => ks.length - (intOf vk).toNat)
    case atStart => exact ⟨0, rfl, by omega, hB2, HRI2.out, hid (by rw [HLR2.out]; rfl)⟩
    case round =>
      obtain ⟨k, rfl, hk, hB, hR, hE⟩ := hrel
      have HR := hid hR
      by_cases hlt : k < ks.length
      · obtain ⟨g, c6, hv6, hg, hcell⟩ := hR.cell (by omega)
        simp only [Value.slice.injEq, true_and] at hv6
        obtain ⟨rfl, rfl⟩ := hv6
        have hq : ks[k] < l.length := HKL.out _ (List.getElem_mem hlt)
        have cq := hcell k hlt
        obtain ⟨wt, wu, y0, y1, y2, y3, y4, y5, y6, y7, yt, yu⟩ := HCX.out ks[k] hq
        obtain ⟨B1, d1, rfl⟩ : ∃ A1 c1, wt = .slice A1 (l[ks[k]]'hq).t.length c1 := by obtain ⟨A1, c1, h, -⟩ := yt; exact ⟨A1, c1, h⟩
        obtain ⟨B2, d2, rfl⟩ : ∃ A1 c1, wu = .slice A1 (l[ks[k]]'hq).u.length c1 := by obtain ⟨A1, c1, h, -⟩ := yu; exact ⟨A1, c1, h⟩
        clear yt yu
        have ey : ∀ j, wr.cell? ⟨b, j, none⟩ = w.cell? ⟨b, j, none⟩ := fun j => hB.cell (p := ⟨b, j, none⟩) hb
        rw [← ey] at y0 y1 y2 y3 y4 y5 y6 y7
        have x0 := (ey (o + i * 8)).trans X0c.out
        have hlb2 := HNM.out _ (List.getElem_mem hq)
        have hST : Hid (E.labR l i = (E.may X0 k (E.labB l ks k) (l[ks[k]]'hq) && E.standAt l X0 (k + 1) (E.labB l ks (k + 1)) (ks.drop (k + 1)))) := hid (by
          have hgy : l.getD ks[k] default = l[ks[k]]'hq := by simp [List.getD, hq]
          rw [← hE.out, E.stand_step hlt, E.labB_succ hlt, hgy])
        have hqz : (ks[k] : Int) < (l.length : Int) := by omega
        have hbw := hB.size
        have hbr : b < wr.heap.size := by omega
        have hbne : b ≠ wr.heap.size := by omega
        have hgne : g ≠ wr.heap.size := by omega
        clear hR hcell ey hE
        generalize (l[ks[k]]'hq) = Y at *
        obtain ⟨ke, lb, nm, bd, mm, nn, tt, uu⟩ := Y
        simp only at y0 y1 y2 y3 y4 y5 y6 y7 hlb2
        generalize ks[k] = Q at *
        have HBN : Hid (Below w.heap.size w (wr.alloc (.cells #[.int .i64 ke, .string lb, .string nm, .string bd, .int .i64 mm, .int .i64 nn, .slice B1 tt.length d1, .slice B2 uu.length d2] 49))) := hid (hB.trans ((below_new _).mono hbw))
        have HRN : Hid (RdI (wr.alloc (.cells #[.int .i64 ke, .string lb, .string nm, .string bd, .int .i64 mm, .int .i64 nn, .slice B1 tt.length d1, .slice B2 uu.length d2] 49)) (.slice (some ⟨g, 0, none⟩) ks.length c5) ks) := hid (HR.out.below (below_new _))
        have HNN : Hid ((wr.alloc (.cells #[.int .i64 ke, .string lb, .string nm, .string bd, .int .i64 mm, .int .i64 nn, .slice B1 tt.length d1, .slice B2 uu.length d2] 49)).heap[wr.heap.size]? = (some (.cells #[.int .i64 ke, .string lb, .string nm, .string bd, .int .i64 mm, .int .i64 nn, .slice B1 tt.length d1, .slice B2 uu.length d2] 49 (0, 0)))) := hid (heap_alloc_new wr _)
        by_cases h10 : X0.kind = 10
        · have z10 : (X0.kind == 10) = true := by simp [h10]
          have z7 : (X0.kind == 7) = false := by simp [h10]
          by_cases h8 : ke = 8
          · have z8 : (ke == 8) = true := by simp [h8]
            have HZ : Hid (E.labR l i = false) := hid (by rw [hST.out]; simp [E.may, h10, h8])
            clear h8 h10 hST
            go_wp2
            go_ret
            exact ⟨ret_bool HZ.out.symm, HBN.out⟩
          · have z8 : (ke == 8) = false := beq_eq_false_iff_ne.2 h8
            cases hlb : nameB 97 122 lb with
            | false =>
              have HW := hid (refWord_any lb hlb2 (wr.alloc (.cells #[.int .i64 ke, .string lb, .string nm, .string bd, .int .i64 mm, .int .i64 nn, .slice B1 tt.length d1, .slice B2 uu.length d2] 49)))
              rw [hlb] at HW
              have HZ : Hid (E.labR l i = false) := hid (by rw [hST.out]; simp [E.may, h10, h8, hlb])
              clear hlb hST h10 h8
              go_wp2_with fail
              refine (HW.out).mono ?_
              rintro e w' ⟨rfl, rfl⟩
              go_wp2
              go_ret
              exact ⟨ret_bool HZ.out.symm, HBN.out⟩
            | true =>
              have HW := hid (refWord_any lb hlb2 (wr.alloc (.cells #[.int .i64 ke, .string lb, .string nm, .string bd, .int .i64 mm, .int .i64 nn, .slice B1 tt.length d1, .slice B2 uu.length d2] 49)))
              rw [hlb] at HW
              have hps : 0 < lb.size := by simp only [nameB, Bool.and_eq_true, decide_eq_true_eq] at hlb; exact hlb.1
              have hle := ne_empty hps
              have HMA : Hid (E.labR l i = (!Lib.containsS (E.labB l ks k) lb && E.standAt l X0 (k + 1) (E.labB l ks (k + 1)) (ks.drop (k + 1)))) := hid (by rw [hST.out]; simp [E.may, h10, h8, hlb])
              clear hlb hST h10 h8 hps
              have HW1 := HBN
              have HZ1 : Hid (wr.heap.size ≤ (wr.alloc (.cells #[.int .i64 ke, .string lb, .string nm, .string bd, .int .i64 mm, .int .i64 nn, .slice B1 tt.length d1, .slice B2 uu.length d2] 49)).heap.size) := hid (by simp)
              have HR1 := HRN
              have HN1 := HNN
              go_wp2_with fail
              refine (HW.out).mono ?_
              rintro e w' ⟨rfl, rfl⟩
              go_wp2
              go_loopw [10] (fun v10 wi => ∃ j : Nat, v10 = .int .i64 j ∧ j ≤ k ∧ Below w.heap.size w wi ∧ wr.heap.size ≤ wi.heap.size ∧ RdI wi (.slice (some ⟨g, 0, none⟩) ks.length c5) ks ∧ Hid (wi.heap[wr.heap.size]? = (some (.cells #[.int .i64 ke, .string lb, .string nm, .string bd, .int .i64 mm, .int .i64 nn, .slice B1 tt.length d1, .slice B2 uu.length d2] 49 (0, 0)))) ∧ Hid (∀ i, i < j → (E.labK l ks i) ≠ lb)) (fun v10 _ => k - (intOf v10).toNat)
              case atStart => exact ⟨0, rfl, by omega, HW1.out, HZ1.out, HR1.out, HN1, hid fun i hi => by omega⟩
              case round =>
                obtain ⟨j, rfl, hj, hBi, hzi, hRi, hNi, hS⟩ := hrel
                have HRi := hid hRi
                have HBi := hid hBi
                have hni := heap_lt hNi.out
                by_cases hjk : j < k
                · have hjz : (j : Int) < (k : Int) := by omega
                  have cn1 := Lib.cell_of_heap hNi.out 1
                  simp only [List.getElem?_toArray] at cn1
                  obtain ⟨g', c6', hv6', hg', hcell'⟩ := hRi.cell (by omega)
                  simp only [Value.slice.injEq, true_and] at hv6'
                  obtain ⟨hgg, -⟩ := hv6'
                  have hgg2 : g = g' := by simpa using hgg
                  subst hgg2
                  have hjl : j < ks.length := by omega
                  have hP : ks[j] < l.length := HKL.out _ (List.getElem_mem hjl)
                  have cq := hcell' j hjl
                  obtain ⟨wt', wu', -, p1, -⟩ := HCX.out ks[j] hP
                  have ep := (hBi.cell (p := ⟨b, o + ks[j] * 8 + 1, none⟩) hb).trans p1
                  have hPz : (ks[j] : Int) < (l.length : Int) := by omega
                  have HLK : Hid (E.labK l ks j = (l[ks[j]]'hP).label) := hid (by simp [E.labK, hjl, hP])
                  clear p1 hcell' hRi hBi
                  generalize (l[ks[j]]'hP).label = LP at *
                  generalize ks[j] = Pq at *
                  have heq := eqS LP lb
                  by_cases hLP : LP = lb
                  · have e1 : (LP.toList == lb.toList) = true := by rw [heq]; simp [hLP]
                    have HZ : Hid (E.labR l i = false) := hid (by
                      rw [HMA.out]
                      have : Lib.containsS (E.labB l ks k) lb = true := by
                        rw [Lib.containsS_iff]
                        exact E.labB_mem hjk (by omega) (HLK.out.trans hLP)
                      rw [this]
                      rfl)
                    clear heq hLP
                    go_wp2
                    go_quiet (fail)
                    go_wp2
                    go_ret
                    exact ⟨ret_bool HZ.out.symm, below_drewN HBi.out _⟩
                  · have e1 : (LP.toList == lb.toList) = false := by rw [heq]; simp [hLP]
                    have HS2 : Hid (∀ i, i < j + 1 → E.labK l ks i ≠ lb) := hid fun i hi => by
                      rcases Nat.lt_or_ge i j with h | h
                      · exact hS.out i h
                      · obtain rfl : i = j := by omega
                        rw [HLK.out]; exact hLP
                    clear heq hLP
                    go_wp2
                    go_quiet (fail)
                    go_wp2
                    go_roundw
                    case rel => exact ⟨j + 1, by go_num, by omega, below_drewN HBi.out _, hzi, HRi.out.below (below_drewN (Below.refl _ _) _), hid hNi.out, HS2⟩
                    case measure => simp [intOf]; omega
                · have hjz : ¬ (j : Int) < (k : Int) := by omega
                  have HT : Hid (E.standAt l X0 (k + 1) (E.labB l ks (k + 1)) (ks.drop (k + 1)) = E.labR l i) := hid (by
                    rw [HMA.out]
                    have : Lib.containsS (E.labB l ks k) lb = false := by
                      rw [Bool.eq_false_iff]
                      intro h
                      rw [Lib.containsS_iff] at h
                      obtain ⟨i, hi, -, he⟩ := E.labB_iff h
                      exact hS.out i (by omega) he
                    rw [this]
                    rfl)
                  clear hRi hBi
                  go_wp2
                  go_roundw
                  case rel => first | exact ⟨k + 1, by go_num, by omega, HBi.out, HRi.out, HT⟩ | ((repeat apply Exists.intro); exact ⟨⟨k + 1, by go_num, by omega, HBi.out, HRi.out, HT⟩, rfl⟩)
                  case measure => simp [intOf]; omega
        · have z10 : (X0.kind == 10) = false := beq_eq_false_iff_ne.2 h10
          by_cases h7 : X0.kind = 7 ∧ 0 < (k : Int)
          · have z7 : (X0.kind == 7) = true := by simp [h7.1]
            have hk0 := h7.2
            have hkn : 0 < k := by omega
            by_cases h8 : ke = 8
            · have z8 : (ke == 8) = true := by simp [h8]
              cases hlb : nameB 65 90 lb with
              | false =>
                have HW := hid (refTag_any lb hlb2 (wr.alloc (.cells #[.int .i64 ke, .string lb, .string nm, .string bd, .int .i64 mm, .int .i64 nn, .slice B1 tt.length d1, .slice B2 uu.length d2] 49)))
                rw [hlb] at HW
                have HZ : Hid (E.labR l i = false) := hid (by rw [hST.out]; simp [E.may, h7.1, show 0 < k by omega, h8, hlb])
                clear hlb hST h7 h10 h8
                go_wp2_with fail
                refine (HW.out).mono ?_
                rintro e w' ⟨rfl, rfl⟩
                go_wp2
                go_ret
                exact ⟨ret_bool HZ.out.symm, HBN.out⟩
              | true =>
                have HW := hid (refTag_any lb hlb2 (wr.alloc (.cells #[.int .i64 ke, .string lb, .string nm, .string bd, .int .i64 mm, .int .i64 nn, .slice B1 tt.length d1, .slice B2 uu.length d2] 49)))
                rw [hlb] at HW
                have hps : 0 < lb.size := by simp only [nameB, Bool.and_eq_true, decide_eq_true_eq] at hlb; exact hlb.1
                have hle := ne_empty hps
                have HMA : Hid (E.labR l i = (!Lib.containsS (E.labB l ks k) lb && E.standAt l X0 (k + 1) (E.labB l ks (k + 1)) (ks.drop (k + 1)))) := hid (by rw [hST.out]; simp [E.may, h7.1, show 0 < k by omega, h8, hlb])
                clear hlb hST h7 h10 h8 hps
                have HW1 := HBN
                have HZ1 : Hid (wr.heap.size ≤ (wr.alloc (.cells #[.int .i64 ke, .string lb, .string nm, .string bd, .int .i64 mm, .int .i64 nn, .slice B1 tt.length d1, .slice B2 uu.length d2] 49)).heap.size) := hid (by simp)
                have HR1 := HRN
                have HN1 := HNN
                go_wp2_with fail
                refine (HW.out).mono ?_
                rintro e w' ⟨rfl, rfl⟩
                go_wp2
                go_loopw [10] (fun v10 wi => ∃ j : Nat, v10 = .int .i64 j ∧ j ≤ k ∧ Below w.heap.size w wi ∧ wr.heap.size ≤ wi.heap.size ∧ RdI wi (.slice (some ⟨g, 0, none⟩) ks.length c5) ks ∧ Hid (wi.heap[wr.heap.size]? = (some (.cells #[.int .i64 ke, .string lb, .string nm, .string bd, .int .i64 mm, .int .i64 nn, .slice B1 tt.length d1, .slice B2 uu.length d2] 49 (0, 0)))) ∧ Hid (∀ i, i < j → (E.labK l ks i) ≠ lb)) (fun v10 _ => k - (intOf v10).toNat)
                case atStart => exact ⟨0, rfl, by omega, HW1.out, HZ1.out, HR1.out, HN1, hid fun i hi => by omega⟩
                case round =>
                  obtain ⟨j, rfl, hj, hBi, hzi, hRi, hNi, hS⟩ := hrel
                  have HRi := hid hRi
                  have HBi := hid hBi
                  have hni := heap_lt hNi.out
                  by_cases hjk : j < k
                  · have hjz : (j : Int) < (k : Int) := by omega
                    have cn1 := Lib.cell_of_heap hNi.out 1
                    simp only [List.getElem?_toArray] at cn1
                    obtain ⟨g', c6', hv6', hg', hcell'⟩ := hRi.cell (by omega)
                    simp only [Value.slice.injEq, true_and] at hv6'
                    obtain ⟨hgg, -⟩ := hv6'
                    have hgg2 : g = g' := by simpa using hgg
                    subst hgg2
                    have hjl : j < ks.length := by omega
                    have hP : ks[j] < l.length := HKL.out _ (List.getElem_mem hjl)
                    have cq := hcell' j hjl
                    obtain ⟨wt', wu', -, p1, -⟩ := HCX.out ks[j] hP
                    have ep := (hBi.cell (p := ⟨b, o + ks[j] * 8 + 1, none⟩) hb).trans p1
                    have hPz : (ks[j] : Int) < (l.length : Int) := by omega
                    have HLK : Hid (E.labK l ks j = (l[ks[j]]'hP).label) := hid (by simp [E.labK, hjl, hP])
                    clear p1 hcell' hRi hBi
                    generalize (l[ks[j]]'hP).label = LP at *
                    generalize ks[j] = Pq at *
                    have heq := eqS LP lb
                    by_cases hLP : LP = lb
                    · have e1 : (LP.toList == lb.toList) = true := by rw [heq]; simp [hLP]
                      have HZ : Hid (E.labR l i = false) := hid (by
                        rw [HMA.out]
                        have : Lib.containsS (E.labB l ks k) lb = true := by
                          rw [Lib.containsS_iff]
                          exact E.labB_mem hjk (by omega) (HLK.out.trans hLP)
                        rw [this]
                        rfl)
                      clear heq hLP
                      go_wp2
                      go_quiet (fail)
                      go_wp2
                      go_ret
                      exact ⟨ret_bool HZ.out.symm, below_drewN HBi.out _⟩
                    · have e1 : (LP.toList == lb.toList) = false := by rw [heq]; simp [hLP]
                      have HS2 : Hid (∀ i, i < j + 1 → E.labK l ks i ≠ lb) := hid fun i hi => by
                        rcases Nat.lt_or_ge i j with h | h
                        · exact hS.out i h
                        · obtain rfl : i = j := by omega
                          rw [HLK.out]; exact hLP
                      clear heq hLP
                      go_wp2
                      go_quiet (fail)
                      go_wp2
                      go_roundw
                      case rel => exact ⟨j + 1, by go_num, by omega, below_drewN HBi.out _, hzi, HRi.out.below (below_drewN (Below.refl _ _) _), hid hNi.out, HS2⟩
                      case measure => simp [intOf]; omega
                  · have hjz : ¬ (j : Int) < (k : Int) := by omega
                    have HT : Hid (E.standAt l X0 (k + 1) (E.labB l ks (k + 1)) (ks.drop (k + 1)) = E.labR l i) := hid (by
                      rw [HMA.out]
                      have : Lib.containsS (E.labB l ks k) lb = false := by
                        rw [Bool.eq_false_iff]
                        intro h
                        rw [Lib.containsS_iff] at h
                        obtain ⟨i, hi, -, he⟩ := E.labB_iff h
                        exact hS.out i (by omega) he
                      rw [this]
                      rfl)
                    clear hRi hBi
                    go_wp2
                    go_roundw
                    case rel => first | exact ⟨k + 1, by go_num, by omega, HBi.out, HRi.out, HT⟩ | ((repeat apply Exists.intro); exact ⟨⟨k + 1, by go_num, by omega, HBi.out, HRi.out, HT⟩, rfl⟩)
                    case measure => simp [intOf]; omega
            · have z8 : (ke == 8) = false := beq_eq_false_iff_ne.2 h8
              have HZ : Hid (E.labR l i = false) := hid (by rw [hST.out]; simp [E.may, h7.1, show 0 < k by omega, h8])
              clear h8 h7 h10 hST
              go_wp2
              go_ret
              exact ⟨ret_bool HZ.out.symm, HBN.out⟩
          · have HME : Hid (E.may X0 k (E.labB l ks k) ⟨ke, lb, nm, bd, mm, nn, tt, uu⟩ = E.bare ⟨ke, lb, nm, bd, mm, nn, tt, uu⟩) := hid (by rw [E.may, if_neg h10, if_neg h7])
            rcases (by by_cases e7 : X0.kind = 7; exact Or.inr ⟨e7, by omega⟩; exact Or.inl e7 : X0.kind ≠ 7 ∨ X0.kind = 7 ∧ k = 0) with hc7 | ⟨hc7, hc0⟩
            · have z7 : (X0.kind == 7) = false := beq_eq_false_iff_ne.2 hc7
              by_cases h8 : ke = 8
              · have z8 : (ke == 8) = true := by simp [h8]
                have HZ : Hid (E.labR l i = false) := hid (by rw [hST.out, HME.out]; simp [E.bare, h8])
                clear h8 h7 h10 hST hc7
                go_wp2
                go_ret
                exact ⟨ret_bool HZ.out.symm, HBN.out⟩
              · have z8 : (ke == 8) = false := beq_eq_false_iff_ne.2 h8
                by_cases h0 : lb.size = 0
                · have hle := is_empty h0
                  have HMA : Hid (E.labR l i = E.standAt l X0 (k + 1) (E.labB l ks (k + 1)) (ks.drop (k + 1))) := hid (by
                    have hbe : lb = ⟨#[]⟩ := by
                      apply ByteArray.ext
                      apply Array.ext'
                      have : lb.data.toList.length = 0 := by simpa using h0
                      exact List.eq_nil_of_length_eq_zero this
                    rw [hST.out, HME.out]; simp [E.bare, h8, hbe])
                  clear h8 h7 h10 hST h0 hc7
                  have HW1 := HBN
                  have HZ1 : Hid (wr.heap.size ≤ (wr.alloc (.cells #[.int .i64 ke, .string lb, .string nm, .string bd, .int .i64 mm, .int .i64 nn, .slice B1 tt.length d1, .slice B2 uu.length d2] 49)).heap.size) := hid (by simp)
                  have HR1 := HRN
                  have HN1 := HNN
                  go_wp2
                  go_loopw [10] (fun v10 wi => ∃ j : Nat, v10 = .int .i64 j ∧ j ≤ k ∧ Below w.heap.size w wi ∧ wr.heap.size ≤ wi.heap.size ∧ RdI wi (.slice (some ⟨g, 0, none⟩) ks.length c5) ks ∧ Hid (wi.heap[wr.heap.size]? = (some (.cells #[.int .i64 ke, .string lb, .string nm, .string bd, .int .i64 mm, .int .i64 nn, .slice B1 tt.length d1, .slice B2 uu.length d2] 49 (0, 0)))) ∧ Hid (∀ i, i < j → True)) (fun v10 _ => k - (intOf v10).toNat)
                  case atStart => exact ⟨0, rfl, by omega, HW1.out, HZ1.out, HR1.out, HN1, hid fun _ _ => trivial⟩
                  case round =>
                    obtain ⟨j, rfl, hj, hBi, hzi, hRi, hNi, hS⟩ := hrel
                    have HRi := hid hRi
                    have HBi := hid hBi
                    have hni := heap_lt hNi.out
                    by_cases hjk : j < k
                    · have hjz : (j : Int) < (k : Int) := by omega
                      have cn1 := Lib.cell_of_heap hNi.out 1
                      simp only [List.getElem?_toArray] at cn1
                      have HS2 : Hid (∀ i, i < j + 1 → True) := hid fun _ _ => trivial
                      clear hRi hBi
                      go_wp2
                      go_quiet (fail)
                      go_wp2
                      go_roundw
                      case rel => exact ⟨j + 1, by go_num, by omega, below_drewN HBi.out _, hzi, HRi.out.below (below_drewN (Below.refl _ _) _), hid hNi.out, HS2⟩
                      case measure => simp [intOf]; omega
                    · have hjz : ¬ (j : Int) < (k : Int) := by omega
                      have HT : Hid (E.standAt l X0 (k + 1) (E.labB l ks (k + 1)) (ks.drop (k + 1)) = E.labR l i) := hid (by
                        rw [HMA.out])
                      clear hRi hBi
                      go_wp2
                      go_roundw
                      case rel => first | exact ⟨k + 1, by go_num, by omega, HBi.out, HRi.out, HT⟩ | ((repeat apply Exists.intro); exact ⟨⟨k + 1, by go_num, by omega, HBi.out, HRi.out, HT⟩, rfl⟩)
                      case measure => simp [intOf]; omega
                · have hle := ne_empty (show 0 < lb.size by omega)
                  have HZ : Hid (E.labR l i = false) := hid (by
                    rw [hST.out, HME.out]
                    have : lb ≠ ⟨#[]⟩ := by rintro rfl; exact h0 rfl
                    simp [E.bare, this])
                  clear h8 h7 h10 hST h0 hc7
                  go_wp2
                  go_ret
                  exact ⟨ret_bool HZ.out.symm, HBN.out⟩
            · subst hc0
              have z7 : (X0.kind == 7) = true := by simp [hc7]
              by_cases h8 : ke = 8
              · have z8 : (ke == 8) = true := by simp [h8]
                have HZ : Hid (E.labR l i = false) := hid (by rw [hST.out, HME.out]; simp [E.bare, h8])
                clear h8 h7 h10 hST hc7
                go_wp2
                go_ret
                exact ⟨ret_bool HZ.out.symm, HBN.out⟩
              · have z8 : (ke == 8) = false := beq_eq_false_iff_ne.2 h8
                by_cases h0 : lb.size = 0
                · have hle := is_empty h0
                  have HMA : Hid (E.labR l i = E.standAt l X0 1 (E.labB l ks 1) (ks.drop 1)) := hid (by
                    have hbe : lb = ⟨#[]⟩ := by
                      apply ByteArray.ext
                      apply Array.ext'
                      have : lb.data.toList.length = 0 := by simpa using h0
                      exact List.eq_nil_of_length_eq_zero this
                    rw [hST.out, HME.out]; simp [E.bare, h8, hbe])
                  clear h8 h7 h10 hST h0 hc7
                  have HW1 := HBN
                  have HZ1 : Hid (wr.heap.size ≤ (wr.alloc (.cells #[.int .i64 ke, .string lb, .string nm, .string bd, .int .i64 mm, .int .i64 nn, .slice B1 tt.length d1, .slice B2 uu.length d2] 49)).heap.size) := hid (by simp)
                  have HR1 := HRN
                  have HN1 := HNN
                  go_wp2
                  go_loopw [10] (fun v10 wi => v10 = .int .i64 0 ∧ Below w.heap.size w wi ∧ wr.heap.size ≤ wi.heap.size ∧ RdI wi (.slice (some ⟨g, 0, none⟩) ks.length c5) ks) (fun _ _ => 0)
                  case atStart => exact ⟨rfl, HW1.out, HZ1.out, HR1.out⟩
                  case round =>
                    obtain ⟨rfl, hBi, hzi, hRi⟩ := hrel
                    have HRi := hid hRi
                    have HBi := hid hBi
                    have HT : Hid (E.standAt l X0 1 (E.labB l ks 1) (ks.drop 1) = E.labR l i) := hid (by rw [HMA.out])
                    clear hRi hBi
                    go_wp2
                    go_roundw
                    case rel => first | exact ⟨1, by go_num, by omega, HBi.out, HRi.out, HT⟩ | ((repeat apply Exists.intro); exact ⟨⟨1, by go_num, by omega, HBi.out, HRi.out, HT⟩, rfl⟩)
                    case measure => simp [intOf]; omega
                · have hle := ne_empty (show 0 < lb.size by omega)
                  have HZ : Hid (E.labR l i = false) := hid (by
                    rw [hST.out, HME.out]
                    have : lb ≠ ⟨#[]⟩ := by rintro rfl; exact h0 rfl
                    simp [E.bare, this])
                  clear h8 h7 h10 hST h0 hc7
                  go_wp2
                  go_ret
                  exact ⟨ret_bool HZ.out.symm, HBN.out⟩
      · obtain rfl : k = ks.length := by omega
        go_wp2
        go_ret
        refine ⟨ret_bool ?_, hB⟩
        rw [← hE.out, List.drop_length, E.standAt]

end Go.Proofs.Ytmcdggjcpfkchaa
end
