/-
  The walk of graph's Order: its answer. Conditions: few modules, short names.
-/
import Derived.Test.YtahaflapkdjmhaaGrB2
import Derived.Test.YtahaflapkdjmhaaGrS3
namespace Go.Proofs.Ytahaflapkdjmhaa
open Go.RowKit

namespace Gr
/-- What a module imports, by place. -/
def nxL (l : List Md) : Nat → List Nat := rowsF (linksL l)
def ltP (l : List Md) : Nat → Nat → Prop := fun a b => nlt l a b = true
inductive OrderAns (l : List Md) (out : List Nat) (at_ e : Int) : Prop
  | again (h1 : 0 ≤ againL l) (h2 : out = []) (h3 : at_ = againL l) (h4 : e = 7)
  | lost (h0 : againL l < 0) (h1 : 0 ≤ lostL l) (h2 : out = []) (h3 : at_ = lostL l) (h4 : e = 6)
  | cycle (m : Nat) (h0 : againL l < 0) (h1 : lostL l < 0) (hm : Best (ltP l) (fun w => w < l.length ∧ Cyc (nxL l) w) (some m)) (h2 : out = []) (h3 : at_ = m) (h4 : e = 8)
  | order (h0 : againL l < 0) (h1 : lostL l < 0) (hg : Greedy (ltP l) (nxL l) l.length out) (hl : out.length = l.length) (hc : ∀ i, i < l.length → ¬ Cyc (nxL l) i) (h3 : at_ = 0) (h4 : e = 0)

theorem firstP_neg {p : Nat → Md → Bool} {l : List Md} (h : firstP p l 0 < 0) : ∀ (i : Nat) (hi : i < l.length), p i l[i] = false := by
  rcases firstP_cases p l 0 with ⟨_, h2⟩ | ⟨i, hi, h1, _⟩
  · intro i hi; have := h2 i hi; simpa using this
  · rw [h1] at h; omega
theorem again_unlike {l : List Md} (h : againL l < 0) : Unlike l := by
  have key : ∀ a b, a < b → b < l.length → a < l.length → nm l a ≠ nm l b := by
    intro a b hab hb ha e
    have h1 := firstP_neg h b hb
    simp only [againP, decide_eq_false_iff_not, Int.not_lt] at h1
    rw [nm_at ha, nm_at hb] at e
    have h2 := find_own l a ha
    rw [← e] at h1
    omega
  intro a b ha hb hne e
  rcases Nat.lt_or_gt_of_ne hne with h1 | h1
  · exact key a b h1 hb ha e
  · exact key b a h1 ha hb e.symm
theorem nxL_lt (l : List Md) : ∀ i, i < l.length → ∀ k ∈ nxL l i, k < l.length := by
  intro i hi k hk
  have h1 : i < (linksL l).length := by rw [linksL_length]; exact hi
  simp only [nxL, rowsF, List.getElem?_eq_getElem h1, Option.getD_some] at hk
  exact linksL_lt l _ (List.getElem_mem h1) k hk
theorem back_turned (l : List Md) (a b : Nat) : a ∈ rowsF (backL (linksL l)) b ↔ b ∈ nxL l a := by
  by_cases hb : b < (linksL l).length
  · rw [backL_rows _ _ hb, turned_mem]; rfl
  · have h1 : rowsF (backL (linksL l)) b = [] := by simp [rowsF, backL, hb]
    rw [h1]
    constructor
    · intro h; cases h
    · intro h
      exfalso
      by_cases ha : a < l.length
      · have := nxL_lt l a ha b h
        rw [linksL_length] at hb
        exact hb this
      · have h2 : nxL l a = [] := by simp [nxL, rowsF, linksL, ha]
        rw [h2] at h; cases h
theorem back_lt (l : List Md) : ∀ i, i < l.length → ∀ k ∈ rowsF (backL (linksL l)) i, k < l.length := by
  intro i hi k hk
  have h1 := (back_turned l k i).1 hk
  by_cases hkl : k < l.length
  · exact hkl
  · have h2 : nxL l k = [] := by simp [nxL, rowsF, linksL, hkl]
    rw [h2] at h1; cases h1
theorem back_cnt (l : List Md) (i k : Nat) (hi : i < l.length) : (rowsF (backL (linksL l)) i).count k = (rowsF (linksL l) k).count i := by
  rw [backL_rows _ _ (by rw [linksL_length]; exact hi), turned_count]
theorem best_all {l : List Md} (hu : Unlike l) {disc : Nat → Nat} {D : List Nat} (L : Left (nxL l) l.length disc D) : Best (ltP l) (fun w => w < l.length ∧ Cyc (nxL l) w) (groups (nlt l) (nxL l) (rowsF (backL (linksL l))) (l.length + 1) D.reverse [] none) :=
  groups_all (lt := nlt l) (fun a b c h g => nlt_trans h g) (fun a b ha hb hne => by
    cases e : nlt l a b with
    | true => exact Or.inl rfl
    | false => exact Or.inr (hu.lt hb ha (fun e => hne e.symm) e)) (back_turned l) (nxL_lt l) (back_lt l) L (Nat.lt_succ_self _)
end Gr

def OrderPost (l : List Gr.Md) (w : World) (e : Ending) (w' : World) : Prop := ∃ v out at_ e0, e = .returned (.tuple #[v, .int .i64 at_, .int .i64 e0]) ∧ RdN w' w'.heap.size v out ∧ Gr.OrderAns l out at_ e0 ∧ Below w.heap.size w w'

theorem rdN_nil (w : World) (B : Nat) : RdN w B (.slice none 0 0) [] := ⟨none, 0, rfl, Nat.le_refl _, by unfold maxLen; omega, fun h => absurd rfl h⟩

set_option maxRecDepth 1000000 in
set_option maxHeartbeats 8000000 in
theorem order_any (l : List Gr.Md) (hq : Gr.Few l) (v : Value) (w : World) (hx : RdM w w.heap.size v l) :
    Calls Try.prog 7 #[v] w (OrderPost l w) := by
  have HX := hid hx
  have HQ := hid hq
  have hn := hq.n
  have HF := hid (firsts_any l hq v w hx)
  obtain ⟨Al, capl, rfl, -, -, -⟩ := hx
  clear hq
  go_enter Try.func7, Try.ntmps7
  go_wp2_with fail
  refine (HF.out).mono ?_
  rintro e w1 ⟨bm, rfl, -, hbm, hm, hb⟩
  have HB1 := hid hb
  have HX1 := hid ((HX.out.below hb).mono hb.size)
  have HM1 := hid hm
  have HA := hid (again_any l HQ.out _ bm w1 HX1.out hm hbm)
  clear hb hm HF
  by_cases ha : 0 ≤ Gr.againL l
  · obtain ⟨a, hae⟩ : ∃ a, a = Gr.againL l := ⟨_, rfl⟩
    rw [← hae] at ha HA
    have HAE := hid hae
    clear hae
    go_wp2_with fail
    refine (HA.out).mono ?_
    rintro e w2 ⟨rfl, hb⟩
    have HB2 := hid (HB1.out.trans (hb.mono HB1.out.size))
    have HA0 := hid ha
    clear hb
    go_wp2_with fail
    go_ret3
    exact ⟨_, [], a, 7, rfl, rdN_nil _ _, .again (by rw [← HAE.out]; exact HA0.out) rfl HAE.out rfl, HB2.out⟩
  · obtain ⟨a, hae⟩ : ∃ a, a = Gr.againL l := ⟨_, rfl⟩
    rw [← hae] at ha HA
    have HAE := hid hae
    have HA0 := hid (show Gr.againL l < 0 by omega)
    clear hae
    go_wp2_with fail
    refine (HA.out).mono ?_
    rintro e w2 ⟨rfl, hb⟩
    have HB2 := hid (HB1.out.trans (hb.mono HB1.out.size))
    have HX2 := hid ((HX1.out.below hb).mono hb.size)
    have HM2 := hid (HM1.out.below hb hbm)
    have hbm2 : bm < w2.heap.size := Nat.lt_of_lt_of_le hbm hb.size
    have HLO := hid (lost_any l HQ.out _ bm w2 HX2.out HM2.out hbm2)
    clear hb
    by_cases hl : 0 ≤ Gr.lostL l
    · obtain ⟨b, hbe⟩ : ∃ b, b = Gr.lostL l := ⟨_, rfl⟩
      rw [← hbe] at hl HLO
      have HLE := hid hbe
      clear hbe
      go_wp2_with fail
      refine (HLO.out).mono ?_
      rintro e w3 ⟨rfl, hb⟩
      have HB3 := hid (HB2.out.trans (hb.mono HB2.out.size))
      have HL0 := hid hl
      clear hb
      go_wp2_with fail
      go_ret3
      exact ⟨_, [], b, 6, rfl, rdN_nil _ _, .lost HA0.out (by rw [← HLE.out]; exact HL0.out) rfl HLE.out rfl, HB3.out⟩
    · obtain ⟨b, hbe⟩ : ∃ b, b = Gr.lostL l := ⟨_, rfl⟩
      rw [← hbe] at hl HLO
      have HL0 := hid (show Gr.lostL l < 0 by omega)
      clear hbe
      go_wp2_with fail
      refine (HLO.out).mono ?_
      rintro e w3 ⟨rfl, hb⟩
      have HB3 := hid (HB2.out.trans (hb.mono HB2.out.size))
      have HX3 := hid ((HX2.out.below hb).mono hb.size)
      have HM3 := hid (HM2.out.below hb hbm2)
      have hbm3 : bm < w3.heap.size := Nat.lt_of_lt_of_le hbm2 hb.size
      have HLK := hid (links_any l HQ.out _ bm w3 HX3.out HM3.out hbm3)
      clear hb HLO HM2 HM1
      go_wp2_with fail
      refine (HLK.out).mono ?_
      rintro e w4 ⟨r, rfl, hr, hb⟩
      have HB4 := hid (HB3.out.trans (hb.mono HB3.out.size))
      have HX4 := hid ((HX3.out.below hb).mono hb.size)
      have HR4 := hid hr
      have hll := Gr.linksL_length l
      have HRV := reversed_any (Gr.linksL l) (by rw [hll]; exact Gr.linksL_lt l) (Gr.linksL_few HQ.out) (by rw [hll]; exact hn) r w4 hr
      obtain ⟨bi, rfl, -, -⟩ := hr
      rw [hll] at HRV HR4
      have HRV := hid HRV
      have HLLN := hid hll
      rw [hll]
      clear hb HLK hll
      go_wp2_with fail
      refine (HRV.out).mono ?_
      rintro e w5 ⟨r2, rfl, hr2, hb⟩
      have HB5 := hid (HB4.out.trans (hb.mono HB4.out.size))
      have HX5 := hid ((HX4.out.below hb).mono hb.size)
      have HR5 := hid ((HR4.out.below hb).mono hb.size)
      have HV5 := hid hr2
      have hlb : (Gr.backL (Gr.linksL l)).length = l.length := by rw [Gr.backL_length, HLLN.out]
      obtain ⟨bu, rfl, -, -⟩ := hr2
      rw [hlb] at HV5 ⊢
      have HLB := hid hlb
      have HUN := hid (Gr.again_unlike HA0.out)
      have HAR := hid (arranged_any l hn HUN.out (Gr.linksL l) (Gr.backL (Gr.linksL l)) HLLN.out hlb (Gr.linksL_lt l) (fun r hr k hk => by have := Gr.backL_lt _ r hr k hk; rw [hlb] at this; exact this) (Gr.linksL_few HQ.out) (Gr.backL_few _ (Gr.linksL_few HQ.out) (by rw [HLLN.out]; exact hn)) (fun i k hi hk => Gr.back_cnt l i k hi) _ _ _ w5 HX5.out HR5.out HV5.out)
      clear hb HRV hlb
      go_wp2_with fail
      refine (HAR.out).mono ?_
      rintro e w6 ⟨r3, out, wt, rfl, hro, hb, hgr, hwt⟩
      have HB6 := hid (HB5.out.trans (hb.mono HB5.out.size))
      have HX6 := hid ((HX5.out.below hb).mono hb.size)
      have HR6 := hid ((HR5.out.below hb).mono hb.size)
      have HV6 := hid ((HV5.out.below hb).mono hb.size)
      have HO := hid hro
      have HGR := hid hgr
      have HFU := hid (hwt.full hgr (Gr.nxL_lt l))
      have hol : out.length ≤ l.length := hgr.len_le
      obtain ⟨Ao, co, rfl, -, -, -⟩ := hro
      clear hb hgr hwt HAR
      by_cases hc : out.length < l.length
      · have hcz : (out.length : Int) < (l.length : Int) := by omega
        have HCY := hid (show ∃ i, i < l.length ∧ Gr.Cyc (Gr.nxL l) i from by
          rcases HFU.out with ⟨h1, _⟩ | ⟨_, h2⟩
          · omega
          · exact h2)
        have HLC := hid (least_any l hn (Gr.linksL l) (Gr.backL (Gr.linksL l)) bi bu Al capl HLLN.out HLB.out (Gr.linksL_lt l) (fun r hr k hk => by have := Gr.backL_lt _ r hr k hk; rw [HLB.out] at this; exact this) (fun r hr => by have := Gr.linksL_few HQ.out r hr; omega) (Gr.backL_few _ (Gr.linksL_few HQ.out) (by rw [HLLN.out]; exact hn)) w6 HX6.out HR6.out HV6.out)
        clear hc
        go_wp2_with fail
        refine (HLC.out).mono ?_
        rintro e w7 ⟨D, disc, hL, rfl, hb⟩
        have HB7 := hid (HB6.out.trans (hb.mono HB6.out.size))
        have hbest := Gr.best_all HUN.out hL
        obtain ⟨bb, hbb⟩ : ∃ bb, Gr.groups (Gr.nlt l) (Gr.rowsF (Gr.linksL l)) (Gr.rowsF (Gr.backL (Gr.linksL l))) (l.length + 1) D.reverse [] none = bb := ⟨_, rfl⟩
        have hbest2 : Gr.Best (Gr.ltP l) (fun w => w < l.length ∧ Gr.Cyc (Gr.nxL l) w) bb := hbb ▸ hbest
        rw [hbb]
        clear hb hbest hL hbb
        cases bb with
        | none =>
          obtain ⟨i, hi⟩ := HCY.out
          exact absurd hi (hbest2.no rfl i)
        | some m =>
          have HBE := hid hbest2
          clear hbest2
          show _
          go_wp2_with fail
          go_ret3
          exact ⟨_, [], m, 8, rfl, rdN_nil _ _, .cycle m HA0.out HL0.out HBE.out rfl rfl rfl, HB7.out⟩
      · have hcz : ¬ (out.length : Int) < (l.length : Int) := by omega
        have HFI := hid (show out.length = l.length ∧ ∀ i, i < l.length → ¬ Gr.Cyc (Gr.nxL l) i from by
          rcases HFU.out with h1 | ⟨h1, _⟩
          · exact h1
          · omega)
        clear hc
        go_wp2_with fail
        go_ret3
        exact ⟨_, out, 0, 0, rfl, HO.out, .order HA0.out HL0.out HGR.out HFI.out.1 HFI.out.2 rfl rfl, HB6.out⟩

end Go.Proofs.Ytahaflapkdjmhaa
