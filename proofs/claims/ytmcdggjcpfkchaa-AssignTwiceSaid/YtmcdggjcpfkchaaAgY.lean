/-
  The walks of slices.Clone at parts, of assign's retyped and Expr. Conditions: at most 1000 parts, whose types have at most 5000 nodes.
-/
import Derived.Test.YtmcdggjcpfkchaaAgX
import Derived.Deep.RegionWith
namespace Go.Proofs.Ytmcdggjcpfkchaa
open Go.RowKit Go.Maps

theorem rdp_below {w w' : World} {B : Nat} {v : Value} {l : List E.Pt} (h : RdP w B v l) (hb : Below w.heap.size w w') (hB : B ≤ w.heap.size := by exact Nat.le_refl _) : RdP w' w'.heap.size v l := by
  have hb2 : Below B w w' := hb.mono hB
  obtain ⟨A, cap, hv, h1, h2, hc⟩ := h.low hb2 (fun h => h.low hb2)
  refine ⟨A, cap, hv, h1, h2, fun hn => ?_⟩
  obtain ⟨b, o, ha, hlt, hx⟩ := hc hn
  have hs := hb.size
  refine ⟨b, o, ha, by omega, fun i hi => ?_⟩
  obtain ⟨vt, vu, c0, c1, c2, c3, c4, c5, c6, c7, ht, hu⟩ := hx i hi
  exact ⟨vt, vu, c0, c1, c2, c3, c4, c5, c6, c7, ht.mono (by omega), hu.mono (by omega)⟩
def CloneP (l : List E.Pt) (w : World) (e : Ending) (w' : World) : Prop := ∃ g cap zs, e = .returned (.slice (some ⟨g, 0, none⟩) l.length cap) ∧ zs.map (·.1) = l ∧ zs.length = l.length ∧ RowE w' w.heap.size g cap zs ∧ Below w.heap.size w w'

theorem lenY {zs : List (E.Pt × Value × Value)} {l : List E.Pt} (h : zs.map (·.1) = l) : zs.length = l.length := by rw [← h, List.length_map]

set_option maxHeartbeats 2000000 in
set_option maxRecDepth 100000 in
theorem cloneE_any (l : List E.Pt) (h0 : l ≠ []) (hl : l.length ≤ 1000) (v : Value) (w : World) (hx : RdP w w.heap.size v l) :
    Calls Try.prog 52 #[v] w (CloneP l w) := by
  obtain ⟨i0, hi, hz0, hz1, hz2⟩ := info_parts infoPart
  have q22 : ∀ (w : World) (a : Option Addr) (n c n' c' : Nat), (binOp .eql 32 (.slice a n c) (.slice none n' c')).run Try.prog w = .ok (.bool a.isNone) w := fun w a n c n' c' => Lib.run_eql_slice_nil w _ _ a n c n' c' Try.underlying32
  obtain ⟨ys, b, o, cap, hm, hy, rfl, hb, hc1, hc2, hcell⟩ := hx.pick h0
  have HS := hid hcell
  have HY := hid hy
  have HM := hid hm
  have hyl := lenY hm
  have HC1 := hid (cellsP_one hy)
  have HL8 := hid (show (cellsP ys).length = l.length * 8 from by rw [cellsP_len, hyl])
  clear hcell hx hy hm
  go_enter Try.func52, Try.ntmps52
  go_wp2_with (at_builtin; refine wpList_append_own _ rfl _ _ 32 rfl w.heap.size 49 i0 (.agg #[.int .i64 0, .string ⟨#[]⟩, .string ⟨#[]⟩, .string ⟨#[]⟩, .int .i64 0, .int .i64 0, .slice none 0 0, .slice none 0 0]) 8 120 Try.underlying32 hi hz0 hz1 hz2 rfl (by decide) _ _ _ rfl (World.ownsRow_made w #[] 0 (Nat.le_refl _) (Nat.zero_le _) (by simp)) ⟨b, o, none⟩ l.length cap (cellsP ys) rfl HL8.out ?c1 HC1.out ?c3 ?c4 ?c5 ?_)
  case c1 => exact fun j u hj => Lib.cell?_alloc_some _ (by
    have := HS.out j u hj
    have e : (⟨b, o, none⟩ : Addr).add j = ⟨b, o + j, none⟩ := by simp [Addr.add]
    rw [e]; exact this)
  case c3 => unfold maxLen; omega
  case c4 => omega
  case c5 => simp
  intro v' w1 hown hgrow hnil
  have hO : OwnP w.heap.size v' ys w1 := by
    unfold OwnP
    rw [hyl]
    simpa using hown
  have hB : Below w.heap.size w w1 := (below_new _).grown hgrow (by simp) (by intro k hk; simp [Value.ownBlock] at hk; omega)
  have hyn : ys ≠ [] := by intro e; rw [e] at hyl; exact h0 (List.eq_nil_of_length_eq_zero hyl.symm)
  obtain ⟨g, cap', rfl, -⟩ := hO.form hyn
  have HR := hid (rowE_of hO HY.out hB (Nat.le_refl _))
  have HB := hid hB
  clear hO hB hown hgrow hnil
  rw [hyl]
  go_wp2
  go_ret
  exact ⟨g, cap', ys, rfl, HM.out, hyl, HR.out, HB.out⟩

/-- What is asked of an expression's types. -/
structure ExOk (l : List E.Pt) : Prop where
  ne : l ≠ []
  len : l.length ≤ 1000
  t5 : ∀ p ∈ l, p.t.length ≤ 5000 ∧ p.u.length ≤ 5000
  wf : ∀ p ∈ l, Wf p.t ∧ Wf p.u

def RetPost (cs : List L.Ch) (l : List E.Pt) (w : World) (e : Ending) (w' : World) : Prop := ∃ g cap zs, e = .returned (.slice (some ⟨g, 0, none⟩) l.length cap) ∧ zs.map (·.1) = E.fillE cs l ∧ zs.length = l.length ∧ RowE w' w.heap.size g cap zs ∧ Below w.heap.size w w'

set_option maxHeartbeats 8000000 in
set_option maxRecDepth 100000 in
theorem retyped_any (cs : List L.Ch) (ha : Asg cs) (l : List E.Pt) (hl : ExOk l) (v : Value) (bp : Nat) (w : World) (hx : RdP w w.heap.size v l) (hf : FillC w w.heap.size bp cs) :
    Calls Try.prog 32 #[v, .func (.func 49) #[] #[.pointer (some ⟨bp, 0, none⟩)]] w (RetPost cs l w) := by
  have HC := hid (cloneE_any l hl.ne hl.len v w hx)
  have HF := hid hf
  have HA := hid ha
  have HL := hid hl
  have hln := hl.len
  obtain ⟨A, cap, rfl, -⟩ := hx
  have hent := enter_fill
  clear ha hf hl
  go_enter Try.func32, Try.ntmps32
  go_wp2_with fail
  refine (HC.out).mono ?_
  rintro e w1 ⟨g, cap1, zs0, rfl, hz0, hzl0, hr0, hb1⟩
  have HR0 := hid hr0
  have HZ0 := hid (show zs0.map (·.1) = E.upto cs l 0 from by rw [E.upto_zero]; exact hz0)
  have HB1 := hid hb1
  have hg := hr0.block
  clear hr0 hb1 hz0 HC
  go_wp2_with fail
  go_loopw [11] (fun vi wr => ∃ (k : Nat) (zs : List (E.Pt × Value × Value)), vi = .int .i64 k ∧ k ≤ l.length ∧ Hid (zs.map (·.1) = E.upto cs l k) ∧ zs.length = l.length ∧ Hid (RowE wr w.heap.size g cap1 zs) ∧ Below w.heap.size w wr) (fun vi _ => l.length - (intOf vi).toNat)
  case atStart => exact ⟨0, zs0, rfl, by omega, HZ0, hzl0, HR0, HB1.out⟩
  case round =>
    clear HR0 HZ0 HB1 hzl0
    obtain ⟨k, zs, rfl, hk, hZ, hzl, hR, hbel⟩ := hrel
    obtain ⟨wo, hwo⟩ : ∃ wo : World, wo = wr := ⟨_, rfl⟩
    subst hwo
    by_cases hlt : k < l.length
    · have hkz : (k : Int) < (l.length : Int) := by omega
      have hkzs : k < zs.length := by omega
      obtain ⟨c6, c7, f6, f7⟩ := hR.out.at_ hkzs
      obtain ⟨r1, r2, -, -⟩ := hR.out.rd zs[k] (List.getElem_mem hkzs)
      have hzk : zs[k].1 = l[k] := by
        have := congrArg (·[k]?) hZ.out
        rw [E.upto_at cs hlt] at this
        simpa [hkzs] using this
      rw [hzk] at r1 r2
      have h5 := HL.out.t5 l[k] (List.getElem_mem hlt)
      have hw5 := HL.out.wf l[k] (List.getElem_mem hlt)
      have hblk := hR.out.block
      have HB := hid hbel
      have hsz := hbel.size
      have HF1 := hid (fun (V : World) (hV : Below wo.heap.size wo V) => fill1_any cs HA.out.up HA.out.ne HA.out.l60 l[k].t h5.1 hw5.1 zs[k].2.1 bp V ((r1.below hV).mono hV.size) ((HF.out.low (hbel.trans (hV.mono hsz))).mono (by have := hV.size; omega)))
      have HF2 := hid (fun (V : World) (hV : Below wo.heap.size wo V) => fill1_any cs HA.out.up HA.out.ne HA.out.l60 l[k].u h5.2 hw5.2 zs[k].2.2 bp V ((r2.below hV).mono hV.size) ((HF.out.low (hbel.trans (hV.mono hsz))).mono (by have := hV.size; omega)))
      have HBOTH := hid (fun (V : World) (hV : Below wo.heap.size wo V) (v1 v2 : Value) => (hR.out.below hV).both hZ.out hlt (v1 := v1) (v2 := v2))
      have HK6 := hid (fun (V : World) (hV : Below wo.heap.size wo V) => And.intro ((hR.out.below hV).at_ hkzs) (hR.out.below hV).block)
      obtain ⟨A6, q6, e6, -⟩ := id r1
      obtain ⟨A7, q7, e7, -⟩ := id r2
      obtain ⟨n6, hn6⟩ : ∃ n6, l[k].t.length = n6 := ⟨_, rfl⟩
      obtain ⟨n7, hn7⟩ : ∃ n7, l[k].u.length = n7 := ⟨_, rfl⟩
      rw [hn6] at e6
      rw [hn7] at e7
      clear hn6 hn7
      have E6 := hid e6
      have E7 := hid e7
      rw [e6] at c6 HF1
      rw [e7] at c7 HF2
      clear hR hZ hzk r1 r2 e6 e7 hw5 h5 hbel
      go_wp2_with fail
      go_region_with (first
        | (go_at_call_of 49 (Value.slice A6 n6 q6)
           refine (HF1.out _ ?_).mono ?_
           exact ⟨rfl, rfl, rfl, Nat.le_refl _, fun _ _ => rfl⟩
           rintro e w2 ⟨v1, rfl, hO1, h01⟩
           have X2 := hid (show Below wo.heap.size wo w2 from ⟨h01.os, h01.tape, h01.output, h01.size, h01.block⟩)
           obtain ⟨⟨d6, d7, k6, k7⟩, -⟩ := HK6.out w2 X2.out
           rw [E6.out] at d6
           rw [E7.out] at d7
           have O1 := hid hO1
           obtain ⟨s1, s2, rfl, -⟩ := hO1.rd
           clear h01 hO1)
        | (go_at_call_of 49 (Value.slice A7 n7 q7)
           refine (HF2.out _ ?_).mono ?_
           exact X2.out
           rintro e w3 ⟨v2, rfl, hO2, h02⟩
           have X3 := hid (X2.out.trans (h02.mono X2.out.size))
           obtain ⟨⟨d6', d7', k6', k7'⟩, -⟩ := HK6.out w3 X3.out
           rw [E6.out] at d6'
           rw [E7.out] at d7'
           have O2 := hid hO2
           obtain ⟨s3, s4, rfl, -⟩ := hO2.rd
           have O1' := hid (O1.out.below h02)
           clear h02 hO2))
      all_goals
        obtain ⟨zs', hR', hZ', hlz⟩ := HBOTH.out w3 X3.out _ _ O1'.out.rd (off_own O1'.out (show g < wo.heap.size from hblk.2)) O2.out.rd (off_own O2.out (Nat.lt_of_lt_of_le hblk.2 X2.out.size))
        have HR2 := hid hR'
        have HZ2 := hid hZ'
        have HB3 := hid (((HB.out.trans (X3.out.mono hsz)).setCell (p := ⟨g, k * 8 + 6, none⟩) hblk.1 (.slice s1 (L.fillL cs l[k].t).length s2)).setCell (p := ⟨g, k * 8 + 7, none⟩) hblk.1 (.slice s3 (L.fillL cs l[k].u).length s4))
        clear hR' hZ' d6 d7 k6 k7 d6' d7' k6' k7' c6 c7 f6 f7
        go_wp2_with fail
        go_roundw
        case rel => exact ⟨k + 1, zs', by go_num, by omega, HZ2, by omega, HR2, HB3.out⟩
        case measure => simp [intOf]; omega
    · have hkz : ¬ (k : Int) < (l.length : Int) := by omega
      have e : k = l.length := by omega
      subst e
      have HZ := hid (show zs.map (·.1) = E.fillE cs l from by rw [hZ.out, E.upto_all])
      have HB := hid hbel
      clear hZ hbel
      go_wp2_with fail
      go_ret
      exact ⟨g, cap1, zs, rfl, HZ.out, hzl, hR.out, HB.out⟩

set_option maxHeartbeats 4000000 in
set_option maxRecDepth 100000 in
theorem expr_any (cs : List L.Ch) (ha : Asg cs) (l : List E.Pt) (hl : ExOk l) (v vl : Value) (w : World) (hx : RdP w w.heap.size v l) (hc : RdC w w.heap.size vl cs) :
    Calls Try.prog 18 #[v, vl] w (RetPost cs l w) := by
  have HX := hid hx
  have HA := hid ha
  have HL := hid hl
  have H1 := hid (filler_any cs ha.up ha.ne ha.n60 ha.wf vl w hc)
  obtain ⟨A, cap, rfl, -⟩ := hx
  obtain ⟨A2, cap2, rfl, -⟩ := hc
  clear ha hl
  go_enter Try.func18, Try.ntmps18
  go_wp2_with fail
  refine (H1.out).mono ?_
  rintro e w1 ⟨bp, rfl, h1, hF, hb⟩
  have HB := hid hb
  have H2 := hid (retyped_any cs HA.out l HL.out _ bp w1 (rdp_below HX.out hb) hF)
  clear hF hb H1
  go_wp2_with fail
  refine (H2.out).mono ?_
  rintro e w2 ⟨g, cap3, zs, rfl, hZ, hzl, hR, hb⟩
  have HR := hid (show RowE w2 w.heap.size g cap3 zs from ⟨row_more hR.own HB.out.size, hR.rd⟩)
  have HB2 := hid (HB.out.trans (hb.mono HB.out.size))
  have HZ := hid hZ
  clear hR hb H2 hZ
  go_wp2_with fail
  go_ret
  exact ⟨g, cap3, zs, rfl, HZ.out, hzl, HR.out, HB2.out⟩

/-- Both types of a part, written anew one after the other, with a call between. -/
theorem RowE.two {cs : List L.Ch} {e : List E.Pt} {w w3 : World} {B g cap k : Nat} {zs : List (E.Pt × Value × Value)} (h : RowE w B g cap zs) (hz : zs.map (·.1) = E.upto cs e k) (hk : k < e.length) {v1 v2 : Value}
    (h1 : Rd w w.heap.size v1 (L.fillL cs e[k].t)) (o1 : Off g v1 (L.fillL cs e[k].t)) (hb : Below (w.setCell ⟨g, k * 8 + 6, none⟩ v1).heap.size (w.setCell ⟨g, k * 8 + 6, none⟩ v1) w3) (h2 : Rd w3 w3.heap.size v2 (L.fillL cs e[k].u)) (o2 : Off g v2 (L.fillL cs e[k].u)) :
    (w3.cell? ⟨g, k * 8 + 7, none⟩).isSome = true ∧ w3.frozen? ⟨g, k * 8 + 7, none⟩ = false ∧ ∃ zs', RowE (w3.setCell ⟨g, k * 8 + 7, none⟩ v2) B g cap zs' ∧ zs'.map (·.1) = E.upto cs e (k + 1) ∧ zs'.length = zs.length := by
  have hzl : zs.length = e.length := by
    have := congrArg List.length hz
    rw [List.length_map, E.upto_len] at this
    exact this
  have hkz : k < zs.length := by omega
  have hat : zs[k].1 = e[k] := by
    have := congrArg (·[k]?) hz
    rw [E.upto_at cs hk] at this
    simpa [hkz] using this
  have a := (h.setT hkz h1 o1).below hb
  have hl2 : k < (zs.set k ({ zs[k].1 with t := L.fillL cs e[k].t }, v1, zs[k].2.2)).length := by rw [List.length_set]; exact hkz
  have b := a.setU (i := k) hl2 (v := v2) (t := L.fillL cs e[k].u) h2 o2
  obtain ⟨-, q7, -, f7⟩ := a.at_ hl2
  refine ⟨by rw [q7]; rfl, f7, _, b, ?_, by simp⟩
  rw [← E.upto_set cs hk, ← hz, List.map_set, List.map_set, List.set_set]
  congr 1
  rw [List.getElem_set_self]
  simp only [hat]
  rfl

set_option maxHeartbeats 8000000 in
set_option maxRecDepth 100000 in
theorem refExpr_any (cs : List L.Ch) (ha : Asg cs) (l : List E.Pt) (hl : ExOk l) (v vl : Value) (w : World) (hx : RdP w w.heap.size v l) (hc : RdC w w.heap.size vl cs) :
    Calls Try.prog 19 #[v, vl] w (RetPost cs l w) := by
  obtain ⟨i0, hi, hz0, hz1, hz2⟩ := info_parts infoPart
  have HX := hid hx
  have HA := hid ha
  have HL := hid hl
  have HC := hid hc
  have hln := hl.len
  obtain ⟨ys, b, o, cap, hm, hy, rfl, hb, hc1, hc2, hcell⟩ := hx.pick hl.ne
  have HS := hid hcell
  have HY := hid hy
  have HM := hid (show ys.map (·.1) = E.upto cs l 0 from by rw [E.upto_zero]; exact hm)
  have hyl := lenY hm
  have HC1 := hid (cellsP_one hy)
  have HL8 := hid (show (cellsP ys).length = l.length * 8 from by rw [cellsP_len, hyl])
  have hyn : ys ≠ [] := by intro e; rw [e] at hyl; exact hl.ne (List.eq_nil_of_length_eq_zero hyl.symm)
  obtain ⟨A2, cap2, rfl, -⟩ := hc
  clear hcell hx hy hm ha hl
  go_enter Try.func19, Try.ntmps19
  go_wp2_with (at_builtin; refine wpList_append_own _ rfl _ _ 32 rfl w.heap.size 49 i0 (.agg #[.int .i64 0, .string ⟨#[]⟩, .string ⟨#[]⟩, .string ⟨#[]⟩, .int .i64 0, .int .i64 0, .slice none 0 0, .slice none 0 0]) 8 120 Try.underlying32 hi hz0 hz1 hz2 rfl (by decide) _ _ _ rfl (World.ownsRow_made w #[] 0 (Nat.le_refl _) (Nat.zero_le _) (by simp)) ⟨b, o, none⟩ l.length cap (cellsP ys) rfl HL8.out ?c1 HC1.out ?c3 ?c4 ?c5 ?_)
  case c1 => exact fun j u hj => Lib.cell?_alloc_some _ (by
    have := HS.out j u hj
    have e : (⟨b, o, none⟩ : Addr).add j = ⟨b, o + j, none⟩ := by simp [Addr.add]
    rw [e]; exact this)
  case c3 => unfold maxLen; omega
  case c4 => omega
  case c5 => simp
  intro v' w1 hown hgrow hnil
  have hO : OwnP w.heap.size v' ys w1 := by
    unfold OwnP
    rw [hyl]
    simpa using hown
  have hB : Below w.heap.size w w1 := (below_new _).grown hgrow (by simp) (by intro k hk; simp [Value.ownBlock] at hk; omega)
  obtain ⟨g, cap', rfl, -⟩ := hO.form hyn
  have HR0 := hid (rowE_of hO HY.out hB (Nat.le_refl _))
  have HB1 := hid hB
  have hg := HR0.out.block
  clear hO hB hown hgrow hnil HY HC1 HL8
  rw [hyl]
  go_wp2_with fail
  go_loopw [6] (fun vi wr => ∃ (k : Nat) (zs : List (E.Pt × Value × Value)), vi = .int .i64 k ∧ k ≤ l.length ∧ Hid (zs.map (·.1) = E.upto cs l k) ∧ zs.length = l.length ∧ Hid (RowE wr w.heap.size g cap' zs) ∧ Below w.heap.size w wr) (fun vi _ => l.length - (intOf vi).toNat)
  case atStart => exact ⟨0, ys, rfl, by omega, HM, hyl, HR0, HB1.out⟩
  case round =>
    clear HR0 HM HB1
    obtain ⟨k, zs, rfl, hk, hZ, hzl, hR, hbel⟩ := hrel
    obtain ⟨wo, hwo⟩ : ∃ wo : World, wo = wr := ⟨_, rfl⟩
    subst hwo
    by_cases hlt : k < l.length
    · have hkz : (k : Int) < (l.length : Int) := by omega
      have hkzs : k < zs.length := by omega
      obtain ⟨A3, c3, hv3, -, -, hcx⟩ := HX.out
      simp only [Value.slice.injEq] at hv3
      obtain ⟨rfl, -, rfl⟩ := hv3
      obtain ⟨b', o', hA', hbb, hcx⟩ := hcx HL.out.ne
      simp only [Option.some.injEq, Addr.mk.injEq, and_true] at hA'
      obtain ⟨rfl, rfl⟩ := hA'
      obtain ⟨vt, vu, x0, x1, x2, x3, x4, x5, x6, x7, r1, r2⟩ := hcx k hlt
      have h5 := HL.out.t5 l[k] (List.getElem_mem hlt)
      have hblk := hR.out.block
      have HB := hid hbel
      have hsz := hbel.size
      have HX6 := hid (fun (V : World) (hV : Below w.heap.size w V) => And.intro ((hV.cell (p := ⟨b, o + k * 8 + 6, none⟩) hb).trans x6) ((hV.cell (p := ⟨b, o + k * 8 + 7, none⟩) hb).trans x7))
      have HF1 := hid (fun (V : World) (hV : Below w.heap.size w V) => refType_any cs HA.out l[k].t h5.1 vt (.slice A2 cs.length cap2) V ((r1.low hV).mono hV.size) ((HC.out.below hV).mono hV.size))
      have HF2 := hid (fun (V : World) (hV : Below w.heap.size w V) => refType_any cs HA.out l[k].u h5.2 vu (.slice A2 cs.length cap2) V ((r2.low hV).mono hV.size) ((HC.out.below hV).mono hV.size))
      obtain ⟨A6, q6, e6, -⟩ := id r1
      obtain ⟨A7, q7, e7, -⟩ := id r2
      obtain ⟨n6, hn6⟩ : ∃ n6, l[k].t.length = n6 := ⟨_, rfl⟩
      obtain ⟨n7, hn7⟩ : ∃ n7, l[k].u.length = n7 := ⟨_, rfl⟩
      rw [hn6] at e6
      rw [hn7] at e7
      subst e6
      subst e7
      obtain ⟨y6, y7⟩ := HX6.out wo hbel
      have HZ := hid hZ.out
      have HRR := hid hR.out
      clear hR hZ r1 r2 h5 hbel hcx x0 x1 x2 x3 x4 x5 x6 x7 hn6 hn7
      go_wp2_with fail
      refine (HF1.out _ HB.out).mono ?_
      rintro e w2 ⟨v1, rfl, hO1, h01⟩
      have HB2 := hid (HB.out.trans (h01.mono hsz))
      obtain ⟨s1, s2, rfl, -⟩ := hO1.rd
      have hR2 := HRR.out.below h01
      obtain ⟨d6, d7, k6, k7⟩ := hR2.at_ hkzs
      have hRT := hR2.setT hkzs hO1.rd (off_own hO1 (show g < wo.heap.size from hblk.2))
      have HOF := hid (off_own hO1 (show g < wo.heap.size from hblk.2))
      have HO1 := hid hO1
      have HR2 := hid hR2
      obtain ⟨t6, t7⟩ := HX6.out w2 HB2.out
      have HB3 := hid (HB2.out.setCell (p := ⟨g, k * 8 + 6, none⟩) hblk.1 (.slice s1 (L.fillL cs l[k].t).length s2))
      obtain ⟨u6, u7⟩ := HX6.out _ HB3.out
      have HTWO := hid (fun (V : World) (hV : Below (w2.setCell ⟨g, k * 8 + 6, none⟩ (.slice s1 (L.fillL cs l[k].t).length s2)).heap.size (w2.setCell ⟨g, k * 8 + 6, none⟩ (.slice s1 (L.fillL cs l[k].t).length s2)) V) (v2 : Value) => HR2.out.two (v2 := v2) HZ.out hlt HO1.out.rd HOF.out hV)
      obtain ⟨nt, hnt⟩ : ∃ nt, (L.fillL cs l[k].t).length = nt := ⟨_, rfl⟩
      rw [hnt] at HB3 u6 u7 HTWO ⊢
      obtain ⟨w5, hw5⟩ : ∃ w5, w2.setCell ⟨g, k * 8 + 6, none⟩ (.slice s1 nt s2) = w5 := ⟨_, rfl⟩
      have HW5 := hid hw5
      have hs5 : w2.heap.size = w5.heap.size := by rw [← hw5]; simp
      have hs2 : wo.heap.size ≤ w2.heap.size := h01.size
      rw [hw5] at HB3 u7 HTWO
      clear h01 hO1 hR2 hRT y6 y7 hnt u6 hw5
      go_wp2_with fail
      rw [HW5.out]
      refine (HF2.out _ HB3.out).mono ?_
      rintro e w3 ⟨v2, rfl, hO2, h02⟩
      obtain ⟨s3, s4, rfl, -⟩ := hO2.rd
      obtain ⟨q1, q2, zs', hR', hZ', hlz⟩ := HTWO.out w3 h02 _ hO2.rd (off_own hO2 (by have := hblk.2; omega))
      obtain ⟨q0, hq0⟩ := Option.isSome_iff_exists.1 q1
      have HRR2 := hid hR'
      have HZ2 := hid hZ'
      have HB5 := hid ((HB3.out.trans (h02.mono HB3.out.size)).setCell (p := ⟨g, k * 8 + 7, none⟩) hblk.1 (.slice s3 (L.fillL cs l[k].u).length s4))
      clear h02 hO2 hR' hZ' q1 d6 d7 k6 k7 t6 t7 u7
      go_wp2_with fail
      go_roundw
      case rel => exact ⟨k + 1, zs', by go_num, by omega, HZ2, by omega, HRR2, HB5.out⟩
      case measure => simp [intOf]; omega
    · have hkz : ¬ (k : Int) < (l.length : Int) := by omega
      have e : k = l.length := by omega
      subst e
      have HZ := hid (show zs.map (·.1) = E.fillE cs l from by rw [hZ.out, E.upto_all])
      have HB := hid hbel
      clear hZ hbel
      go_wp2_with fail
      go_ret
      exact ⟨g, cap', zs, rfl, HZ.out, hzl, hR.out, HB.out⟩

end Go.Proofs.Ytmcdggjcpfkchaa
