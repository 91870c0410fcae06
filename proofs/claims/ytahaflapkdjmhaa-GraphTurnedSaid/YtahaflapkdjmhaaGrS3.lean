/-
  The walk of graph's leastOnCycle. Conditions: few modules; rows of few numbers, and these turned.
-/
import Derived.Test.YtahaflapkdjmhaaGrS2
import Derived.Test.YtahaflapkdjmhaaGrQr
namespace Go.Proofs.Ytahaflapkdjmhaa
open Go.RowKit
attribute [local go_sem] Oper.semAt_some

def LcPost (l : List Gr.Md) (rows us : List (List Nat)) (n : Nat) (w : World) (e : Ending) (w' : World) : Prop := ∃ D disc, Gr.Left (Gr.rowsF rows) n disc D ∧ e = .returned (.int .i64 (Gr.bestI (Gr.groups (Gr.nlt l) (Gr.rowsF rows) (Gr.rowsF us) (n + 1) D.reverse [] none))) ∧ Below w.heap.size w w'

def LcI (l : List Gr.Md) (rows us : List (List Nat)) (p pw z3 : Nat) (lv iv uv : Value) (w : World) (is : List Nat) (W : World) : Prop :=
  (∃ vo A c P R, LcS p (p + 3) l.length pw lv iv uv (Gr.gst (Gr.nlt l) (Gr.rowsF rows) (Gr.rowsF us) (l.length + 1) is).1 (Gr.bestI (Gr.gst (Gr.nlt l) (Gr.rowsF rows) (Gr.rowsF us) (l.length + 1) is).2) W vo A c P R ∧ (∀ g, A.map (·.block) = some g → z3 < g)) ∧ z3 < W.heap.size ∧ Below w.heap.size w W

set_option maxRecDepth 1000000 in
set_option maxHeartbeats 8000000 in
theorem least_any (l : List Gr.Md) (hn : l.length ≤ 20) (rows us : List (List Nat)) (bi bu : Nat) (Al : Option Addr) (capl : Nat) (hrl : rows.length = l.length) (hul : us.length = l.length) (hr : ∀ r ∈ rows, ∀ k ∈ r, k < l.length) (hu : ∀ r ∈ us, ∀ k ∈ r, k < l.length)
    (hr400 : ∀ r ∈ rows, r.length ≤ 400) (hu400 : ∀ r ∈ us, r.length ≤ 400) (w : World) (hx : RdM w w.heap.size (.slice Al l.length capl) l) (hi : RdG w w.heap.size (.slice (some ⟨bi, 0, none⟩) l.length l.length) rows) (hv : RdG w w.heap.size (.slice (some ⟨bu, 0, none⟩) l.length l.length) us) :
    Calls Try.prog 16 #[.slice Al l.length capl, .slice (some ⟨bi, 0, none⟩) l.length l.length, .slice (some ⟨bu, 0, none⟩) l.length l.length] w (LcPost l rows us l.length w) := by
  have HX := hid hx
  have HI := hid hi
  have HV := hid hv
  have HRL := hid hrl
  have HUL := hid hul
  have HR := hid hr
  have HU := hid hu
  have HR4 := hid hr400
  have HU4 := hid hu400
  have HB0 := hid ((((Below.refl w.heap.size w).alloc (Nat.le_refl _) (.cells #[.slice Al l.length capl] 22)).alloc (by simp) (.cells #[.slice (some ⟨bi, 0, none⟩) l.length l.length] 40)).alloc (by simp; omega) (.cells #[.int .i64 (-1)] 3))
  obtain ⟨W0, hW0⟩ : ∃ W0, W0 = (((w.alloc (.cells #[.slice Al l.length capl] 22)).alloc (.cells #[.slice (some ⟨bi, 0, none⟩) l.length l.length] 40)).alloc (.cells #[.int .i64 (-1)] 3)) := ⟨_, rfl⟩
  obtain ⟨b0, b1, b2, -⟩ := six w (.cells #[.slice Al l.length capl] 22) (.cells #[.slice (some ⟨bi, 0, none⟩) l.length l.length] 40) (.cells #[.int .i64 (-1)] 3) (.cells #[] 3) (.cells #[] 3) (.cells #[] 3)
  rw [Below.heap_alloc _ _ _ (by simp <;> omega), Below.heap_alloc _ _ _ (by simp <;> omega), Below.heap_alloc _ _ _ (by simp <;> omega), ← hW0] at b0 b1 b2
  have hs : W0.heap.size = w.heap.size + 3 := by rw [hW0]; simp
  have HMK := marker_any bu l.length hn W0
  rw [hs] at HMK
  rw [hW0] at HMK
  have HMK := hid HMK
  rw [← hW0] at HB0
  have HS := hid hs
  have HW0 := hid hW0
  have B0 := hid b0
  have B1 := hid b1
  have B2 := hid b2
  clear b0 b1 b2 hs hW0
  clear hx hi hv hrl hul hr hu hr400 hu400
  refine (callsIn_wide (n := 6)).1 ?_
  refine callsIn_of_wp_marks Try.func16 rfl trivial ?_ rfl
  simp only [Try.ntmps16, List.size_toArray, List.length_cons, List.length_nil, Nat.reduceAdd, Nat.reduceSub, Array.replicate_succ, Array.replicate_zero, List.push_toArray, List.append_toArray, List.nil_append, List.cons_append]
  gi_wp2
  refine ⟨trivial, ?_⟩
  refine (callsIn_wide.2 HMK.out).mono ?_
  rintro e w1 ⟨rfl, hM, hb⟩
  rw [← HW0.out] at hb
  have HM := hid hM
  have HB1 := hid (HB0.out.trans (hb.mono (by omega)))
  have HBK1 := hid hb
  clear hM hb HMK
  have hsz := HB1.out.size
  obtain ⟨w2, hw2⟩ : ∃ w2, w2 = w1.alloc (.cells #[.func (.func 27) #[] #[.pointer (some ⟨w.heap.size + 3 + 1, 0, none⟩), .pointer (some ⟨w.heap.size + 3 + 2, 0, none⟩), .pointer (some ⟨w.heap.size + 3 + 5, 0, none⟩)]] 52) := ⟨_, rfl⟩
  have HB2 := hid (show Below w.heap.size w w2 from hw2 ▸ HB1.out.alloc hsz _)
  have hnx : ∀ i, i < l.length → ∀ k ∈ Gr.rowsF rows i, k < l.length := fun i hi k hk => by
    have h1 : i < rows.length := by rw [HRL.out]; exact hi
    simp only [Gr.rowsF, List.getElem?_eq_getElem h1, Option.getD_some] at hk
    exact HR.out _ (List.getElem_mem h1) k hk
  have HLF := left_any rows l.length bi HRL.out hn HR.out HR4.out w2 ((HI.out.below HB2.out).mono HB2.out.size)
  rw [hw2] at HLF
  have HLF := hid HLF
  have HW2 := hid hw2
  have HNX := hid hnx
  have hs1 : w.heap.size + 3 ≤ w1.heap.size := by have := HBK1.out.size; have := HS.out; omega
  have HBK2 := hid (show Below (w.heap.size + 3) W0 w2 from hw2 ▸ HBK1.out.alloc hs1 _)
  have q1 : w2.cell? ⟨w.heap.size + 1, 0, none⟩ = some (.slice (some ⟨bi, 0, none⟩) l.length l.length) := (heap_cell ((HBK2.out.block (w.heap.size + 1) (by omega)).trans B1.out) 0).trans rfl
  rw [hw2] at q1
  clear hw2 hnx
  gi_wp2
  refine ⟨trivial, ?_⟩
  refine (callsIn_wide.2 HLF.out).mono ?_
  rintro e w3 ⟨v, D, disc, rfl, hRD, hb3, hLeft⟩
  rw [← HW2.out] at hb3
  have hRR := own_rd hRD
  obtain ⟨Ad, cd, rfl, -, -, -⟩ := hRR
  have HRD := hid hRD
  have HB3 := hid hb3
  have HL := hid hLeft
  have hs3 := hb3.size
  have hs12 : w2.heap.size = w1.heap.size + 1 := by rw [HW2.out]; simp
  clear hRD hb3 hLeft HLF q1
  gi_wp2
  refine ⟨trivial, ?_⟩
  refine (callsIn_wide.2 (backward_any _ _ _ _)).mono ?_
  rintro e w4 ⟨rfl, rfl⟩
  gi_wp2
  have hDl : D.length ≤ l.length := Gr.nodup_le _ D HL.out.nodup (fun x hx => (HL.out.all x).2 hx)
  have hDb : ∀ g, Ad.map (·.block) = some g → w1.heap.size + 1 ≤ g ∧ g < w3.heap.size := fun g hg => by
    have := HRD.out.lt g (by rw [ownBlock_slice]; exact hg)
    rw [← HW2.out] at this
    omega
  have HDB := hid hDb
  have HDL := hid hDl
  have hbx : (w3.alloc (.cells #[.slice Ad D.length cd] 30)).cell? ⟨w3.heap.size, 0, none⟩ = some (.slice Ad D.length cd) := (heap_cell (heap_alloc_new w3 _) 0).trans rfl
  have hrd4 := ((own_rd HRD.out).below (below_new (.cells #[.slice Ad D.length cd] 30))).mono (show w3.heap.size ≤ (w3.alloc (.cells #[.slice Ad D.length cd] 30)).heap.size by simp)
  have hBC : Below w.heap.size w (w3.alloc (.cells #[.slice Ad D.length cd] 30)) := (HB2.out.trans (HB3.out.mono (by omega))).alloc (by omega) _
  have hu2 : ∀ i, i < l.length → ∀ k ∈ Gr.rowsF us i, k < l.length := fun i hi k hk => by
    have h1 : i < us.length := by rw [HUL.out]; exact hi
    simp only [Gr.rowsF, List.getElem?_eq_getElem h1, Option.getD_some] at hk
    exact HU.out _ (List.getElem_mem h1) k hk
  have HUX := hid hu2
  have h0 : LcS w.heap.size (w.heap.size + 3) l.length w1.heap.size (.slice Al l.length capl) (.slice (some ⟨bi, 0, none⟩) l.length l.length) (.slice (some ⟨bu, 0, none⟩) l.length l.length) [] (-1) (w3.alloc (.cells #[.slice Ad D.length cd] 30)) (.slice none 0 0) none 0 [] [] := by
    have k3 : ∀ k, k < w1.heap.size → (w3.alloc (.cells #[.slice Ad D.length cd] 30)).heap[k]? = w1.heap[k]? := fun k hk =>
      ((Below.heap_alloc _ _ k (by omega)).trans (HB3.out.block k (by omega))).trans (by rw [HW2.out]; exact Below.heap_alloc _ _ k hk)
    have hm5 := HM.out.lt
    refine ⟨HM.out.kept (fun k hk _ => k3 k (by omega)) (fun g hg => by simp at hg), ⟨_, _, _, rfl⟩, rfl, ?_, ?_, ?_, ?_⟩
    · exact ((k3 _ (by omega)).trans (HBK1.out.block _ (by omega))).trans B0.out
    · exact ((k3 _ (by omega)).trans (HBK1.out.block _ (by omega))).trans B1.out
    · exact ((k3 _ (by omega)).trans (HBK1.out.block _ (by omega))).trans B2.out
    · refine ((Below.heap_alloc _ _ _ (by omega)).trans (HB3.out.block _ (by omega))).trans ?_
      rw [HW2.out]
      exact heap_alloc_new w1 _
  have H0 := hid h0
  have hs4 : (w3.alloc (.cells #[.slice Ad D.length cd] 30)).heap.size = w3.heap.size + 1 := by simp
  refine wpIn_rangeFunc_ownF rfl (by omega) (gf := 28) (lb := #[.pointer (some ⟨w3.heap.size, 0, none⟩)]) rfl trivial (enters_of Try.func28 (by kernel_rfl) rfl)
    (back_stops l.length (6 - 1) (by omega) w3.heap.size D (by omega) (fun d hd => (HL.out.all d).2 hd) Ad cd _ (by simp) hbx hrd4) (fun h k => h.trans k)
    (fun W k o o' hk _ _ _ => ⟨World.putObj_heap_other (by rw [hs4] at hk; omega), fun g hg => World.putObj_heap_other (by rw [hs4] at hk; have := (hDb g hg).2; omega)⟩) (Below.refl _ _) (fun _ => rfl)
    (fun pre W => LcI l rows us w.heap.size w1.heap.size w3.heap.size (.slice Al l.length capl) (.slice (some ⟨bi, 0, none⟩) l.length l.length) (.slice (some ⟨bu, 0, none⟩) l.length l.length) w (pre.map bkV) W)
    (fun _ _ _ => False)
    (fun pre W W' row h hg hr => by
      obtain ⟨⟨vo, A, c, P, R, h1, h2⟩, h3, h4⟩ := h
      exact ⟨⟨vo, A, c, P, R, h1.cells_kept (fun k cs t hk => grownBy_keeps_cells hg (fun r e => (hr r e).2) hk rfl), h2⟩, Nat.lt_of_lt_of_le h3 hg.size, h4.grown hg h4.size (fun k e => by have := (hr k e).1; rw [hs4] at this; omega)⟩)
    (fun _ _ _ _ _ hs _ _ => hs)
    ⟨⟨_, _, _, _, _, h0, fun g hg => by simp at hg⟩, by simp, hBC⟩
    (fun x => { tmps := #[.slice Al l.length capl, .slice (some ⟨bi, 0, none⟩) l.length l.length, .slice (some ⟨bu, 0, none⟩) l.length l.length, .pointer (some ⟨w.heap.size, 0, none⟩), .pointer (some ⟨w.heap.size + 1, 0, none⟩), undef, .int .i64 0, .pointer (some ⟨w.heap.size + 1 + 1, 0, none⟩), .pointer (some ⟨w1.heap.size, 0, none⟩), undef, .int .i64 ((x.1.2 : Nat) : Int), undef, undef, undef, .slice (some ⟨bu, 0, none⟩) l.length l.length, .func (.func 27) #[] #[.pointer (some ⟨w.heap.size + 3 + 1, 0, none⟩), .pointer (some ⟨w.heap.size + 3 + 2, 0, none⟩), .pointer (some ⟨w.heap.size + 3 + 5, 0, none⟩)], .slice (some ⟨bi, 0, none⟩) l.length l.length, .slice Ad D.length cd, .func (.func 28) #[] #[.pointer (some ⟨w3.heap.size, 0, none⟩)], .int .i64 ((x.1.1 : Nat) : Int), .int .i64 ((x.1.2 : Nat) : Int), undef, undef, undef, undef, undef, undef, undef, undef, undef, undef, undef, undef, undef, undef, undef, undef, undef, undef, undef, undef, undef, undef, undef, undef, undef, undef, undef, undef, undef, undef, undef, undef, undef, undef, undef, undef, undef, undef, undef], defers := [] }) ?assign ?body ?done ?stop
  case assign =>
    intro l x W K hK
    gi_wp2
    exact hK
  case body =>
    rintro l' pre x W ⟨⟨vo, A, c, P, R, hL, hAf⟩, hZ, hB⟩ hpl
    clear hpl
    obtain ⟨S, b, hst⟩ : ∃ S b, Gr.gst (Gr.nlt l) (Gr.rowsF rows) (Gr.rowsF us) (l.length + 1) (pre.map bkV) = (S, b) := ⟨_, _, rfl⟩
    rw [hst] at hL
    have hpn : ∀ i ∈ pre.map bkV, i < l.length := fun i hi => by
      obtain ⟨y, _, rfl⟩ := List.mem_map.1 hi
      exact y.2
    have hok := Gr.gst_ok (lt := Gr.nlt l) (nx := Gr.rowsF rows) HUX.out (Nat.lt_succ_self l.length) (pre.map bkV) hpn
    have hbl := Gr.gst_lt (lt := Gr.nlt l) (nx := Gr.rowsF rows) HUX.out (Nat.lt_succ_self l.length) (pre.map bkV) hpn
    rw [hst] at hok hbl
    have hxn : x.1.2 < l.length := x.2
    have hgr := Gr.dfs_grown HUX.out (l.length + 1) x.1.2 S hxn hok.1 hok.2 (by omega)
    have hsz0 := hB.size
    have hus := ((HV.out.below hB).mono (show w.heap.size ≤ w.heap.size + 3 by omega))
    have HWK := hid (walk_any us l.length HUL.out hn HU.out HU4.out (w.heap.size + 3) _ W hus x.1.2 hxn (by rw [hL.seen]; exact hok.1) (by rw [hL.seen]; exact hok.2) hL.ms (Below.refl _ _) hL.vs)
    rw [hL.seen] at HWK
    have HSTT := hid hst
    have q8 : W.cell? ⟨w1.heap.size, 0, none⟩ = some (.func (.func 27) #[] #[.pointer (some ⟨w.heap.size + 3 + 1, 0, none⟩), .pointer (some ⟨w.heap.size + 3 + 2, 0, none⟩), .pointer (some ⟨w.heap.size + 3 + 5, 0, none⟩)]) := (heap_cell hL.bw 0).trans rfl
    have HLO := hid hL
    have HAF := hid hAf
    have HBO := hid hB
    have HGRO := hid hgr
    have HBL := hid hbl
    have hm5 := HM.out.lt
    clear hL hB hAf hst hok hpn hus hgr hbl
    obtain ⟨i, hxi⟩ : ∃ i, i = x.1.2 := ⟨_, rfl⟩
    rw [← hxi] at HWK hxn HGRO ⊢
    have HXI := hid hxi
    clear hxi
    gi_wp2
    refine ⟨trivial, ?_⟩
    refine (CallsIn.inRound l' (callsIn_wide.2 HWK.out)).mono ?_
    rintro e w5 ⟨vo', A', c', R', rfl, hd, hM5, hK5, hv5⟩
    have hbelow := hK5.below (B := w.heap.size) (fun k hk => by have := MkP.le _ k hk; omega) (fun g hg => by have := HLO.out.ms.far g hg; omega) (by omega)
    rw [← HLO.out.seen] at hM5
    have hL5 := HLO.out.walked hM5 hK5 hv5 (by omega) (by omega) (fun g hg => by have := HAF.out g hg; omega)
    have HB5 := hid (HBO.out.trans hbelow)
    have HK5 := hid (hK5.keeps HLO.out.ms)
    have HKB5 := hid (show KB w3.heap.size Ad W w5 from ⟨hK5.block _ (by omega) (by rintro (e | e | e) <;> omega) (fun e => by have := HAF.out _ e; omega), fun g hg => hK5.block g (by have := (HDB.out g hg).2; omega) (by have := (HDB.out g hg).1; rintro (e | e | e) <;> omega) (fun e => by have := HAF.out _ e; have := (HDB.out g hg).2; omega)⟩)
    have HZ5 := hid (Nat.lt_of_lt_of_le hZ hK5.size)
    have HA5 := hid (show ∀ g, A'.map (·.block) = some g → w3.heap.size < g from fun g hg => by
      rcases hK5.loc with e | e | ⟨b2, e, hb2⟩
      · exact HAF.out g (by rw [← e]; exact hg)
      · rw [e] at hg; cases hg
      · rw [e] at hg; injection hg with hg; omega)
    have hdnd := HGRO.out.nodup
    have hdlt := HGRO.out.lt
    rw [hd] at hdnd hdlt
    have HDF := hid hd
    have HST := hid (show Gr.gst (Gr.nlt l) (Gr.rowsF rows) (Gr.rowsF us) (l.length + 1) (pre.map bkV) = (S, b) from HSTT.out)
    have hir : i < rows.length := by rw [HRL.out]; exact hxn
    obtain ⟨Ai, ci, hbi, y1, hri⟩ := HI.out.atv HB5.out hir
    have HRI := hid ((hri.below HB5.out).mono HB5.out.size)
    have hil := HR4.out _ (List.getElem_mem hir)
    have HCT := hid (contains_any rows[i] i _ w5 HRI.out (by omega))
    have HRF : Hid (Gr.rowsF rows i = rows[i]) := hid (by simp [Gr.rowsF, hir])
    have y0 : w5.cell? ⟨w.heap.size + 1, 0, none⟩ = some (.slice (some ⟨bi, 0, none⟩) l.length l.length) := (heap_cell hL5.bi 0).trans rfl
    have hiz : (i : Int) < (l.length : Int) := by omega
    obtain ⟨ks, hks⟩ : ∃ ks, rows[i] = ks := ⟨_, rfl⟩
    rw [hks] at y1 HCT HRF hil
    clear hks hri hd hM5 hK5 hv5 hbelow q8 HWK
    by_cases hlen : R'.length = 1
    · have hlz : ((R'.length : Int) == 1) = true := by simp [hlen]
      by_cases hmem : i ∈ ks
      · rw [decide_eq_true hmem] at HCT
        have HC : Hid (¬ (R'.length = 1 ∧ bkV x ∉ Gr.rowsF rows (bkV x))) := hid (fun h => h.2 (by show x.1.2 ∈ Gr.rowsF rows x.1.2; rw [← HXI.out, HRF.out]; exact hmem))
        have hcont := HCT
        clear hmem
        have HG := hid (show ∀ k ∈ R', k < l.length from fun k hk => hdlt k (List.mem_append_right _ hk))
        have HGR := hid (own_rd hL5.ms.row)
        have HL5 := hid hL5
        have hgl : R'.length ≤ l.length := Gr.nodup_le _ R' (List.nodup_append.1 hdnd).2.1 HG.out
        clear hL5 hdlt hdnd
        gi_wp2
        refine ⟨trivial, ?_⟩
        refine (CallsIn.inRound l' (callsIn_wide.2 hcont.out)).mono ?_
        rintro e w6 ⟨rfl, rfl⟩
        gi_wp2
        gi_loopw [38] (fun vj wr => ∃ j : Nat, vj = .int .i64 j ∧ j ≤ R'.length ∧ LcS w.heap.size (w.heap.size + 3) l.length w1.heap.size (.slice Al l.length capl) (.slice (some ⟨bi, 0, none⟩) l.length l.length) (.slice (some ⟨bu, 0, none⟩) l.length l.length) (S ++ R') (Gr.bestI (Gr.leastL (Gr.nlt l) b (R'.take j))) wr vo' A' c' (P ++ R) R' ∧ Below w.heap.size w wr ∧ KeepsOthers W wr ∧ KB w3.heap.size Ad W wr ∧ w3.heap.size < wr.heap.size) (fun vj _ => R'.length - (intOf vj).toNat)
        case atStart => exact ⟨0, rfl, by omega, by simpa [Gr.leastL] using HL5.out, HB5.out, HK5.out, HKB5.out, HZ5.out⟩
        case round =>
          clear HL5
          obtain ⟨j, rfl, hj, hLL, hBB, hKO, hKBB, hZZ⟩ := hrel
          have HLL := hid hLL
          have HBB := hid hBB
          have HKO := hid hKO
          have HKBB := hid hKBB
          have hZZ := hZZ
          clear hLL hBB hKO hKBB
          by_cases hjl : j < R'.length
          · have hjz : (j : Int) < (R'.length : Int) := by omega
            obtain ⟨g, hAg, -, z0⟩ := (own_rd HLL.out.ms.row).atv (Below.refl _ _) hjl
            have hkl := HG.out R'[j] (List.getElem_mem hjl)
            have HBT := hid (Gr.leastL_take (Gr.nlt l) R' b j hjl)
            have HBN := hid (Gr.leastL_lt (lt := Gr.nlt l) (n := l.length) (R'.take j) b HBL.out (fun k hk => HG.out k (List.mem_of_mem_take hk)))
            obtain ⟨k, hk⟩ : ∃ k, R'[j]'hjl = k := ⟨_, rfl⟩
            rw [hk] at z0 hkl HBT
            obtain ⟨b', hb'⟩ : ∃ b', Gr.leastL (Gr.nlt l) b (R'.take j) = b' := ⟨_, rfl⟩
            rw [hb'] at HLL HBT HBN
            subst hAg
            clear hk hb'
            cases b' with
            | none =>
              have c7 : wr.cell? ⟨w.heap.size + 1 + 1, 0, none⟩ = some (.int .i64 (-1)) := (heap_cell HLL.out.bz 0).trans rfl
              have f7 : wr.frozen? ⟨w.heap.size + 1 + 1, 0, none⟩ = false := heap_free HLL.out.bz 0
              have HP := hid (HLL.out.put (by omega) (k : Int))
              gi_wp2
              refine quietR_region (by kernel_rfl) (by kernel_rfl) (by kernel_rfl) ?_
              repeat (gi_big_quiet_step (fail))
              refine wpQuietIn_nil ?_
              intro _ hw'
              obtain ⟨nq, hw''⟩ := hw'
              subst hw''
              obtain ⟨wq, hwq⟩ : ∃ wq, wr.drewN nq = wq := ⟨_, rfl⟩
              have e7 : wq.cell? ⟨w.heap.size + 1 + 1, 0, none⟩ = some (.int .i64 (-1)) := by rw [← hwq]; exact c7
              have g7 : wq.frozen? ⟨w.heap.size + 1 + 1, 0, none⟩ = false := by rw [← hwq]; exact f7
              have HQ := hid (show LcS w.heap.size (w.heap.size + 3) l.length w1.heap.size (.slice Al l.length capl) (.slice (some ⟨bi, 0, none⟩) l.length l.length) (.slice (some ⟨bu, 0, none⟩) l.length l.length) (S ++ R') (k : Int) (wq.setCell ⟨w.heap.size + 1 + 1, 0, none⟩ (.int .i64 (k : Int))) vo' (some ⟨g, 0, none⟩) c' (P ++ R) R' ∧ Below w.heap.size w (wq.setCell ⟨w.heap.size + 1 + 1, 0, none⟩ (.int .i64 (k : Int))) ∧ KeepsOthers W (wq.setCell ⟨w.heap.size + 1 + 1, 0, none⟩ (.int .i64 (k : Int))) ∧ KB w3.heap.size Ad W (wq.setCell ⟨w.heap.size + 1 + 1, 0, none⟩ (.int .i64 (k : Int))) ∧ w3.heap.size < (wq.setCell ⟨w.heap.size + 1 + 1, 0, none⟩ (.int .i64 (k : Int))).heap.size from
                hwq ▸ ⟨(HLL.out.cells_kept (w' := wr.drewN nq) (fun _ _ _ _ => rfl)).put (by omega) (k : Int), (HBB.out.trans (below_drewN _ _ _)).setCell (p := ⟨w.heap.size + 1 + 1, 0, none⟩) (by show w.heap.size ≤ w.heap.size + 2; omega) _, (KeepsOthers.trans (B := wr.drewN nq) ⟨HKO.out.size, fun k o h1 h2 => HKO.out.same k o h1 h2⟩ (KeepsOthers.setCell _ _ _)), ⟨(Below.heap_setCell _ _ _ _ (by show w3.heap.size ≠ w.heap.size + 2; omega)).trans HKBB.out.1, fun g hg => (Below.heap_setCell _ _ _ _ (by have := (HDB.out g hg).1; show g ≠ w.heap.size + 2; omega)).trans (HKBB.out.2 g hg)⟩, by rw [World.size_setCell]; exact hZZ⟩)
              rw [hwq]
              clear hwq c7 f7
              gi_wp2
              go_roundw
              case rel => exact ⟨j + 1, by go_num, by omega, by rw [HBT.out]; show LcS _ _ _ _ _ _ _ _ (Gr.bestI (some k)) _ _ _ _ _ _; exact HQ.out.1, HQ.out.2⟩
              case measure => simp [intOf]; omega
            | some m =>
              have hml := HBN.out m rfl
              have c7 : wr.cell? ⟨w.heap.size + 1 + 1, 0, none⟩ = some (.int .i64 (m : Int)) := (heap_cell HLL.out.bz 0).trans rfl
              have f7 : wr.frozen? ⟨w.heap.size + 1 + 1, 0, none⟩ = false := heap_free HLL.out.bz 0
              have c3 : wr.cell? ⟨w.heap.size, 0, none⟩ = some (.slice Al l.length capl) := (heap_cell HLL.out.bl 0).trans rfl
              obtain ⟨bl, ol, cl, _, _, _, _, _, _, _, _, hv1, -, n1, -⟩ := HX.out.at_ HBB.out hkl
              obtain ⟨bl', ol', cl', _, _, _, _, _, _, _, _, hv2, -, n2, -⟩ := HX.out.at_ HBB.out hml
              simp only [Value.slice.injEq, true_and] at hv1 hv2
              obtain ⟨rfl, rfl⟩ := hv1
              obtain ⟨hv2, -⟩ := hv2
              simp only [Option.some.injEq, Addr.mk.injEq, and_true] at hv2
              obtain ⟨rfl, rfl⟩ := hv2
              have HNL : Hid (Gr.nlt l k m = Op.bytesLess l[k].name.toList l[m].name.toList) := hid (by simp [Gr.nlt, Gr.nm_at hkl, Gr.nm_at hml])
              have hkz : (k : Int) < (l.length : Int) := by omega
              have hmz : (m : Int) < (l.length : Int) := by omega
              have hm0 : decide ((m : Int) < 0) = false := decide_eq_false (by omega)
              obtain ⟨sk, hsk⟩ : ∃ sk, l[k].name = sk := ⟨_, rfl⟩
              obtain ⟨sm, hsm⟩ : ∃ sm, l[m].name = sm := ⟨_, rfl⟩
              rw [hsk] at n1 HNL
              rw [hsm] at n2 HNL
              clear hsk hsm
              cases hlt : Op.bytesLess sk.toList sm.toList with
              | true =>
                have HNT := hid (HNL.out.trans hlt)
                have HP := hid (HLL.out.put (by omega) (k : Int))
                gi_wp2
                refine quietR_region (by kernel_rfl) (by kernel_rfl) (by kernel_rfl) ?_
                repeat (gi_big_quiet_step (fail))
                refine wpQuietIn_nil ?_
                intro _ hw'
                obtain ⟨nq, hw''⟩ := hw'
                subst hw''
                obtain ⟨wq, hwq⟩ : ∃ wq, wr.drewN nq = wq := ⟨_, rfl⟩
                have e7 : wq.cell? ⟨w.heap.size + 1 + 1, 0, none⟩ = some (.int .i64 (m : Int)) := by rw [← hwq]; exact c7
                have g7 : wq.frozen? ⟨w.heap.size + 1 + 1, 0, none⟩ = false := by rw [← hwq]; exact f7
                have HQ := hid (show LcS w.heap.size (w.heap.size + 3) l.length w1.heap.size (.slice (some ⟨bl, ol, none⟩) l.length capl) (.slice (some ⟨bi, 0, none⟩) l.length l.length) (.slice (some ⟨bu, 0, none⟩) l.length l.length) (S ++ R') (k : Int) (wq.setCell ⟨w.heap.size + 1 + 1, 0, none⟩ (.int .i64 (k : Int))) vo' (some ⟨g, 0, none⟩) c' (P ++ R) R' ∧ Below w.heap.size w (wq.setCell ⟨w.heap.size + 1 + 1, 0, none⟩ (.int .i64 (k : Int))) ∧ KeepsOthers W (wq.setCell ⟨w.heap.size + 1 + 1, 0, none⟩ (.int .i64 (k : Int))) ∧ KB w3.heap.size Ad W (wq.setCell ⟨w.heap.size + 1 + 1, 0, none⟩ (.int .i64 (k : Int))) ∧ w3.heap.size < (wq.setCell ⟨w.heap.size + 1 + 1, 0, none⟩ (.int .i64 (k : Int))).heap.size from
                  hwq ▸ ⟨(HLL.out.cells_kept (w' := wr.drewN nq) (fun _ _ _ _ => rfl)).put (by omega) (k : Int), (HBB.out.trans (below_drewN _ _ _)).setCell (p := ⟨w.heap.size + 1 + 1, 0, none⟩) (by show w.heap.size ≤ w.heap.size + 2; omega) _, (KeepsOthers.trans (B := wr.drewN nq) ⟨HKO.out.size, fun k o h1 h2 => HKO.out.same k o h1 h2⟩ (KeepsOthers.setCell _ _ _)), ⟨(Below.heap_setCell _ _ _ _ (by show w3.heap.size ≠ w.heap.size + 2; omega)).trans HKBB.out.1, fun g hg => (Below.heap_setCell _ _ _ _ (by have := (HDB.out g hg).1; show g ≠ w.heap.size + 2; omega)).trans (HKBB.out.2 g hg)⟩, by rw [World.size_setCell]; exact hZZ⟩)
                rw [hwq]
                clear hwq c7 f7
                gi_wp2
                go_roundw
                case rel => exact ⟨j + 1, by go_num, by omega, by rw [HBT.out]; rw [Gr.better, HNT.out]; show LcS _ _ _ _ _ _ _ _ (Gr.bestI (some k)) _ _ _ _ _ _; exact HQ.out.1, HQ.out.2⟩
                case measure => simp [intOf]; omega
              | false =>
                have HNT := hid (HNL.out.trans hlt)
                gi_wp2
                refine quietR_region (by kernel_rfl) (by kernel_rfl) (by kernel_rfl) ?_
                repeat (gi_big_quiet_step (fail))
                refine wpQuietIn_nil ?_
                intro _ hw'
                obtain ⟨nq, hw''⟩ := hw'
                subst hw''
                obtain ⟨wq, hwq⟩ : ∃ wq, wr.drewN nq = wq := ⟨_, rfl⟩
                have HQ := hid (show LcS w.heap.size (w.heap.size + 3) l.length w1.heap.size (.slice (some ⟨bl, ol, none⟩) l.length capl) (.slice (some ⟨bi, 0, none⟩) l.length l.length) (.slice (some ⟨bu, 0, none⟩) l.length l.length) (S ++ R') (Gr.bestI (some m)) wq vo' (some ⟨g, 0, none⟩) c' (P ++ R) R' ∧ Below w.heap.size w wq ∧ KeepsOthers W wq ∧ KB w3.heap.size Ad W wq ∧ w3.heap.size < wq.heap.size from
                  hwq ▸ ⟨HLL.out.cells_kept (fun _ _ _ _ => rfl), HBB.out.trans (below_drewN _ _ _), ⟨HKO.out.size, fun k o h1 h2 => HKO.out.same k o h1 h2⟩, HKBB.out, hZZ⟩)
                rw [hwq]
                clear hwq
                gi_wp2
                go_roundw
                case rel => exact ⟨j + 1, by go_num, by omega, by rw [HBT.out, Gr.better, HNT.out]; exact HQ.out.1, HQ.out.2⟩
                case measure => simp [intOf]; omega
          · have hjz : ¬ (j : Int) < (R'.length : Int) := by omega
            have HE := hid (show Gr.gst (Gr.nlt l) (Gr.rowsF rows) (Gr.rowsF us) (l.length + 1) ((pre ++ [x]).map bkV) = (S ++ R', Gr.leastL (Gr.nlt l) b R') from by
              rw [List.map_append, List.map_singleton, Gr.gst_at HST.out (show Gr.dfs (Gr.rowsF us) (l.length + 1) (bkV x) S = S ++ R' by rw [show bkV x = i from HXI.out.symm]; exact HDF.out), if_neg HC.out])
            have HLF := hid (show LcS w.heap.size (w.heap.size + 3) l.length w1.heap.size (.slice Al l.length capl) (.slice (some ⟨bi, 0, none⟩) l.length l.length) (.slice (some ⟨bu, 0, none⟩) l.length l.length) (S ++ R') (Gr.bestI (Gr.leastL (Gr.nlt l) b R')) wr vo' A' c' (P ++ R) R' from by
              have h1 := HLL.out
              rw [List.take_of_length_le (by omega)] at h1
              exact h1)
            gi_wp2
            refine ⟨HKO.out, HKBB.out, ⟨⟨vo', A', c', P ++ R, R', ?_, HA5.out⟩, hZZ, HBB.out⟩⟩
            rw [HE.out]
            exact HLF.out
      · rw [decide_eq_false hmem] at HCT
        have HC : Hid (R'.length = 1 ∧ bkV x ∉ Gr.rowsF rows (bkV x)) := hid ⟨hlen, by show x.1.2 ∉ Gr.rowsF rows x.1.2; rw [← HXI.out, HRF.out]; exact hmem⟩
        have HL5 := hid hL5
        have HE := hid (show Gr.gst (Gr.nlt l) (Gr.rowsF rows) (Gr.rowsF us) (l.length + 1) ((pre ++ [x]).map bkV) = (S ++ R', b) from by
          rw [List.map_append, List.map_singleton, Gr.gst_at HST.out (show Gr.dfs (Gr.rowsF us) (l.length + 1) (bkV x) S = S ++ R' by rw [show bkV x = i from HXI.out.symm]; exact HDF.out), if_pos HC.out])
        clear hmem hlen hL5 hdnd hdlt
        gi_wp2
        refine ⟨trivial, ?_⟩
        refine (CallsIn.inRound l' (callsIn_wide.2 HCT.out)).mono ?_
        rintro e w6 ⟨rfl, rfl⟩
        gi_wp2
        refine ⟨HK5.out, HKB5.out, ⟨⟨vo', A', c', P ++ R, R', ?_, HA5.out⟩, HZ5.out, HB5.out⟩⟩
        rw [HE.out]
        exact HL5.out
    · have hlz : ((R'.length : Int) == 1) = false := by simp; omega
      have HC : Hid (¬ (R'.length = 1 ∧ bkV x ∉ Gr.rowsF rows (bkV x))) := hid (fun h => hlen h.1)
      have HG := hid (show ∀ k ∈ R', k < l.length from fun k hk => hdlt k (List.mem_append_right _ hk))
      have HGR := hid (own_rd hL5.ms.row)
      have HL5 := hid hL5
      have hgl : R'.length ≤ l.length := Gr.nodup_le _ R' (List.nodup_append.1 hdnd).2.1 HG.out
      clear hL5 hdlt hdnd
      gi_wp2
      refine ⟨trivial, ?_⟩
      gi_wp2
      gi_loopw [38] (fun vj wr => ∃ j : Nat, vj = .int .i64 j ∧ j ≤ R'.length ∧ LcS w.heap.size (w.heap.size + 3) l.length w1.heap.size (.slice Al l.length capl) (.slice (some ⟨bi, 0, none⟩) l.length l.length) (.slice (some ⟨bu, 0, none⟩) l.length l.length) (S ++ R') (Gr.bestI (Gr.leastL (Gr.nlt l) b (R'.take j))) wr vo' A' c' (P ++ R) R' ∧ Below w.heap.size w wr ∧ KeepsOthers W wr ∧ KB w3.heap.size Ad W wr ∧ w3.heap.size < wr.heap.size) (fun vj _ => R'.length - (intOf vj).toNat)
      case atStart => exact ⟨0, rfl, by omega, by simpa [Gr.leastL] using HL5.out, HB5.out, HK5.out, HKB5.out, HZ5.out⟩
      case round =>
        clear HL5
        obtain ⟨j, rfl, hj, hLL, hBB, hKO, hKBB, hZZ⟩ := hrel
        have HLL := hid hLL
        have HBB := hid hBB
        have HKO := hid hKO
        have HKBB := hid hKBB
        have hZZ := hZZ
        clear hLL hBB hKO hKBB
        by_cases hjl : j < R'.length
        · have hjz : (j : Int) < (R'.length : Int) := by omega
          obtain ⟨g, hAg, -, z0⟩ := (own_rd HLL.out.ms.row).atv (Below.refl _ _) hjl
          have hkl := HG.out R'[j] (List.getElem_mem hjl)
          have HBT := hid (Gr.leastL_take (Gr.nlt l) R' b j hjl)
          have HBN := hid (Gr.leastL_lt (lt := Gr.nlt l) (n := l.length) (R'.take j) b HBL.out (fun k hk => HG.out k (List.mem_of_mem_take hk)))
          obtain ⟨k, hk⟩ : ∃ k, R'[j]'hjl = k := ⟨_, rfl⟩
          rw [hk] at z0 hkl HBT
          obtain ⟨b', hb'⟩ : ∃ b', Gr.leastL (Gr.nlt l) b (R'.take j) = b' := ⟨_, rfl⟩
          rw [hb'] at HLL HBT HBN
          subst hAg
          clear hk hb'
          cases b' with
          | none =>
            have c7 : wr.cell? ⟨w.heap.size + 1 + 1, 0, none⟩ = some (.int .i64 (-1)) := (heap_cell HLL.out.bz 0).trans rfl
            have f7 : wr.frozen? ⟨w.heap.size + 1 + 1, 0, none⟩ = false := heap_free HLL.out.bz 0
            have HP := hid (HLL.out.put (by omega) (k : Int))
            gi_wp2
            refine quietR_region (by kernel_rfl) (by kernel_rfl) (by kernel_rfl) ?_
            repeat (gi_big_quiet_step (fail))
            refine wpQuietIn_nil ?_
            intro _ hw'
            obtain ⟨nq, hw''⟩ := hw'
            subst hw''
            obtain ⟨wq, hwq⟩ : ∃ wq, wr.drewN nq = wq := ⟨_, rfl⟩
            have e7 : wq.cell? ⟨w.heap.size + 1 + 1, 0, none⟩ = some (.int .i64 (-1)) := by rw [← hwq]; exact c7
            have g7 : wq.frozen? ⟨w.heap.size + 1 + 1, 0, none⟩ = false := by rw [← hwq]; exact f7
            have HQ := hid (show LcS w.heap.size (w.heap.size + 3) l.length w1.heap.size (.slice Al l.length capl) (.slice (some ⟨bi, 0, none⟩) l.length l.length) (.slice (some ⟨bu, 0, none⟩) l.length l.length) (S ++ R') (k : Int) (wq.setCell ⟨w.heap.size + 1 + 1, 0, none⟩ (.int .i64 (k : Int))) vo' (some ⟨g, 0, none⟩) c' (P ++ R) R' ∧ Below w.heap.size w (wq.setCell ⟨w.heap.size + 1 + 1, 0, none⟩ (.int .i64 (k : Int))) ∧ KeepsOthers W (wq.setCell ⟨w.heap.size + 1 + 1, 0, none⟩ (.int .i64 (k : Int))) ∧ KB w3.heap.size Ad W (wq.setCell ⟨w.heap.size + 1 + 1, 0, none⟩ (.int .i64 (k : Int))) ∧ w3.heap.size < (wq.setCell ⟨w.heap.size + 1 + 1, 0, none⟩ (.int .i64 (k : Int))).heap.size from
              hwq ▸ ⟨(HLL.out.cells_kept (w' := wr.drewN nq) (fun _ _ _ _ => rfl)).put (by omega) (k : Int), (HBB.out.trans (below_drewN _ _ _)).setCell (p := ⟨w.heap.size + 1 + 1, 0, none⟩) (by show w.heap.size ≤ w.heap.size + 2; omega) _, (KeepsOthers.trans (B := wr.drewN nq) ⟨HKO.out.size, fun k o h1 h2 => HKO.out.same k o h1 h2⟩ (KeepsOthers.setCell _ _ _)), ⟨(Below.heap_setCell _ _ _ _ (by show w3.heap.size ≠ w.heap.size + 2; omega)).trans HKBB.out.1, fun g hg => (Below.heap_setCell _ _ _ _ (by have := (HDB.out g hg).1; show g ≠ w.heap.size + 2; omega)).trans (HKBB.out.2 g hg)⟩, by rw [World.size_setCell]; exact hZZ⟩)
            rw [hwq]
            clear hwq c7 f7
            gi_wp2
            go_roundw
            case rel => exact ⟨j + 1, by go_num, by omega, by rw [HBT.out]; show LcS _ _ _ _ _ _ _ _ (Gr.bestI (some k)) _ _ _ _ _ _; exact HQ.out.1, HQ.out.2⟩
            case measure => simp [intOf]; omega
          | some m =>
            have hml := HBN.out m rfl
            have c7 : wr.cell? ⟨w.heap.size + 1 + 1, 0, none⟩ = some (.int .i64 (m : Int)) := (heap_cell HLL.out.bz 0).trans rfl
            have f7 : wr.frozen? ⟨w.heap.size + 1 + 1, 0, none⟩ = false := heap_free HLL.out.bz 0
            have c3 : wr.cell? ⟨w.heap.size, 0, none⟩ = some (.slice Al l.length capl) := (heap_cell HLL.out.bl 0).trans rfl
            obtain ⟨bl, ol, cl, _, _, _, _, _, _, _, _, hv1, -, n1, -⟩ := HX.out.at_ HBB.out hkl
            obtain ⟨bl', ol', cl', _, _, _, _, _, _, _, _, hv2, -, n2, -⟩ := HX.out.at_ HBB.out hml
            simp only [Value.slice.injEq, true_and] at hv1 hv2
            obtain ⟨rfl, rfl⟩ := hv1
            obtain ⟨hv2, -⟩ := hv2
            simp only [Option.some.injEq, Addr.mk.injEq, and_true] at hv2
            obtain ⟨rfl, rfl⟩ := hv2
            have HNL : Hid (Gr.nlt l k m = Op.bytesLess l[k].name.toList l[m].name.toList) := hid (by simp [Gr.nlt, Gr.nm_at hkl, Gr.nm_at hml])
            have hkz : (k : Int) < (l.length : Int) := by omega
            have hmz : (m : Int) < (l.length : Int) := by omega
            have hm0 : decide ((m : Int) < 0) = false := decide_eq_false (by omega)
            obtain ⟨sk, hsk⟩ : ∃ sk, l[k].name = sk := ⟨_, rfl⟩
            obtain ⟨sm, hsm⟩ : ∃ sm, l[m].name = sm := ⟨_, rfl⟩
            rw [hsk] at n1 HNL
            rw [hsm] at n2 HNL
            clear hsk hsm
            cases hlt : Op.bytesLess sk.toList sm.toList with
            | true =>
              have HNT := hid (HNL.out.trans hlt)
              have HP := hid (HLL.out.put (by omega) (k : Int))
              gi_wp2
              refine quietR_region (by kernel_rfl) (by kernel_rfl) (by kernel_rfl) ?_
              repeat (gi_big_quiet_step (fail))
              refine wpQuietIn_nil ?_
              intro _ hw'
              obtain ⟨nq, hw''⟩ := hw'
              subst hw''
              obtain ⟨wq, hwq⟩ : ∃ wq, wr.drewN nq = wq := ⟨_, rfl⟩
              have e7 : wq.cell? ⟨w.heap.size + 1 + 1, 0, none⟩ = some (.int .i64 (m : Int)) := by rw [← hwq]; exact c7
              have g7 : wq.frozen? ⟨w.heap.size + 1 + 1, 0, none⟩ = false := by rw [← hwq]; exact f7
              have HQ := hid (show LcS w.heap.size (w.heap.size + 3) l.length w1.heap.size (.slice (some ⟨bl, ol, none⟩) l.length capl) (.slice (some ⟨bi, 0, none⟩) l.length l.length) (.slice (some ⟨bu, 0, none⟩) l.length l.length) (S ++ R') (k : Int) (wq.setCell ⟨w.heap.size + 1 + 1, 0, none⟩ (.int .i64 (k : Int))) vo' (some ⟨g, 0, none⟩) c' (P ++ R) R' ∧ Below w.heap.size w (wq.setCell ⟨w.heap.size + 1 + 1, 0, none⟩ (.int .i64 (k : Int))) ∧ KeepsOthers W (wq.setCell ⟨w.heap.size + 1 + 1, 0, none⟩ (.int .i64 (k : Int))) ∧ KB w3.heap.size Ad W (wq.setCell ⟨w.heap.size + 1 + 1, 0, none⟩ (.int .i64 (k : Int))) ∧ w3.heap.size < (wq.setCell ⟨w.heap.size + 1 + 1, 0, none⟩ (.int .i64 (k : Int))).heap.size from
                hwq ▸ ⟨(HLL.out.cells_kept (w' := wr.drewN nq) (fun _ _ _ _ => rfl)).put (by omega) (k : Int), (HBB.out.trans (below_drewN _ _ _)).setCell (p := ⟨w.heap.size + 1 + 1, 0, none⟩) (by show w.heap.size ≤ w.heap.size + 2; omega) _, (KeepsOthers.trans (B := wr.drewN nq) ⟨HKO.out.size, fun k o h1 h2 => HKO.out.same k o h1 h2⟩ (KeepsOthers.setCell _ _ _)), ⟨(Below.heap_setCell _ _ _ _ (by show w3.heap.size ≠ w.heap.size + 2; omega)).trans HKBB.out.1, fun g hg => (Below.heap_setCell _ _ _ _ (by have := (HDB.out g hg).1; show g ≠ w.heap.size + 2; omega)).trans (HKBB.out.2 g hg)⟩, by rw [World.size_setCell]; exact hZZ⟩)
              rw [hwq]
              clear hwq c7 f7
              gi_wp2
              go_roundw
              case rel => exact ⟨j + 1, by go_num, by omega, by rw [HBT.out]; rw [Gr.better, HNT.out]; show LcS _ _ _ _ _ _ _ _ (Gr.bestI (some k)) _ _ _ _ _ _; exact HQ.out.1, HQ.out.2⟩
              case measure => simp [intOf]; omega
            | false =>
              have HNT := hid (HNL.out.trans hlt)
              gi_wp2
              refine quietR_region (by kernel_rfl) (by kernel_rfl) (by kernel_rfl) ?_
              repeat (gi_big_quiet_step (fail))
              refine wpQuietIn_nil ?_
              intro _ hw'
              obtain ⟨nq, hw''⟩ := hw'
              subst hw''
              obtain ⟨wq, hwq⟩ : ∃ wq, wr.drewN nq = wq := ⟨_, rfl⟩
              have HQ := hid (show LcS w.heap.size (w.heap.size + 3) l.length w1.heap.size (.slice (some ⟨bl, ol, none⟩) l.length capl) (.slice (some ⟨bi, 0, none⟩) l.length l.length) (.slice (some ⟨bu, 0, none⟩) l.length l.length) (S ++ R') (Gr.bestI (some m)) wq vo' (some ⟨g, 0, none⟩) c' (P ++ R) R' ∧ Below w.heap.size w wq ∧ KeepsOthers W wq ∧ KB w3.heap.size Ad W wq ∧ w3.heap.size < wq.heap.size from
                hwq ▸ ⟨HLL.out.cells_kept (fun _ _ _ _ => rfl), HBB.out.trans (below_drewN _ _ _), ⟨HKO.out.size, fun k o h1 h2 => HKO.out.same k o h1 h2⟩, HKBB.out, hZZ⟩)
              rw [hwq]
              clear hwq
              gi_wp2
              go_roundw
              case rel => exact ⟨j + 1, by go_num, by omega, by rw [HBT.out, Gr.better, HNT.out]; exact HQ.out.1, HQ.out.2⟩
              case measure => simp [intOf]; omega
        · have hjz : ¬ (j : Int) < (R'.length : Int) := by omega
          have HE := hid (show Gr.gst (Gr.nlt l) (Gr.rowsF rows) (Gr.rowsF us) (l.length + 1) ((pre ++ [x]).map bkV) = (S ++ R', Gr.leastL (Gr.nlt l) b R') from by
            rw [List.map_append, List.map_singleton, Gr.gst_at HST.out (show Gr.dfs (Gr.rowsF us) (l.length + 1) (bkV x) S = S ++ R' by rw [show bkV x = i from HXI.out.symm]; exact HDF.out), if_neg HC.out])
          have HLF := hid (show LcS w.heap.size (w.heap.size + 3) l.length w1.heap.size (.slice Al l.length capl) (.slice (some ⟨bi, 0, none⟩) l.length l.length) (.slice (some ⟨bu, 0, none⟩) l.length l.length) (S ++ R') (Gr.bestI (Gr.leastL (Gr.nlt l) b R')) wr vo' A' c' (P ++ R) R' from by
            have h1 := HLL.out
            rw [List.take_of_length_le (by omega)] at h1
            exact h1)
          gi_wp2
          refine ⟨HKO.out, HKBB.out, ⟨⟨vo', A', c', P ++ R, R', ?_, HA5.out⟩, hZZ, HBB.out⟩⟩
          rw [HE.out]
          exact HLF.out
  case done =>
    rintro Dd ys W hD hys ⟨⟨vo, A, c, P, R, hL, -⟩, hZ, hB⟩ hK
    rw [hys] at hL
    have HZZ := hid (show Gr.bestI (Gr.gst (Gr.nlt l) (Gr.rowsF rows) (Gr.rowsF us) (l.length + 1) D.reverse).2 = Gr.bestI (Gr.groups (Gr.nlt l) (Gr.rowsF rows) (Gr.rowsF us) (l.length + 1) D.reverse [] none) from by rw [Gr.groups_fold]; rfl)
    obtain ⟨z, hz⟩ : ∃ z, z = Gr.bestI (Gr.gst (Gr.nlt l) (Gr.rowsF rows) (Gr.rowsF us) (l.length + 1) D.reverse).2 := ⟨_, rfl⟩
    rw [← hz] at hL HZZ
    have c7 : W.cell? ⟨w.heap.size + 1 + 1, 0, none⟩ = some (.int .i64 z) := (heap_cell hL.bz 0).trans rfl
    rw [hs4] at hD
    have HBW := hid hB
    have HKK := hid hK
    clear hz hL hB hys
    gi_wp2
    refine ⟨by simp, .inl ⟨_, _, rfl, run_takeDeferred HKK.out, ?_⟩⟩
    exact ⟨_, results_tmp rfl _ _ _, D, disc, HL.out, by rw [← HZZ.out]; rfl, HBW.out.trans (belowK_b (w := w) (Nat.le_refl _) W Dd _ _ (by omega) HKK.out rfl rfl)⟩
  case stop =>
    rintro D c pre W _ _ h _
    exact h.elim

end Go.Proofs.Ytahaflapkdjmhaa
