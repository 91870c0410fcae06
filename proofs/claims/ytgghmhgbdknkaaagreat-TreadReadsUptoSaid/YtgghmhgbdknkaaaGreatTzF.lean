/-
  The walk of the reference's whole. Conditions: at most 20000 tokens that are read, of texts of at most 2000000 bytes; what is one level on is read as it is told.
-/
import Derived.Test.YtgghmhgbdknkaaaGreatTzE1
namespace Go.Proofs.YtgghmhgbdknkaaaGreat
open Go.RowKit

theorem ZB.aside {w0 w w' : World} {p : Nat} {site : Int} {A : Option Addr} {n c : Nat} {er : Int} {N : Nat} (h : ZB w0 p site A n c er w) (hg : w.grownBy w' (some N)) (hN : w0.heap.size + 1 < N) : ZB w0 p site A n c er w' :=
  ⟨h.bel.grown hg h.bel.size (fun k hk => by injection hk with hk; omega), (hg.block _ (heap_lt h.box) (by simp; omega)).trans h.box, (hg.block _ (heap_lt h.out) (by simp; omega)).trans h.out⟩

set_option maxHeartbeats 8000000 in
set_option maxRecDepth 100000 in
theorem zwhole_walk {l : List T.Tk} (hll : l.length ≤ 20000) (vl : Value) (lv : Int) (h1v : 1 ≤ lv) (M M2 : Nat) (hM1 : 20001 ≤ M) (hM2 : 20001 + M2 ≤ M) (hM3 : M ≤ 3000000) (A : Option T.P) (hA : ZNx M2 l vl lv A) (s : T.S) (A1 : Option Addr) (c1 : Nat) (w : World) (hx : RdK w w.heap.size vl l) (hsi : RdSt w (.slice A1 s.sites.length c1) s.sites) (hpl : s.pl ≤ l.length) (hsl : s.sites.length ≤ s.pl) (h0 : 0 ≤ s.site) (h1 : s.site + l.length ≤ 4000000000000000000 + s.pl)
    (hAT : Hid (∀ (w : World), RdK w w.heap.size vl l → RdSt w (.slice A1 s.sites.length c1) s.sites → Calls Tryz.prog 23 #[vl, stV s.pl s.site (.slice A1 s.sites.length c1) 0, .int .i64 lv] w (WPost M (T.operF l A s) w)))
    (hGO : T.GoodP l (T.operF l A)) (hBO : T.BadP l (T.operF l A)) :
    Calls Tryz.prog 15 #[vl, stV s.pl s.site (.slice A1 s.sites.length c1) 0, .int .i64 lv] w (WPost M (T.wholeF l A s) w) := by
  have HX := hid hx
  have HIS := hid (fun (p : Nat) (sg : ByteArray) (w : World) hx => is_any l vl p sg w hx)
  have HWR := hid (fun (p q : Nat) (site er : Int) (A : Option Addr) (n c : Nat) (w : World) => wrong_any p q site er 0 A n c w)
  have HZ0 := hid (ZB.first w s.pl s.site A1 s.sites.length c1 0)
  have HSI := hid hsi
  have HGO := hid hGO
  have HBO := hid hBO
  have HAA := hid hA
  have HC0 := hid (hAT.out _ (HX.out.below HZ0.out.bel) (HSI.out.below HZ0.out.bel))
  obtain ⟨Al, capl, rfl, -⟩ := id hx
  clear hx hsi hGO hBO hA hAT
  unfold stV at *
  obtain ⟨m0, m1, n0, n1, hw0⟩ := HZ0.out.cells
  go_enter Tryz.func15, Tryz.ntmps15
  go_wp2_with fail
  refine (HC0.out).mono ?_
  rintro e w1 ⟨hb1, hp⟩
  have HZ1 := hid (HZ0.out.below hb1)
  clear hb1 HC0 m0 m1 n0 n1 hw0
  obtain ⟨m0, m1, n0, n1, hw1⟩ := HZ1.out.cells
  have hv1 : w.heap.size < w1.heap.size := by omega
  rcases hp with ⟨p, er, v, ns, site, A2, n, c, hr, rfl, ho, hn⟩ | ⟨a, s1, v, A2, n, c, hr, rfl, ho, hs⟩
  · have her : (er != 0) = true := by
      have := (HBO.out s h0 hpl p er hr).1
      simp; omega
    have HEQ : Hid (T.wholeF l A s = .bad p er) := hid (wholeF_bad hr)
    have HO := hid (ho.more (B' := w.heap.size) (by have := HZ0.out.bel.size; omega))
    have HN := hid hn
    clear hr ho hn
    unfold stV
    go_wp2
    all_goals go_region
    all_goals go_wp2
    all_goals (
      refine bodyPost_ret (v := .tuple #[v, .agg (st4 p site A2 n c er)]) (by simp [results, Tryz.results15, n0, hw1, go_sem]) rfl ?_
      rw [HEQ.out]
      exact ((zbad HZ1.out HO.out HN.out rfl).below (below_new _)).drew)
  · obtain rfl : n = s1.sites.length := by
      obtain ⟨_, _, h, -⟩ := id hs
      simp only [Value.slice.injEq] at h
      exact h.2.1
    have hga := HGO.out s h0 a s1 hr
    have hna : a.nodes ≤ 20000 := by have h1 := hga.nodes; have h2 := hga.le; omega
    have hs1 : 0 ≤ s1.site := hga.went.site h0
    have hp1 : s1.pl ≤ l.length := hga.le
    have hq1 : s1.sites.length ≤ s1.pl ∧ s1.site + l.length ≤ 4000000000000000000 + s1.pl := by
      obtain ⟨new, g1, g2, g3⟩ := hga.went
      have := hga.lt
      rw [g1, g2, List.length_append]
      omega
    obtain ⟨hsl1, hsb1⟩ := hq1
    obtain ⟨Av, cv, rfl⟩ := row_slice ho
    have hwn : w.heap.size + 1 < w1.heap.size := hw1
    have HB1 := hid (below_new (w := w1) (.cells (st4 s1.pl s1.site A2 s1.sites.length c 0) 49))
    have HM1 := hid (heap_alloc_new w1 (.cells (st4 s1.pl s1.site A2 s1.sites.length c 0) 49))
    have HZb := hid (HZ1.out.below HB1.out)
    have HI2 := hid (HIS.out s1.pl T.kArrow _ (HX.out.below HZb.out.bel))
    have HO1 := hid ((ho.more (B' := w.heap.size) (by have := HZ0.out.bel.size; omega)).below HB1.out)
    have HS1 := hid (hs.below HB1.out)
    have HOPE := hid hr
    clear hr ho hs hga
    unfold stV
    go_wp2_with fail
    refine (HI2.out).mono ?_
    rintro e w2 ⟨rfl, hb2⟩
    have HZ2 := hid (HZb.out.below hb2)
    have HO2 := hid (HO1.out.below hb2)
    have HS2 := hid (HS1.out.below hb2)
    have HM2 := hid ((hb2.block _ (heap_lt HM1.out)).trans HM1.out)
    clear hb2 m0 m1 n0 n1 hw1 hv1 HI2
    obtain ⟨m0, m1, n0, n1, hw2⟩ := HZ2.out.cells
    have hv2 : w.heap.size < w2.heap.size := by omega
    have q0 : ∀ j, w2.cell? ⟨w1.heap.size, j, none⟩ = (st4 s1.pl s1.site A2 s1.sites.length c 0)[j]? := fun j => Lib.cell_of_heap HM2.out j
    have q1 : ∀ j, w2.frozen? ⟨w1.heap.size, j, none⟩ = false := fun j => Lib.frozen_of_heap HM2.out j
    have hq2 : w1.heap.size < w2.heap.size := heap_lt HM2.out
    cases har : T.isSign l s1.pl T.kArrow with
    | false =>
      have HEQ : Hid (T.wholeF l A s = .ok a s1) := hid (wholeF_not HOPE.out har)
      clear har
      go_wp2
      go_region
      all_goals go_wp2
      all_goals (
        refine bodyPost_ret (v := .tuple #[.slice Av a.flat.length cv, .agg #[.int .i64 (s1.pl : Int), .int .i64 s1.site, .slice A2 s1.sites.length c, .int .i64 0]]) (by simp [results, Tryz.results15, n0, go_sem]) rfl ?_
        exact (zend HZ2.out HO2.out (Nat.le_refl _) HS2.out HEQ.out (s1.pl : Int) s1.site rfl rfl).drew)
    | true =>
      have hlt := T.isSign_lt har
      have HAR := hid har
      clear har
      rcases HAA.out with ⟨hl, rfl⟩ | ⟨hl, B, rfl, hG, hBB, hB⟩
      · have HEQ : Hid (T.wholeF l none s = .bad s1.pl 4) := hid (wholeF_last HOPE.out HAR.out)
        go_wp2_with fail
        refine (HWR.out s1.pl s1.pl s1.site 4 A2 s1.sites.length c _).mono ?_
        rintro e wz ⟨rfl, hz⟩
        have HBZ := hid (HZ2.out.below hz)
        clear m0 m1 n0 n1 hw2 hz q0 q1
        obtain ⟨-, -, z0, z1, z2⟩ := HBZ.out.cells
        go_wp2
        refine bodyPost_ret (v := .tuple #[.slice none 0 0, .agg (st4 s1.pl s1.site A2 s1.sites.length c 4)]) (by simp [results, Tryz.results15, z0, go_sem]) rfl ?_
        exact WPost.none (below4 (b := w.heap.size + 1) HBZ.out.bel _ _ _ _) s1.pl 4 s1.site A2 _ c HEQ.out
      · have HEQ := hid (wholeF_arr HOPE.out HAR.out)
        have hg3 : w2.grownBy (w2.setCell ⟨w1.heap.size, 0, none⟩ (.int .i64 ((s1.pl : Int) + 1))) (some w1.heap.size) := grownBy_cell _ _ 0 _
        have HZ3 := hid (show ZB w s.pl s.site A1 s.sites.length c1 0 (w2.setCell ⟨w1.heap.size, 0, none⟩ (.int .i64 ((s1.pl : Int) + 1))) from HZ2.out.aside hg3 hwn)
        have HS3 := hid (HS2.out.put HM2.out (by decide) hg3)
        have HO3 := hid (show Own w.heap.size (.slice Av a.flat.length cv) a.flat _ from row_put (show w2.ownsRow w.heap.size 54 3 (.slice Av a.flat.length cv) a.flat.length (cellsN a.flat) from HO2.out) HM2.out (by decide) hg3)
        have HC3 := hid (hB (stN s1) A2 c _ (HX.out.below HZ3.out.bel) HS3.out (by simp only [stN]; omega) (by simp only [stN]; omega) hs1 (by simp only [stN]; omega))
        have HG := hid hG
        have HBB := hid hBB
        clear hG hBB hB hg3
        unfold stV at HC3
        go_wp2_with fail
        refine (HC3.out).mono ?_
        rintro e w4 ⟨hb4, hp⟩
        have HZ4 := hid (HZ3.out.below hb4)
        have HO4 := hid (HO3.out.below hb4)
        clear hb4 m0 m1 n0 n1 hw2 hv2 HC3 q0 q1
        obtain ⟨m0, m1, n0, n1, hw4⟩ := HZ4.out.cells
        have hv4 : w.heap.size < w4.heap.size := by omega
        rcases hp with ⟨p, er, v, ns, site, A4, n, c4, hr, rfl, ho, hn⟩ | ⟨b, s4, v, A4, n, c4, hr, rfl, ho, hs⟩
        · have HEQ2 : Hid (T.wholeF l (some B) s = .bad p er) := hid (by rw [HEQ.out, hr]; rfl)
          have HBa := hid ((below_new (w := w4) (.cells (st4 p site A4 n c4 er) 49)).drew)
          have HMd : Hid ((w4.alloc (.cells (st4 p site A4 n c4 er) 49)).drew.heap[w4.heap.size]? = some (.cells (st4 p site A4 n c4 er) 49 (0, 0))) := hid (heap_alloc_new w4 (.cells (st4 p site A4 n c4 er) 49))
          have HZd := hid (HZ4.out.below HBa.out)
          have HAW := hid (refArrow_nil a.flat ns _ v _ (HO4.out.below HBa.out).rd (ho.below HBa.out).rd (by rw [flat_len]; omega) (by omega))
          clear hr ho
          unfold stV
          go_wp2
          go_region_law (first
            | (go_simp; go_at_call 26; refine (HAW.out).mono ?_; rintro e w5 ⟨v5, rfl, ho5, hb5⟩
               have HZ5 := hid (HZd.out.below hb5)
               have HO5 := hid (ho5.more (B' := w.heap.size) (by have := HZd.out.bel.size; omega))
               have hM5 := (hb5.block _ (heap_lt HMd.out)).trans HMd.out
               have k0 : ∀ j, w5.cell? ⟨w4.heap.size, j, none⟩ = (st4 p site A4 n c4 er)[j]? := fun j => Lib.cell_of_heap hM5 j
               have HS5 := hid hb5
               obtain ⟨g0, g1, y0, y1, hw5⟩ := HZ5.out.cells
               have hv5 : w.heap.size < w5.heap.size := by omega
               have hv6 : w4.heap.size < w5.heap.size := heap_lt hM5
               clear ho5 hb5 hM5))
          all_goals go_wp2
          all_goals (
            refine bodyPost_ret (v := .tuple #[v5, .agg (st4 p site A4 n c4 er)]) (by simp [results, Tryz.results15, y0, go_sem]) rfl ?_
            exact zbad HZ5.out HO5.out (by simp [flat_len]; omega) HEQ2.out)
        · obtain rfl : n = s4.sites.length := by
            obtain ⟨_, _, h, -⟩ := id hs
            simp only [Value.slice.injEq] at h
            exact h.2.1
          have hgb := HG.out (stN s1) hs1 b s4 hr
          have hnb : b.nodes ≤ 20000 := by have h1 := hgb.nodes; have h2 := hgb.le; omega
          have HEQ2 : Hid (T.wholeF l (some B) s = .ok (T.arrT a b) s4) := hid (by rw [HEQ.out, hr]; rfl)
          have HF : Hid ((⟨5, ⟨#[]⟩, 0⟩ : L.Nd) :: (a.flat ++ b.flat) = (T.arrT a b).flat) := hid (by simp [T.arrT, T.Tr.flat, L.Fo.flat, T.e0])
          clear hgb
          have HBa := hid ((below_new (w := w4) (.cells (st4 s4.pl s4.site A4 s4.sites.length c4 0) 49)).drew)
          have HMd : Hid ((w4.alloc (.cells (st4 s4.pl s4.site A4 s4.sites.length c4 0) 49)).drew.heap[w4.heap.size]? = some (.cells (st4 s4.pl s4.site A4 s4.sites.length c4 0) 49 (0, 0))) := hid (heap_alloc_new w4 (.cells (st4 s4.pl s4.site A4 s4.sites.length c4 0) 49))
          have HZd := hid (HZ4.out.below HBa.out)
          have HAW := hid (refArrow_nil a.flat b.flat _ v _ (HO4.out.below HBa.out).rd (ho.below HBa.out).rd (by rw [flat_len]; omega) (by rw [flat_len]; omega))
          have HS4 := hid (hs.below HBa.out)
          clear hr ho
          unfold stV
          go_wp2
          go_region_law (first
            | (go_simp; go_at_call 26; refine (HAW.out).mono ?_; rintro e w5 ⟨v5, rfl, ho5, hb5⟩
               have HZ5 := hid (HZd.out.below hb5)
               have HO5 := hid (ho5.more (B' := w.heap.size) (by have := HZd.out.bel.size; omega))
               have hM5 := (hb5.block _ (heap_lt HMd.out)).trans HMd.out
               have k0 : ∀ j, w5.cell? ⟨w4.heap.size, j, none⟩ = (st4 s4.pl s4.site A4 s4.sites.length c4 0)[j]? := fun j => Lib.cell_of_heap hM5 j
               have HS5 := hid hb5
               obtain ⟨g0, g1, y0, y1, hw5⟩ := HZ5.out.cells
               have hv5 : w.heap.size < w5.heap.size := by omega
               have hv6 : w4.heap.size < w5.heap.size := heap_lt hM5
               clear ho5 hb5 hM5))
          all_goals go_wp2
          all_goals (
            refine bodyPost_ret (v := .tuple #[v5, .agg (st4 s4.pl s4.site A4 s4.sites.length c4 0)]) (by simp [results, Tryz.results15, y0, go_sem]) rfl ?_
            exact zend HZ5.out (by rw [← HF.out]; exact HO5.out) (Nat.le_refl _) (HS4.out.below HS5.out) HEQ2.out (s4.pl : Int) s4.site rfl rfl)

end Go.Proofs.YtgghmhgbdknkaaaGreat
