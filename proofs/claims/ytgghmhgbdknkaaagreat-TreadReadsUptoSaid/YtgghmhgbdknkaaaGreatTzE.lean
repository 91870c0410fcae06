/-
  The walk of the reference's atom. Conditions: at most 20000 tokens that are read, of texts of at most 2000000 bytes; what is one level on is read as it is told.
-/
import Derived.Test.YtgghmhgbdknkaaaGreatTzE0
import Derived.Deep.RegionLaw
namespace Go.Proofs.YtgghmhgbdknkaaaGreat
open Go.RowKit

set_option maxHeartbeats 4000000 in
set_option maxRecDepth 100000 in
theorem zatom_end {l : List T.Tk} (hll : l.length ≤ 20000) (vl : Value) (lv : Int) (M : Nat) (s : T.S) (A1 : Option Addr) (c1 : Nat) (w : World) (hx : RdK w w.heap.size vl l) (hsi : RdSt w (.slice A1 s.sites.length c1) s.sites) (hpl : s.pl ≤ l.length) (hsl : s.sites.length ≤ s.pl) (h0 : 0 ≤ s.site) (h1 : s.site + l.length ≤ 4000000000000000000 + s.pl)
    (hge : ¬ s.pl < l.length) :
    Calls Tryz.prog 23 #[vl, stV s.pl s.site (.slice A1 s.sites.length c1) 0, .int .i64 lv] w (WPost M (.bad l.length 2) w) := by
  have hu := And.intro hll (And.intro hpl (And.intro hsl (And.intro h0 h1)))
  clear hu
  have HX := hid hx
  have HIS := hid (fun (p : Nat) (sg : ByteArray) (w : World) hx => is_any l vl p sg w hx)
  have HWR := hid (fun (p q : Nat) (site er : Int) (A : Option Addr) (n c : Nat) (w : World) => wrong_any p q site er 0 A n c w)
  have HZ0 := hid (ZB.first w s.pl s.site A1 s.sites.length c1 0)
  have HSI := hid hsi
  obtain ⟨Al, capl, rfl, -⟩ := id hx
  clear hx hsi
  have hpn : s.pl ≤ 20000 := by omega
  have hsn : s.site ≤ 4000000000000020000 := by omega
  have hwp : IntKind.i64.wrap ((s.pl : Int) + 1) = (s.pl : Int) + 1 := IntWalk.i64_in _ (by omega)
  have hws : IntKind.i64.wrap (s.site + 1) = s.site + 1 := IntWalk.i64_in _ (by omega)
  unfold stV at *
  obtain ⟨m0, m1, n0, n1, hw0⟩ := HZ0.out.cells
  go_enter Tryz.func23, Tryz.ntmps23
  have hgez : (l.length : Int) ≤ (s.pl : Int) := by omega
  go_wp2_with fail
  refine (HWR.out s.pl l.length s.site 2 A1 s.sites.length c1 _).mono ?_
  rintro e wz ⟨rfl, hz⟩
  have HBZ := hid (HZ0.out.below hz)
  clear m0 m1 n0 n1 hw0 hz
  obtain ⟨-, -, z0, z1, z2⟩ := HBZ.out.cells
  go_wp2
  refine bodyPost_ret (v := .tuple #[.slice none 0 0, .agg (st4 l.length s.site A1 s.sites.length c1 2)]) (by simp [results, Tryz.results23, z0, go_sem]) rfl ?_
  exact WPost.none (below4 (b := w.heap.size + 1) HBZ.out.bel _ _ _ _) (l.length) 2 s.site A1 _ c1 rfl

set_option maxHeartbeats 4000000 in
set_option maxRecDepth 100000 in
theorem zatom_q {l : List T.Tk} (hll : l.length ≤ 20000) (vl : Value) (lv : Int) (M : Nat) (s : T.S) (A1 : Option Addr) (c1 : Nat) (w : World) (hx : RdK w w.heap.size vl l) (hsi : RdSt w (.slice A1 s.sites.length c1) s.sites) (hpl : s.pl ≤ l.length) (hsl : s.sites.length ≤ s.pl) (h0 : 0 ≤ s.site) (h1 : s.site + l.length ≤ 4000000000000000000 + s.pl)
    (hlt : s.pl < l.length) (hq : Hid (T.isSign l s.pl T.kQ = true)) :
    Calls Tryz.prog 23 #[vl, stV s.pl s.site (.slice A1 s.sites.length c1) 0, .int .i64 lv] w (WPost M (.ok (T.leafT 0 s.site) (stQ s (tokAt l s.pl))) w) := by
  have hu := And.intro hll (And.intro hpl (And.intro hsl (And.intro h0 h1)))
  clear hu
  have HX := hid hx
  have HIS := hid (fun (p : Nat) (sg : ByteArray) (w : World) hx => is_any l vl p sg w hx)
  have HWR := hid (fun (p q : Nat) (site er : Int) (A : Option Addr) (n c : Nat) (w : World) => wrong_any p q site er 0 A n c w)
  have HZ0 := hid (ZB.first w s.pl s.site A1 s.sites.length c1 0)
  have HSI := hid hsi
  obtain ⟨Al, capl, rfl, -⟩ := id hx
  obtain ⟨b, o, rfl, hb, x0, x1, x2, x3⟩ := HX.out.at hlt
  have HTA : Hid (tokAt l s.pl = l[s.pl]) := hid (by simp [tokAt, List.getD, hlt])
  obtain ⟨tk, htk⟩ : ∃ tk, l[s.pl] = tk := ⟨_, rfl⟩
  rw [htk] at x0 x1 x2 x3 HTA
  have HTK := hid htk
  clear htk
  obtain ⟨kd, X, tf, tn⟩ := tk
  have X0 := hid x0
  have X1 := hid x1
  have X2 := hid x2
  have X3 := hid x3
  clear x0 x1 x2 x3
  have hltz : (s.pl : Int) < (l.length : Int) := by omega
  clear hx hsi
  have hpn : s.pl ≤ 20000 := by omega
  have hsn : s.site ≤ 4000000000000020000 := by omega
  have hwp : IntKind.i64.wrap ((s.pl : Int) + 1) = (s.pl : Int) + 1 := IntWalk.i64_in _ (by omega)
  have hws : IntKind.i64.wrap (s.site + 1) = s.site + 1 := IntWalk.i64_in _ (by omega)
  unfold stV at *
  obtain ⟨m0, m1, n0, n1, hw0⟩ := HZ0.out.cells
  go_enter Tryz.func23, Tryz.ntmps23
  have HC1 := hid (by have := HIS.out (s.pl) T.kQ _ (HX.out.below HZ0.out.bel); rw [hq.out] at this; exact this)
  go_wp2_with fail
  refine (HC1.out).mono ?_
  rintro e w1 ⟨rfl, hb1⟩
  have HB1 := hid hb1
  have HZ1 := hid (HZ0.out.below hb1)
  have p0 := (HZ1.out.bel.cell (p := ⟨b, o + s.pl * 4, none⟩) hb).trans X0.out
  have p1 := (HZ1.out.bel.cell (p := ⟨b, o + s.pl * 4 + 1, none⟩) hb).trans X1.out
  have p2 := (HZ1.out.bel.cell (p := ⟨b, o + s.pl * 4 + 2, none⟩) hb).trans X2.out
  have p3 := (HZ1.out.bel.cell (p := ⟨b, o + s.pl * 4 + 3, none⟩) hb).trans X3.out
  clear hb1 HC1 m0 m1 n0 n1 hw0 
  obtain ⟨m0, m1, n0, n1, hw1⟩ := HZ1.out.cells
  have hv1 : w.heap.size < w1.heap.size := by omega
  have HN := hid (lit_own w1 (w.heap.size + 2) (by omega) 0 s.site ⟨#[]⟩)
  have HN2 := hid (row_below HN.out (below_new (.cells #[] 41)))
  have HZa := hid ((HZ1.out.below (below_new (.cells #[.int .i64 0, .string ⟨#[]⟩, .int .i64 s.site] 54))).below (below_new (.cells #[] 41)))
  have HS0 : Hid (OwnSi (w.heap.size + 2) (.slice (some ⟨w1.heap.size + 1, 0, none⟩) 0 0) [] ((w1.alloc (.cells #[.int .i64 0, .string ⟨#[]⟩, .int .i64 s.site] 54)).alloc (.cells #[] 41))) := hid (by
    have := (World.ownsRow_lit (w1.alloc (.cells #[.int .i64 0, .string ⟨#[]⟩, .int .i64 s.site] 54)) #[] 0 (by simp; omega) (by decide) rfl : ((w1.alloc (.cells #[.int .i64 0, .string ⟨#[]⟩, .int .i64 s.site] 54)).alloc (.cells #[] 41)).ownsRow (w.heap.size + 2) 41 3 (.slice (some ⟨(w1.alloc (.cells #[.int .i64 0, .string ⟨#[]⟩, .int .i64 s.site] 54)).heap.size, 0, none⟩) 0 0) 0 [])
    simpa [OwnSi, cellsSi] using this)
  have HRS := hid (HSI.out.below HZa.out.bel).rd
  go_wp2_with (at_builtin; refine wpList_appSi rfl _ _ rfl rfl (w.heap.size + 2) _ _ [] s.sites rfl HS0.out rfl HRS.out (by simp; omega) (by simp; omega) ?_)
  intro v3 w3 ho3 hg3
  have HZ3 := hid (HZa.out.grown HS0.out hg3)
  have HN3 := hid (row_aside HN2.out HS0.out (by decide) hg3)
  have ho3' : OwnSi (w.heap.size + 2) v3 s.sites w3 := by simpa using ho3
  obtain ⟨A3, c3, rfl⟩ := row_slice ho3'
  have HO3 : Hid (OwnSi (w.heap.size + 2) (.slice A3 s.sites.length c3) s.sites w3) := hid ho3'
  clear ho3 ho3' hg3 m0 m1 n0 n1 hw1 hv1 p0 p1 p2 p3
  obtain ⟨m0, m1, n0, n1, hw3⟩ := HZ3.out.cells
  have hv3 : w.heap.size < w3.heap.size := by omega
  have p0 := (HZ3.out.bel.cell (p := ⟨b, o + s.pl * 4, none⟩) hb).trans X0.out
  have p1 := (HZ3.out.bel.cell (p := ⟨b, o + s.pl * 4 + 1, none⟩) hb).trans X1.out
  have p2 := (HZ3.out.bel.cell (p := ⟨b, o + s.pl * 4 + 2, none⟩) hb).trans X2.out
  have p3 := (HZ3.out.bel.cell (p := ⟨b, o + s.pl * 4 + 3, none⟩) hb).trans X3.out
  have HA3 := hid (show Below w3.heap.size w3 (w3.drew.alloc (.cells #[.int .i64 tf, .int .i64 tn, .bool false] 41)) from ((Below.refl _ _).drew).alloc (Nat.le_refl _) _)
  have HO4 := hid (show (w3.drew.alloc (.cells #[.int .i64 tf, .int .i64 tn, .bool false] 41)).ownsRow (w.heap.size + 2) 41 3 (.slice A3 s.sites.length c3) s.sites.length (cellsSi s.sites) from row_below HO3.out HA3.out)
  have HN4 := hid (row_below HN3.out HA3.out)
  have HZ4 := hid (HZ3.out.below HA3.out)
  have HNW : Hid (∀ j u, ([.int .i64 tf, .int .i64 tn, .bool false] : List Value)[j]? = some u → (w3.drew.alloc (.cells #[.int .i64 tf, .int .i64 tn, .bool false] 41)).cell? ((⟨w3.heap.size, 0, none⟩ : Addr).add j) = some u) := hid (lit_cells w3.drew #[.int .i64 tf, .int .i64 tn, .bool false] 41 [.int .i64 tf, .int .i64 tn, .bool false] rfl)
  have HON1 : Hid (∀ u ∈ ([.int .i64 tf, .int .i64 tn, .bool false] : List Value), u.oneCell' = true) := hid (by simp [Value.oneCell'])
  have H63 : Hid (s.sites.length + 1 ≤ maxLen) := hid (by unfold maxLen; omega)
  have HBY : Hid ((s.sites.length + 1) * 24 ≤ 140737488355328) := hid (by omega)
  have HBS : Hid (w.heap.size + 2 ≤ (w3.drew.alloc (.cells #[.int .i64 tf, .int .i64 tn, .bool false] 41)).heap.size) := hid (by have := HA3.out.size; omega)
  obtain ⟨i0, hi, hz0, hz1, hz2⟩ := info_parts infoSite2
  go_wp2
  go_region_law (first
    | (refine step_append_own rfl (.tmp 39) (.tmp 53) 27 rfl (w.heap.size + 2) 41 i0 (.agg #[.int .i64 0, .int .i64 0, .bool false]) 3 24 Tryz.underlying27 hi hz0 hz1 hz2 rfl (by decide) _ _ _ rfl HO4.out ⟨w3.heap.size, 0, none⟩ 1 1 [.int .i64 tf, .int .i64 tn, .bool false] rfl rfl HNW.out HON1.out H63.out HBY.out HBS.out ?_
       intro v5 w5 hown hgrow hnil
       have HZ5 := hid (HZ4.out.grown HO4.out hgrow)
       have HN5 := hid (row_aside HN4.out HO4.out (by decide) hgrow)
       obtain ⟨A5, c5, rfl⟩ := row_slice hown
       have HO5 := hid (OwnSi.snoc ⟨tf, tn⟩ hown)
       clear hown hgrow hnil
       obtain ⟨k0, k1, r0, r1, hw5⟩ := HZ5.out.cells
       have hv5 : w.heap.size < w5.heap.size := by omega))
  all_goals go_wp2
  all_goals go_region
  all_goals go_wp2
  all_goals try simp only [hwp, hws]
  all_goals (
    refine bodyPost_ret (v := .tuple #[.slice (some ⟨w1.heap.size, 0, none⟩) 1 1, .agg #[.int .i64 ((s.pl : Int) + 1), .int .i64 (s.site + 1), .slice A5 (s.sites.length + 1) c5, .int .i64 0]]) (by simp [results, Tryz.results23, r0, go_sem]) rfl ?_
    exact (zend HZ5.out (s' := stQ s (tokAt l s.pl)) (show Own (w.heap.size + 2) _ (T.leafT 0 s.site).flat w5 from HN5.out) (by omega) (by rw [HTA.out]; exact OwnSi.rdt HO5.out) rfl ((s.pl : Int) + 1) (s.site + 1) rfl rfl).drew)

set_option maxHeartbeats 4000000 in
set_option maxRecDepth 100000 in
theorem zatom_key {l : List T.Tk} (hll : l.length ≤ 20000) (vl : Value) (lv : Int) (M : Nat) (s : T.S) (A1 : Option Addr) (c1 : Nat) (w : World) (hx : RdK w w.heap.size vl l) (hsi : RdSt w (.slice A1 s.sites.length c1) s.sites) (hpl : s.pl ≤ l.length) (hsl : s.sites.length ≤ s.pl) (h0 : 0 ≤ s.site) (h1 : s.site + l.length ≤ 4000000000000000000 + s.pl)
    (hlt : s.pl < l.length) (hq : Hid (T.isSign l s.pl T.kQ = false)) (k : Int) (hk0 : 0 ≤ k) (hkk : Hid (T.baseK (tokAt l s.pl) = k)) :
    Calls Tryz.prog 23 #[vl, stV s.pl s.site (.slice A1 s.sites.length c1) 0, .int .i64 lv] w (WPost M (.ok (T.leafT k 0) (stN s)) w) := by
  have hu := And.intro hll (And.intro hpl (And.intro hsl (And.intro h0 h1)))
  clear hu
  have HX := hid hx
  have HIS := hid (fun (p : Nat) (sg : ByteArray) (w : World) hx => is_any l vl p sg w hx)
  have HWR := hid (fun (p q : Nat) (site er : Int) (A : Option Addr) (n c : Nat) (w : World) => wrong_any p q site er 0 A n c w)
  have HZ0 := hid (ZB.first w s.pl s.site A1 s.sites.length c1 0)
  have HSI := hid hsi
  obtain ⟨Al, capl, rfl, -⟩ := id hx
  obtain ⟨b, o, rfl, hb, x0, x1, x2, x3⟩ := HX.out.at hlt
  have HTA : Hid (tokAt l s.pl = l[s.pl]) := hid (by simp [tokAt, List.getD, hlt])
  obtain ⟨tk, htk⟩ : ∃ tk, l[s.pl] = tk := ⟨_, rfl⟩
  rw [htk] at x0 x1 x2 x3 HTA
  have HTK := hid htk
  clear htk
  obtain ⟨kd, X, tf, tn⟩ := tk
  have X0 := hid x0
  have X1 := hid x1
  have X2 := hid x2
  have X3 := hid x3
  clear x0 x1 x2 x3
  have hltz : (s.pl : Int) < (l.length : Int) := by omega
  clear hx hsi
  have hpn : s.pl ≤ 20000 := by omega
  have hsn : s.site ≤ 4000000000000020000 := by omega
  have hwp : IntKind.i64.wrap ((s.pl : Int) + 1) = (s.pl : Int) + 1 := IntWalk.i64_in _ (by omega)
  have hws : IntKind.i64.wrap (s.site + 1) = s.site + 1 := IntWalk.i64_in _ (by omega)
  unfold stV at *
  obtain ⟨m0, m1, n0, n1, hw0⟩ := HZ0.out.cells
  go_enter Tryz.func23, Tryz.ntmps23
  have hkb : Hid (T.baseK ⟨kd, X, tf, tn⟩ = k) := hid (by rw [← HTA.out]; exact hkk.out)
  have HC1 := hid (by have := HIS.out (s.pl) T.kQ _ (HX.out.below HZ0.out.bel); rw [hq.out] at this; exact this)
  go_wp2_with fail
  refine (HC1.out).mono ?_
  rintro e w1 ⟨rfl, hb1⟩
  have HB1 := hid hb1
  have HZ1 := hid (HZ0.out.below hb1)
  have p0 := (HZ1.out.bel.cell (p := ⟨b, o + s.pl * 4, none⟩) hb).trans X0.out
  have p1 := (HZ1.out.bel.cell (p := ⟨b, o + s.pl * 4 + 1, none⟩) hb).trans X1.out
  have p2 := (HZ1.out.bel.cell (p := ⟨b, o + s.pl * 4 + 2, none⟩) hb).trans X2.out
  have p3 := (HZ1.out.bel.cell (p := ⟨b, o + s.pl * 4 + 3, none⟩) hb).trans X3.out
  clear hb1 HC1 m0 m1 n0 n1 hw0 
  obtain ⟨m0, m1, n0, n1, hw1⟩ := HZ1.out.cells
  have hv1 : w.heap.size < w1.heap.size := by omega
  have HC2 := hid (by have := base_any ⟨kd, X, tf, tn⟩ w1; rw [hkb.out] at this; exact this)
  go_wp2_with fail
  refine (HC2.out).mono ?_
  rintro e w2 ⟨rfl, hb2⟩
  have HB2 := hid hb2
  have HZ2 := hid (HZ1.out.below hb2)
  clear p0 p1 p2 p3
  have p0 := (HZ2.out.bel.cell (p := ⟨b, o + s.pl * 4, none⟩) hb).trans X0.out
  have p1 := (HZ2.out.bel.cell (p := ⟨b, o + s.pl * 4 + 1, none⟩) hb).trans X1.out
  have p2 := (HZ2.out.bel.cell (p := ⟨b, o + s.pl * 4 + 2, none⟩) hb).trans X2.out
  have p3 := (HZ2.out.bel.cell (p := ⟨b, o + s.pl * 4 + 3, none⟩) hb).trans X3.out
  clear hb2 HC2 m0 m1 n0 n1 hw1 hv1
  obtain ⟨m0, m1, n0, n1, hw2⟩ := HZ2.out.cells
  have hv2 : w.heap.size < w2.heap.size := by omega
  have HZ3 := hid (HZ2.out.next (s.pl + 1) ((s.pl : Int) + 1) rfl)
  have HS3 := hid ((HSI.out.below HZ2.out.bel).put HZ2.out.box (by decide) (grownBy_cell w2 w.heap.size 0 (.int .i64 ((s.pl : Int) + 1))))
  go_wp2
  go_region
  all_goals go_wp2
  all_goals (
    refine bodyPost_ret (v := .tuple #[.slice (some ⟨w2.heap.size, 0, none⟩) 1 1, .agg #[.int .i64 ((s.pl : Int) + 1), .int .i64 s.site, .slice A1 s.sites.length c1, .int .i64 0]]) (by simp [results, Tryz.results23, n0, hw2, go_sem]) rfl ?_
    have hb4 := below4 (b := w.heap.size + 1) HZ3.out.bel (.int .i64 ((s.pl : Int) + 1)) (.int .i64 s.site) (.slice A1 s.sites.length c1) (.int .i64 0)
    have hsz : (put4 (w2.setCell ⟨w.heap.size, 0, none⟩ (.int .i64 ((s.pl : Int) + 1))) (w.heap.size + 1) (.int .i64 ((s.pl : Int) + 1)) (.int .i64 s.site) (.slice A1 s.sites.length c1) (.int .i64 0)).heap.size = w2.heap.size := by simp [put4, World.setCell]
    have hn := lit_own (put4 (w2.setCell ⟨w.heap.size, 0, none⟩ (.int .i64 ((s.pl : Int) + 1))) (w.heap.size + 1) (.int .i64 ((s.pl : Int) + 1)) (.int .i64 s.site) (.slice A1 s.sites.length c1) (.int .i64 0)) w.heap.size (by rw [hsz]; omega) k 0 ⟨#[]⟩
    rw [hsz] at hn
    exact WPost.drew ⟨hb4.alloc hb4.size _, Or.inr ⟨T.leafT k 0, stN s, _, A1, _, c1, rfl, rfl, hn, (HS3.out.put HZ3.out.out (by decide) (put4_grown _ _ _ _ _ _)).below (below_new _)⟩⟩)

set_option maxHeartbeats 4000000 in
set_option maxRecDepth 100000 in
theorem zatom_none {l : List T.Tk} (hll : l.length ≤ 20000) (vl : Value) (lv : Int) (M : Nat) (s : T.S) (A1 : Option Addr) (c1 : Nat) (w : World) (hx : RdK w w.heap.size vl l) (hsi : RdSt w (.slice A1 s.sites.length c1) s.sites) (hpl : s.pl ≤ l.length) (hsl : s.sites.length ≤ s.pl) (h0 : 0 ≤ s.site) (h1 : s.site + l.length ≤ 4000000000000000000 + s.pl)
    (hlt : s.pl < l.length) (hq : Hid (T.isSign l s.pl T.kQ = false)) (hkk : Hid (T.baseK (tokAt l s.pl) = -1)) (h3 : Hid (T.isSign l s.pl T.kOpen = false)) (h4 : Hid (T.isSign l s.pl (T.kLeft 6) = false)) (h5 : Hid (T.isSign l s.pl (T.kLeft 7) = false)) :
    Calls Tryz.prog 23 #[vl, stV s.pl s.site (.slice A1 s.sites.length c1) 0, .int .i64 lv] w (WPost M (.bad s.pl 2) w) := by
  have hu := And.intro hll (And.intro hpl (And.intro hsl (And.intro h0 h1)))
  clear hu
  have HX := hid hx
  have HIS := hid (fun (p : Nat) (sg : ByteArray) (w : World) hx => is_any l vl p sg w hx)
  have HWR := hid (fun (p q : Nat) (site er : Int) (A : Option Addr) (n c : Nat) (w : World) => wrong_any p q site er 0 A n c w)
  have HZ0 := hid (ZB.first w s.pl s.site A1 s.sites.length c1 0)
  have HSI := hid hsi
  obtain ⟨Al, capl, rfl, -⟩ := id hx
  obtain ⟨b, o, rfl, hb, x0, x1, x2, x3⟩ := HX.out.at hlt
  have HTA : Hid (tokAt l s.pl = l[s.pl]) := hid (by simp [tokAt, List.getD, hlt])
  obtain ⟨tk, htk⟩ : ∃ tk, l[s.pl] = tk := ⟨_, rfl⟩
  rw [htk] at x0 x1 x2 x3 HTA
  have HTK := hid htk
  clear htk
  obtain ⟨kd, X, tf, tn⟩ := tk
  have X0 := hid x0
  have X1 := hid x1
  have X2 := hid x2
  have X3 := hid x3
  clear x0 x1 x2 x3
  have hltz : (s.pl : Int) < (l.length : Int) := by omega
  clear hx hsi
  have hpn : s.pl ≤ 20000 := by omega
  have hsn : s.site ≤ 4000000000000020000 := by omega
  have hwp : IntKind.i64.wrap ((s.pl : Int) + 1) = (s.pl : Int) + 1 := IntWalk.i64_in _ (by omega)
  have hws : IntKind.i64.wrap (s.site + 1) = s.site + 1 := IntWalk.i64_in _ (by omega)
  unfold stV at *
  obtain ⟨m0, m1, n0, n1, hw0⟩ := HZ0.out.cells
  go_enter Tryz.func23, Tryz.ntmps23
  have hkb : Hid (T.baseK ⟨kd, X, tf, tn⟩ = -1) := hid (by rw [← HTA.out]; exact hkk.out)
  have HC1 := hid (by have := HIS.out (s.pl) T.kQ _ (HX.out.below HZ0.out.bel); rw [hq.out] at this; exact this)
  go_wp2_with fail
  refine (HC1.out).mono ?_
  rintro e w1 ⟨rfl, hb1⟩
  have HB1 := hid hb1
  have HZ1 := hid (HZ0.out.below hb1)
  have p0 := (HZ1.out.bel.cell (p := ⟨b, o + s.pl * 4, none⟩) hb).trans X0.out
  have p1 := (HZ1.out.bel.cell (p := ⟨b, o + s.pl * 4 + 1, none⟩) hb).trans X1.out
  have p2 := (HZ1.out.bel.cell (p := ⟨b, o + s.pl * 4 + 2, none⟩) hb).trans X2.out
  have p3 := (HZ1.out.bel.cell (p := ⟨b, o + s.pl * 4 + 3, none⟩) hb).trans X3.out
  clear hb1 HC1 m0 m1 n0 n1 hw0 
  obtain ⟨m0, m1, n0, n1, hw1⟩ := HZ1.out.cells
  have hv1 : w.heap.size < w1.heap.size := by omega
  have HC2 := hid (by have := base_any ⟨kd, X, tf, tn⟩ w1; rw [hkb.out] at this; exact this)
  go_wp2_with fail
  refine (HC2.out).mono ?_
  rintro e w2 ⟨rfl, hb2⟩
  have HB2 := hid hb2
  have HZ2 := hid (HZ1.out.below hb2)
  clear p0 p1 p2 p3
  have p0 := (HZ2.out.bel.cell (p := ⟨b, o + s.pl * 4, none⟩) hb).trans X0.out
  have p1 := (HZ2.out.bel.cell (p := ⟨b, o + s.pl * 4 + 1, none⟩) hb).trans X1.out
  have p2 := (HZ2.out.bel.cell (p := ⟨b, o + s.pl * 4 + 2, none⟩) hb).trans X2.out
  have p3 := (HZ2.out.bel.cell (p := ⟨b, o + s.pl * 4 + 3, none⟩) hb).trans X3.out
  clear hb2 HC2 m0 m1 n0 n1 hw1 hv1
  obtain ⟨m0, m1, n0, n1, hw2⟩ := HZ2.out.cells
  have hv2 : w.heap.size < w2.heap.size := by omega
  have HC3 := hid (by have := HIS.out (s.pl) T.kOpen _ (HX.out.below HZ2.out.bel); rw [h3.out] at this; exact this)
  go_wp2_with fail
  refine (HC3.out).mono ?_
  rintro e w3 ⟨rfl, hb3⟩
  have HB3 := hid hb3
  have HZ3 := hid (HZ2.out.below hb3)
  clear p0 p1 p2 p3
  have p0 := (HZ3.out.bel.cell (p := ⟨b, o + s.pl * 4, none⟩) hb).trans X0.out
  have p1 := (HZ3.out.bel.cell (p := ⟨b, o + s.pl * 4 + 1, none⟩) hb).trans X1.out
  have p2 := (HZ3.out.bel.cell (p := ⟨b, o + s.pl * 4 + 2, none⟩) hb).trans X2.out
  have p3 := (HZ3.out.bel.cell (p := ⟨b, o + s.pl * 4 + 3, none⟩) hb).trans X3.out
  clear hb3 HC3 m0 m1 n0 n1 hw2 hv2
  obtain ⟨m0, m1, n0, n1, hw3⟩ := HZ3.out.cells
  have hv3 : w.heap.size < w3.heap.size := by omega
  have HC4 := hid (by have := HIS.out (s.pl) (T.kLeft 6) _ (HX.out.below HZ3.out.bel); rw [h4.out] at this; exact this)
  go_wp2_with fail
  refine (HC4.out).mono ?_
  rintro e w4 ⟨rfl, hb4⟩
  have HB4 := hid hb4
  have HZ4 := hid (HZ3.out.below hb4)
  clear p0 p1 p2 p3
  have p0 := (HZ4.out.bel.cell (p := ⟨b, o + s.pl * 4, none⟩) hb).trans X0.out
  have p1 := (HZ4.out.bel.cell (p := ⟨b, o + s.pl * 4 + 1, none⟩) hb).trans X1.out
  have p2 := (HZ4.out.bel.cell (p := ⟨b, o + s.pl * 4 + 2, none⟩) hb).trans X2.out
  have p3 := (HZ4.out.bel.cell (p := ⟨b, o + s.pl * 4 + 3, none⟩) hb).trans X3.out
  clear hb4 HC4 m0 m1 n0 n1 hw3 hv3
  obtain ⟨m0, m1, n0, n1, hw4⟩ := HZ4.out.cells
  have hv4 : w.heap.size < w4.heap.size := by omega
  have HC5 := hid (by have := HIS.out (s.pl) (T.kLeft 7) _ (HX.out.below HZ4.out.bel); rw [h5.out] at this; exact this)
  go_wp2_with fail
  refine (HC5.out).mono ?_
  rintro e w5 ⟨rfl, hb5⟩
  have HB5 := hid hb5
  have HZ5 := hid (HZ4.out.below hb5)
  clear p0 p1 p2 p3
  have p0 := (HZ5.out.bel.cell (p := ⟨b, o + s.pl * 4, none⟩) hb).trans X0.out
  have p1 := (HZ5.out.bel.cell (p := ⟨b, o + s.pl * 4 + 1, none⟩) hb).trans X1.out
  have p2 := (HZ5.out.bel.cell (p := ⟨b, o + s.pl * 4 + 2, none⟩) hb).trans X2.out
  have p3 := (HZ5.out.bel.cell (p := ⟨b, o + s.pl * 4 + 3, none⟩) hb).trans X3.out
  clear hb5 HC5 m0 m1 n0 n1 hw4 hv4
  obtain ⟨m0, m1, n0, n1, hw5⟩ := HZ5.out.cells
  have hv5 : w.heap.size < w5.heap.size := by omega
  go_wp2_with fail
  refine (HWR.out s.pl s.pl s.site 2 A1 s.sites.length c1 _).mono ?_
  rintro e wz ⟨rfl, hz⟩
  have HBZ := hid (HZ5.out.below hz)
  clear m0 m1 n0 n1 hw5 hz
  obtain ⟨-, -, z0, z1, z2⟩ := HBZ.out.cells
  go_wp2
  refine bodyPost_ret (v := .tuple #[.slice none 0 0, .agg (st4 s.pl s.site A1 s.sites.length c1 2)]) (by simp [results, Tryz.results23, z0, go_sem]) rfl ?_
  exact WPost.none (below4 (b := w.heap.size + 1) HBZ.out.bel _ _ _ _) (s.pl) 2 s.site A1 _ c1 rfl

set_option maxHeartbeats 4000000 in
set_option maxRecDepth 100000 in
theorem zatom_deep1 {l : List T.Tk} (hll : l.length ≤ 20000) (vl : Value) (lv : Int) (M : Nat) (s : T.S) (A1 : Option Addr) (c1 : Nat) (w : World) (hx : RdK w w.heap.size vl l) (hsi : RdSt w (.slice A1 s.sites.length c1) s.sites) (hpl : s.pl ≤ l.length) (hsl : s.sites.length ≤ s.pl) (h0 : 0 ≤ s.site) (h1 : s.site + l.length ≤ 4000000000000000000 + s.pl)
    (hlt : s.pl < l.length) (hq : Hid (T.isSign l s.pl T.kQ = false)) (hkk : Hid (T.baseK (tokAt l s.pl) = -1)) (h3 : Hid (T.isSign l s.pl T.kOpen = true)) (hlv : 100 ≤ lv) :
    Calls Tryz.prog 23 #[vl, stV s.pl s.site (.slice A1 s.sites.length c1) 0, .int .i64 lv] w (WPost M (.bad s.pl 4) w) := by
  have hu := And.intro hll (And.intro hpl (And.intro hsl (And.intro h0 h1)))
  clear hu
  have HX := hid hx
  have HIS := hid (fun (p : Nat) (sg : ByteArray) (w : World) hx => is_any l vl p sg w hx)
  have HWR := hid (fun (p q : Nat) (site er : Int) (A : Option Addr) (n c : Nat) (w : World) => wrong_any p q site er 0 A n c w)
  have HZ0 := hid (ZB.first w s.pl s.site A1 s.sites.length c1 0)
  have HSI := hid hsi
  obtain ⟨Al, capl, rfl, -⟩ := id hx
  obtain ⟨b, o, rfl, hb, x0, x1, x2, x3⟩ := HX.out.at hlt
  have HTA : Hid (tokAt l s.pl = l[s.pl]) := hid (by simp [tokAt, List.getD, hlt])
  obtain ⟨tk, htk⟩ : ∃ tk, l[s.pl] = tk := ⟨_, rfl⟩
  rw [htk] at x0 x1 x2 x3 HTA
  have HTK := hid htk
  clear htk
  obtain ⟨kd, X, tf, tn⟩ := tk
  have X0 := hid x0
  have X1 := hid x1
  have X2 := hid x2
  have X3 := hid x3
  clear x0 x1 x2 x3
  have hltz : (s.pl : Int) < (l.length : Int) := by omega
  clear hx hsi
  have hpn : s.pl ≤ 20000 := by omega
  have hsn : s.site ≤ 4000000000000020000 := by omega
  have hwp : IntKind.i64.wrap ((s.pl : Int) + 1) = (s.pl : Int) + 1 := IntWalk.i64_in _ (by omega)
  have hws : IntKind.i64.wrap (s.site + 1) = s.site + 1 := IntWalk.i64_in _ (by omega)
  unfold stV at *
  obtain ⟨m0, m1, n0, n1, hw0⟩ := HZ0.out.cells
  go_enter Tryz.func23, Tryz.ntmps23
  have hkb : Hid (T.baseK ⟨kd, X, tf, tn⟩ = -1) := hid (by rw [← HTA.out]; exact hkk.out)
  have HC1 := hid (by have := HIS.out (s.pl) T.kQ _ (HX.out.below HZ0.out.bel); rw [hq.out] at this; exact this)
  go_wp2_with fail
  refine (HC1.out).mono ?_
  rintro e w1 ⟨rfl, hb1⟩
  have HB1 := hid hb1
  have HZ1 := hid (HZ0.out.below hb1)
  have p0 := (HZ1.out.bel.cell (p := ⟨b, o + s.pl * 4, none⟩) hb).trans X0.out
  have p1 := (HZ1.out.bel.cell (p := ⟨b, o + s.pl * 4 + 1, none⟩) hb).trans X1.out
  have p2 := (HZ1.out.bel.cell (p := ⟨b, o + s.pl * 4 + 2, none⟩) hb).trans X2.out
  have p3 := (HZ1.out.bel.cell (p := ⟨b, o + s.pl * 4 + 3, none⟩) hb).trans X3.out
  clear hb1 HC1 m0 m1 n0 n1 hw0 
  obtain ⟨m0, m1, n0, n1, hw1⟩ := HZ1.out.cells
  have hv1 : w.heap.size < w1.heap.size := by omega
  have HC2 := hid (by have := base_any ⟨kd, X, tf, tn⟩ w1; rw [hkb.out] at this; exact this)
  go_wp2_with fail
  refine (HC2.out).mono ?_
  rintro e w2 ⟨rfl, hb2⟩
  have HB2 := hid hb2
  have HZ2 := hid (HZ1.out.below hb2)
  clear p0 p1 p2 p3
  have p0 := (HZ2.out.bel.cell (p := ⟨b, o + s.pl * 4, none⟩) hb).trans X0.out
  have p1 := (HZ2.out.bel.cell (p := ⟨b, o + s.pl * 4 + 1, none⟩) hb).trans X1.out
  have p2 := (HZ2.out.bel.cell (p := ⟨b, o + s.pl * 4 + 2, none⟩) hb).trans X2.out
  have p3 := (HZ2.out.bel.cell (p := ⟨b, o + s.pl * 4 + 3, none⟩) hb).trans X3.out
  clear hb2 HC2 m0 m1 n0 n1 hw1 hv1
  obtain ⟨m0, m1, n0, n1, hw2⟩ := HZ2.out.cells
  have hv2 : w.heap.size < w2.heap.size := by omega
  have HC3 := hid (by have := HIS.out (s.pl) T.kOpen _ (HX.out.below HZ2.out.bel); rw [h3.out] at this; exact this)
  go_wp2_with fail
  refine (HC3.out).mono ?_
  rintro e w3 ⟨rfl, hb3⟩
  have HB3 := hid hb3
  have HZ3 := hid (HZ2.out.below hb3)
  clear p0 p1 p2 p3
  have p0 := (HZ3.out.bel.cell (p := ⟨b, o + s.pl * 4, none⟩) hb).trans X0.out
  have p1 := (HZ3.out.bel.cell (p := ⟨b, o + s.pl * 4 + 1, none⟩) hb).trans X1.out
  have p2 := (HZ3.out.bel.cell (p := ⟨b, o + s.pl * 4 + 2, none⟩) hb).trans X2.out
  have p3 := (HZ3.out.bel.cell (p := ⟨b, o + s.pl * 4 + 3, none⟩) hb).trans X3.out
  clear hb3 HC3 m0 m1 n0 n1 hw2 hv2
  obtain ⟨m0, m1, n0, n1, hw3⟩ := HZ3.out.cells
  have hv3 : w.heap.size < w3.heap.size := by omega
  go_wp2_with fail
  refine (HWR.out s.pl s.pl s.site 4 A1 s.sites.length c1 _).mono ?_
  rintro e wz ⟨rfl, hz⟩
  have HBZ := hid (HZ3.out.below hz)
  clear m0 m1 n0 n1 hw3 hz
  obtain ⟨-, -, z0, z1, z2⟩ := HBZ.out.cells
  go_wp2
  refine bodyPost_ret (v := .tuple #[.slice none 0 0, .agg (st4 s.pl s.site A1 s.sites.length c1 4)]) (by simp [results, Tryz.results23, z0, go_sem]) rfl ?_
  exact WPost.none (below4 (b := w.heap.size + 1) HBZ.out.bel _ _ _ _) (s.pl) 4 s.site A1 _ c1 rfl

set_option maxHeartbeats 4000000 in
set_option maxRecDepth 100000 in
theorem zatom_deep2 {l : List T.Tk} (hll : l.length ≤ 20000) (vl : Value) (lv : Int) (M : Nat) (s : T.S) (A1 : Option Addr) (c1 : Nat) (w : World) (hx : RdK w w.heap.size vl l) (hsi : RdSt w (.slice A1 s.sites.length c1) s.sites) (hpl : s.pl ≤ l.length) (hsl : s.sites.length ≤ s.pl) (h0 : 0 ≤ s.site) (h1 : s.site + l.length ≤ 4000000000000000000 + s.pl)
    (hlt : s.pl < l.length) (hq : Hid (T.isSign l s.pl T.kQ = false)) (hkk : Hid (T.baseK (tokAt l s.pl) = -1)) (h3 : Hid (T.isSign l s.pl T.kOpen = false)) (h4 : Hid (T.isSign l s.pl (T.kLeft 6) = true)) (hlv : 100 ≤ lv) :
    Calls Tryz.prog 23 #[vl, stV s.pl s.site (.slice A1 s.sites.length c1) 0, .int .i64 lv] w (WPost M (.bad s.pl 4) w) := by
  have hu := And.intro hll (And.intro hpl (And.intro hsl (And.intro h0 h1)))
  clear hu
  have HX := hid hx
  have HIS := hid (fun (p : Nat) (sg : ByteArray) (w : World) hx => is_any l vl p sg w hx)
  have HWR := hid (fun (p q : Nat) (site er : Int) (A : Option Addr) (n c : Nat) (w : World) => wrong_any p q site er 0 A n c w)
  have HZ0 := hid (ZB.first w s.pl s.site A1 s.sites.length c1 0)
  have HSI := hid hsi
  obtain ⟨Al, capl, rfl, -⟩ := id hx
  obtain ⟨b, o, rfl, hb, x0, x1, x2, x3⟩ := HX.out.at hlt
  have HTA : Hid (tokAt l s.pl = l[s.pl]) := hid (by simp [tokAt, List.getD, hlt])
  obtain ⟨tk, htk⟩ : ∃ tk, l[s.pl] = tk := ⟨_, rfl⟩
  rw [htk] at x0 x1 x2 x3 HTA
  have HTK := hid htk
  clear htk
  obtain ⟨kd, X, tf, tn⟩ := tk
  have X0 := hid x0
  have X1 := hid x1
  have X2 := hid x2
  have X3 := hid x3
  clear x0 x1 x2 x3
  have hltz : (s.pl : Int) < (l.length : Int) := by omega
  clear hx hsi
  have hpn : s.pl ≤ 20000 := by omega
  have hsn : s.site ≤ 4000000000000020000 := by omega
  have hwp : IntKind.i64.wrap ((s.pl : Int) + 1) = (s.pl : Int) + 1 := IntWalk.i64_in _ (by omega)
  have hws : IntKind.i64.wrap (s.site + 1) = s.site + 1 := IntWalk.i64_in _ (by omega)
  unfold stV at *
  obtain ⟨m0, m1, n0, n1, hw0⟩ := HZ0.out.cells
  go_enter Tryz.func23, Tryz.ntmps23
  have hkb : Hid (T.baseK ⟨kd, X, tf, tn⟩ = -1) := hid (by rw [← HTA.out]; exact hkk.out)
  have HC1 := hid (by have := HIS.out (s.pl) T.kQ _ (HX.out.below HZ0.out.bel); rw [hq.out] at this; exact this)
  go_wp2_with fail
  refine (HC1.out).mono ?_
  rintro e w1 ⟨rfl, hb1⟩
  have HB1 := hid hb1
  have HZ1 := hid (HZ0.out.below hb1)
  have p0 := (HZ1.out.bel.cell (p := ⟨b, o + s.pl * 4, none⟩) hb).trans X0.out
  have p1 := (HZ1.out.bel.cell (p := ⟨b, o + s.pl * 4 + 1, none⟩) hb).trans X1.out
  have p2 := (HZ1.out.bel.cell (p := ⟨b, o + s.pl * 4 + 2, none⟩) hb).trans X2.out
  have p3 := (HZ1.out.bel.cell (p := ⟨b, o + s.pl * 4 + 3, none⟩) hb).trans X3.out
  clear hb1 HC1 m0 m1 n0 n1 hw0 
  obtain ⟨m0, m1, n0, n1, hw1⟩ := HZ1.out.cells
  have hv1 : w.heap.size < w1.heap.size := by omega
  have HC2 := hid (by have := base_any ⟨kd, X, tf, tn⟩ w1; rw [hkb.out] at this; exact this)
  go_wp2_with fail
  refine (HC2.out).mono ?_
  rintro e w2 ⟨rfl, hb2⟩
  have HB2 := hid hb2
  have HZ2 := hid (HZ1.out.below hb2)
  clear p0 p1 p2 p3
  have p0 := (HZ2.out.bel.cell (p := ⟨b, o + s.pl * 4, none⟩) hb).trans X0.out
  have p1 := (HZ2.out.bel.cell (p := ⟨b, o + s.pl * 4 + 1, none⟩) hb).trans X1.out
  have p2 := (HZ2.out.bel.cell (p := ⟨b, o + s.pl * 4 + 2, none⟩) hb).trans X2.out
  have p3 := (HZ2.out.bel.cell (p := ⟨b, o + s.pl * 4 + 3, none⟩) hb).trans X3.out
  clear hb2 HC2 m0 m1 n0 n1 hw1 hv1
  obtain ⟨m0, m1, n0, n1, hw2⟩ := HZ2.out.cells
  have hv2 : w.heap.size < w2.heap.size := by omega
  have HC3 := hid (by have := HIS.out (s.pl) T.kOpen _ (HX.out.below HZ2.out.bel); rw [h3.out] at this; exact this)
  go_wp2_with fail
  refine (HC3.out).mono ?_
  rintro e w3 ⟨rfl, hb3⟩
  have HB3 := hid hb3
  have HZ3 := hid (HZ2.out.below hb3)
  clear p0 p1 p2 p3
  have p0 := (HZ3.out.bel.cell (p := ⟨b, o + s.pl * 4, none⟩) hb).trans X0.out
  have p1 := (HZ3.out.bel.cell (p := ⟨b, o + s.pl * 4 + 1, none⟩) hb).trans X1.out
  have p2 := (HZ3.out.bel.cell (p := ⟨b, o + s.pl * 4 + 2, none⟩) hb).trans X2.out
  have p3 := (HZ3.out.bel.cell (p := ⟨b, o + s.pl * 4 + 3, none⟩) hb).trans X3.out
  clear hb3 HC3 m0 m1 n0 n1 hw2 hv2
  obtain ⟨m0, m1, n0, n1, hw3⟩ := HZ3.out.cells
  have hv3 : w.heap.size < w3.heap.size := by omega
  have HC4 := hid (by have := HIS.out (s.pl) (T.kLeft 6) _ (HX.out.below HZ3.out.bel); rw [h4.out] at this; exact this)
  go_wp2_with fail
  refine (HC4.out).mono ?_
  rintro e w4 ⟨rfl, hb4⟩
  have HB4 := hid hb4
  have HZ4 := hid (HZ3.out.below hb4)
  clear p0 p1 p2 p3
  have p0 := (HZ4.out.bel.cell (p := ⟨b, o + s.pl * 4, none⟩) hb).trans X0.out
  have p1 := (HZ4.out.bel.cell (p := ⟨b, o + s.pl * 4 + 1, none⟩) hb).trans X1.out
  have p2 := (HZ4.out.bel.cell (p := ⟨b, o + s.pl * 4 + 2, none⟩) hb).trans X2.out
  have p3 := (HZ4.out.bel.cell (p := ⟨b, o + s.pl * 4 + 3, none⟩) hb).trans X3.out
  clear hb4 HC4 m0 m1 n0 n1 hw3 hv3
  obtain ⟨m0, m1, n0, n1, hw4⟩ := HZ4.out.cells
  have hv4 : w.heap.size < w4.heap.size := by omega
  go_wp2_with fail
  refine (HWR.out s.pl s.pl s.site 4 A1 s.sites.length c1 _).mono ?_
  rintro e wz ⟨rfl, hz⟩
  have HBZ := hid (HZ4.out.below hz)
  clear m0 m1 n0 n1 hw4 hz
  obtain ⟨-, -, z0, z1, z2⟩ := HBZ.out.cells
  go_wp2
  refine bodyPost_ret (v := .tuple #[.slice none 0 0, .agg (st4 s.pl s.site A1 s.sites.length c1 4)]) (by simp [results, Tryz.results23, z0, go_sem]) rfl ?_
  exact WPost.none (below4 (b := w.heap.size + 1) HBZ.out.bel _ _ _ _) (s.pl) 4 s.site A1 _ c1 rfl

set_option maxHeartbeats 4000000 in
set_option maxRecDepth 100000 in
theorem zatom_deep3 {l : List T.Tk} (hll : l.length ≤ 20000) (vl : Value) (lv : Int) (M : Nat) (s : T.S) (A1 : Option Addr) (c1 : Nat) (w : World) (hx : RdK w w.heap.size vl l) (hsi : RdSt w (.slice A1 s.sites.length c1) s.sites) (hpl : s.pl ≤ l.length) (hsl : s.sites.length ≤ s.pl) (h0 : 0 ≤ s.site) (h1 : s.site + l.length ≤ 4000000000000000000 + s.pl)
    (hlt : s.pl < l.length) (hq : Hid (T.isSign l s.pl T.kQ = false)) (hkk : Hid (T.baseK (tokAt l s.pl) = -1)) (h3 : Hid (T.isSign l s.pl T.kOpen = false)) (h4 : Hid (T.isSign l s.pl (T.kLeft 6) = false)) (h5 : Hid (T.isSign l s.pl (T.kLeft 7) = true)) (hlv : 100 ≤ lv) :
    Calls Tryz.prog 23 #[vl, stV s.pl s.site (.slice A1 s.sites.length c1) 0, .int .i64 lv] w (WPost M (.bad s.pl 4) w) := by
  have hu := And.intro hll (And.intro hpl (And.intro hsl (And.intro h0 h1)))
  clear hu
  have HX := hid hx
  have HIS := hid (fun (p : Nat) (sg : ByteArray) (w : World) hx => is_any l vl p sg w hx)
  have HWR := hid (fun (p q : Nat) (site er : Int) (A : Option Addr) (n c : Nat) (w : World) => wrong_any p q site er 0 A n c w)
  have HZ0 := hid (ZB.first w s.pl s.site A1 s.sites.length c1 0)
  have HSI := hid hsi
  obtain ⟨Al, capl, rfl, -⟩ := id hx
  obtain ⟨b, o, rfl, hb, x0, x1, x2, x3⟩ := HX.out.at hlt
  have HTA : Hid (tokAt l s.pl = l[s.pl]) := hid (by simp [tokAt, List.getD, hlt])
  obtain ⟨tk, htk⟩ : ∃ tk, l[s.pl] = tk := ⟨_, rfl⟩
  rw [htk] at x0 x1 x2 x3 HTA
  have HTK := hid htk
  clear htk
  obtain ⟨kd, X, tf, tn⟩ := tk
  have X0 := hid x0
  have X1 := hid x1
  have X2 := hid x2
  have X3 := hid x3
  clear x0 x1 x2 x3
  have hltz : (s.pl : Int) < (l.length : Int) := by omega
  clear hx hsi
  have hpn : s.pl ≤ 20000 := by omega
  have hsn : s.site ≤ 4000000000000020000 := by omega
  have hwp : IntKind.i64.wrap ((s.pl : Int) + 1) = (s.pl : Int) + 1 := IntWalk.i64_in _ (by omega)
  have hws : IntKind.i64.wrap (s.site + 1) = s.site + 1 := IntWalk.i64_in _ (by omega)
  unfold stV at *
  obtain ⟨m0, m1, n0, n1, hw0⟩ := HZ0.out.cells
  go_enter Tryz.func23, Tryz.ntmps23
  have hkb : Hid (T.baseK ⟨kd, X, tf, tn⟩ = -1) := hid (by rw [← HTA.out]; exact hkk.out)
  have HC1 := hid (by have := HIS.out (s.pl) T.kQ _ (HX.out.below HZ0.out.bel); rw [hq.out] at this; exact this)
  go_wp2_with fail
  refine (HC1.out).mono ?_
  rintro e w1 ⟨rfl, hb1⟩
  have HB1 := hid hb1
  have HZ1 := hid (HZ0.out.below hb1)
  have p0 := (HZ1.out.bel.cell (p := ⟨b, o + s.pl * 4, none⟩) hb).trans X0.out
  have p1 := (HZ1.out.bel.cell (p := ⟨b, o + s.pl * 4 + 1, none⟩) hb).trans X1.out
  have p2 := (HZ1.out.bel.cell (p := ⟨b, o + s.pl * 4 + 2, none⟩) hb).trans X2.out
  have p3 := (HZ1.out.bel.cell (p := ⟨b, o + s.pl * 4 + 3, none⟩) hb).trans X3.out
  clear hb1 HC1 m0 m1 n0 n1 hw0 
  obtain ⟨m0, m1, n0, n1, hw1⟩ := HZ1.out.cells
  have hv1 : w.heap.size < w1.heap.size := by omega
  have HC2 := hid (by have := base_any ⟨kd, X, tf, tn⟩ w1; rw [hkb.out] at this; exact this)
  go_wp2_with fail
  refine (HC2.out).mono ?_
  rintro e w2 ⟨rfl, hb2⟩
  have HB2 := hid hb2
  have HZ2 := hid (HZ1.out.below hb2)
  clear p0 p1 p2 p3
  have p0 := (HZ2.out.bel.cell (p := ⟨b, o + s.pl * 4, none⟩) hb).trans X0.out
  have p1 := (HZ2.out.bel.cell (p := ⟨b, o + s.pl * 4 + 1, none⟩) hb).trans X1.out
  have p2 := (HZ2.out.bel.cell (p := ⟨b, o + s.pl * 4 + 2, none⟩) hb).trans X2.out
  have p3 := (HZ2.out.bel.cell (p := ⟨b, o + s.pl * 4 + 3, none⟩) hb).trans X3.out
  clear hb2 HC2 m0 m1 n0 n1 hw1 hv1
  obtain ⟨m0, m1, n0, n1, hw2⟩ := HZ2.out.cells
  have hv2 : w.heap.size < w2.heap.size := by omega
  have HC3 := hid (by have := HIS.out (s.pl) T.kOpen _ (HX.out.below HZ2.out.bel); rw [h3.out] at this; exact this)
  go_wp2_with fail
  refine (HC3.out).mono ?_
  rintro e w3 ⟨rfl, hb3⟩
  have HB3 := hid hb3
  have HZ3 := hid (HZ2.out.below hb3)
  clear p0 p1 p2 p3
  have p0 := (HZ3.out.bel.cell (p := ⟨b, o + s.pl * 4, none⟩) hb).trans X0.out
  have p1 := (HZ3.out.bel.cell (p := ⟨b, o + s.pl * 4 + 1, none⟩) hb).trans X1.out
  have p2 := (HZ3.out.bel.cell (p := ⟨b, o + s.pl * 4 + 2, none⟩) hb).trans X2.out
  have p3 := (HZ3.out.bel.cell (p := ⟨b, o + s.pl * 4 + 3, none⟩) hb).trans X3.out
  clear hb3 HC3 m0 m1 n0 n1 hw2 hv2
  obtain ⟨m0, m1, n0, n1, hw3⟩ := HZ3.out.cells
  have hv3 : w.heap.size < w3.heap.size := by omega
  have HC4 := hid (by have := HIS.out (s.pl) (T.kLeft 6) _ (HX.out.below HZ3.out.bel); rw [h4.out] at this; exact this)
  go_wp2_with fail
  refine (HC4.out).mono ?_
  rintro e w4 ⟨rfl, hb4⟩
  have HB4 := hid hb4
  have HZ4 := hid (HZ3.out.below hb4)
  clear p0 p1 p2 p3
  have p0 := (HZ4.out.bel.cell (p := ⟨b, o + s.pl * 4, none⟩) hb).trans X0.out
  have p1 := (HZ4.out.bel.cell (p := ⟨b, o + s.pl * 4 + 1, none⟩) hb).trans X1.out
  have p2 := (HZ4.out.bel.cell (p := ⟨b, o + s.pl * 4 + 2, none⟩) hb).trans X2.out
  have p3 := (HZ4.out.bel.cell (p := ⟨b, o + s.pl * 4 + 3, none⟩) hb).trans X3.out
  clear hb4 HC4 m0 m1 n0 n1 hw3 hv3
  obtain ⟨m0, m1, n0, n1, hw4⟩ := HZ4.out.cells
  have hv4 : w.heap.size < w4.heap.size := by omega
  have HC5 := hid (by have := HIS.out (s.pl) (T.kLeft 7) _ (HX.out.below HZ4.out.bel); rw [h5.out] at this; exact this)
  go_wp2_with fail
  refine (HC5.out).mono ?_
  rintro e w5 ⟨rfl, hb5⟩
  have HB5 := hid hb5
  have HZ5 := hid (HZ4.out.below hb5)
  clear p0 p1 p2 p3
  have p0 := (HZ5.out.bel.cell (p := ⟨b, o + s.pl * 4, none⟩) hb).trans X0.out
  have p1 := (HZ5.out.bel.cell (p := ⟨b, o + s.pl * 4 + 1, none⟩) hb).trans X1.out
  have p2 := (HZ5.out.bel.cell (p := ⟨b, o + s.pl * 4 + 2, none⟩) hb).trans X2.out
  have p3 := (HZ5.out.bel.cell (p := ⟨b, o + s.pl * 4 + 3, none⟩) hb).trans X3.out
  clear hb5 HC5 m0 m1 n0 n1 hw4 hv4
  obtain ⟨m0, m1, n0, n1, hw5⟩ := HZ5.out.cells
  have hv5 : w.heap.size < w5.heap.size := by omega
  go_wp2_with fail
  refine (HWR.out s.pl s.pl s.site 4 A1 s.sites.length c1 _).mono ?_
  rintro e wz ⟨rfl, hz⟩
  have HBZ := hid (HZ5.out.below hz)
  clear m0 m1 n0 n1 hw5 hz
  obtain ⟨-, -, z0, z1, z2⟩ := HBZ.out.cells
  go_wp2
  refine bodyPost_ret (v := .tuple #[.slice none 0 0, .agg (st4 s.pl s.site A1 s.sites.length c1 4)]) (by simp [results, Tryz.results23, z0, go_sem]) rfl ?_
  exact WPost.none (below4 (b := w.heap.size + 1) HBZ.out.bel _ _ _ _) (s.pl) 4 s.site A1 _ c1 rfl

set_option maxHeartbeats 4000000 in
set_option maxRecDepth 100000 in
theorem zatom_none6 {l : List T.Tk} (hll : l.length ≤ 20000) (vl : Value) (lv : Int) (M : Nat) (s : T.S) (A1 : Option Addr) (c1 : Nat) (w : World) (hx : RdK w w.heap.size vl l) (hsi : RdSt w (.slice A1 s.sites.length c1) s.sites) (hpl : s.pl ≤ l.length) (hsl : s.sites.length ≤ s.pl) (h0 : 0 ≤ s.site) (h1 : s.site + l.length ≤ 4000000000000000000 + s.pl)
    (hlt : s.pl < l.length) (hq : Hid (T.isSign l s.pl T.kQ = false)) (hkk : Hid (T.baseK (tokAt l s.pl) = -1)) (h3 : Hid (T.isSign l s.pl T.kOpen = false)) (h4 : Hid (T.isSign l s.pl (T.kLeft 6) = true)) (h6 : Hid (T.isSign l (s.pl + 1) (T.kRight 6) = true)) (hlv : lv < 100) :
    Calls Tryz.prog 23 #[vl, stV s.pl s.site (.slice A1 s.sites.length c1) 0, .int .i64 lv] w (WPost M (.ok (T.rowT 6 []) ⟨s.pl + 2, s.site, s.sites⟩) w) := by
  have hu := And.intro hll (And.intro hpl (And.intro hsl (And.intro h0 h1)))
  clear hu
  have HX := hid hx
  have HIS := hid (fun (p : Nat) (sg : ByteArray) (w : World) hx => is_any l vl p sg w hx)
  have HWR := hid (fun (p q : Nat) (site er : Int) (A : Option Addr) (n c : Nat) (w : World) => wrong_any p q site er 0 A n c w)
  have HZ0 := hid (ZB.first w s.pl s.site A1 s.sites.length c1 0)
  have HSI := hid hsi
  obtain ⟨Al, capl, rfl, -⟩ := id hx
  obtain ⟨b, o, rfl, hb, x0, x1, x2, x3⟩ := HX.out.at hlt
  have HTA : Hid (tokAt l s.pl = l[s.pl]) := hid (by simp [tokAt, List.getD, hlt])
  obtain ⟨tk, htk⟩ : ∃ tk, l[s.pl] = tk := ⟨_, rfl⟩
  rw [htk] at x0 x1 x2 x3 HTA
  have HTK := hid htk
  clear htk
  obtain ⟨kd, X, tf, tn⟩ := tk
  have X0 := hid x0
  have X1 := hid x1
  have X2 := hid x2
  have X3 := hid x3
  clear x0 x1 x2 x3
  have hltz : (s.pl : Int) < (l.length : Int) := by omega
  clear hx hsi
  have hpn : s.pl ≤ 20000 := by omega
  have hsn : s.site ≤ 4000000000000020000 := by omega
  have hwp : IntKind.i64.wrap ((s.pl : Int) + 1) = (s.pl : Int) + 1 := IntWalk.i64_in _ (by omega)
  have hws : IntKind.i64.wrap (s.site + 1) = s.site + 1 := IntWalk.i64_in _ (by omega)
  unfold stV at *
  obtain ⟨m0, m1, n0, n1, hw0⟩ := HZ0.out.cells
  go_enter Tryz.func23, Tryz.ntmps23
  have hkb : Hid (T.baseK ⟨kd, X, tf, tn⟩ = -1) := hid (by rw [← HTA.out]; exact hkk.out)
  have hX : X = ⟨#[123]⟩ := by
    have h := h4.out
    rw [isSign_get hlt, HTK.out] at h
    simp only [Bool.and_eq_true, decide_eq_true_eq] at h
    exact h.2
  have e123 := eqS X ⟨#[123]⟩
  rw [show (⟨#[123]⟩ : ByteArray).toList = [123] by first | rfl | (simp; done) | decide] at e123
  have e91 := eqS X ⟨#[91]⟩
  rw [show (⟨#[91]⟩ : ByteArray).toList = [91] by first | rfl | (simp; done) | decide] at e91
  rw [show decide (X = ⟨#[123]⟩) = true by rw [hX]; decide] at e123
  rw [show decide (X = ⟨#[91]⟩) = false by rw [hX]; decide] at e91
  clear hX
  have HC1 := hid (by have := HIS.out (s.pl) T.kQ _ (HX.out.below HZ0.out.bel); rw [hq.out] at this; exact this)
  go_wp2_with fail
  refine (HC1.out).mono ?_
  rintro e w1 ⟨rfl, hb1⟩
  have HB1 := hid hb1
  have HZ1 := hid (HZ0.out.below hb1)
  have p0 := (HZ1.out.bel.cell (p := ⟨b, o + s.pl * 4, none⟩) hb).trans X0.out
  have p1 := (HZ1.out.bel.cell (p := ⟨b, o + s.pl * 4 + 1, none⟩) hb).trans X1.out
  have p2 := (HZ1.out.bel.cell (p := ⟨b, o + s.pl * 4 + 2, none⟩) hb).trans X2.out
  have p3 := (HZ1.out.bel.cell (p := ⟨b, o + s.pl * 4 + 3, none⟩) hb).trans X3.out
  clear hb1 HC1 m0 m1 n0 n1 hw0 
  obtain ⟨m0, m1, n0, n1, hw1⟩ := HZ1.out.cells
  have hv1 : w.heap.size < w1.heap.size := by omega
  have HC2 := hid (by have := base_any ⟨kd, X, tf, tn⟩ w1; rw [hkb.out] at this; exact this)
  go_wp2_with fail
  refine (HC2.out).mono ?_
  rintro e w2 ⟨rfl, hb2⟩
  have HB2 := hid hb2
  have HZ2 := hid (HZ1.out.below hb2)
  clear p0 p1 p2 p3
  have p0 := (HZ2.out.bel.cell (p := ⟨b, o + s.pl * 4, none⟩) hb).trans X0.out
  have p1 := (HZ2.out.bel.cell (p := ⟨b, o + s.pl * 4 + 1, none⟩) hb).trans X1.out
  have p2 := (HZ2.out.bel.cell (p := ⟨b, o + s.pl * 4 + 2, none⟩) hb).trans X2.out
  have p3 := (HZ2.out.bel.cell (p := ⟨b, o + s.pl * 4 + 3, none⟩) hb).trans X3.out
  clear hb2 HC2 m0 m1 n0 n1 hw1 hv1
  obtain ⟨m0, m1, n0, n1, hw2⟩ := HZ2.out.cells
  have hv2 : w.heap.size < w2.heap.size := by omega
  have HC3 := hid (by have := HIS.out (s.pl) T.kOpen _ (HX.out.below HZ2.out.bel); rw [h3.out] at this; exact this)
  go_wp2_with fail
  refine (HC3.out).mono ?_
  rintro e w3 ⟨rfl, hb3⟩
  have HB3 := hid hb3
  have HZ3 := hid (HZ2.out.below hb3)
  clear p0 p1 p2 p3
  have p0 := (HZ3.out.bel.cell (p := ⟨b, o + s.pl * 4, none⟩) hb).trans X0.out
  have p1 := (HZ3.out.bel.cell (p := ⟨b, o + s.pl * 4 + 1, none⟩) hb).trans X1.out
  have p2 := (HZ3.out.bel.cell (p := ⟨b, o + s.pl * 4 + 2, none⟩) hb).trans X2.out
  have p3 := (HZ3.out.bel.cell (p := ⟨b, o + s.pl * 4 + 3, none⟩) hb).trans X3.out
  clear hb3 HC3 m0 m1 n0 n1 hw2 hv2
  obtain ⟨m0, m1, n0, n1, hw3⟩ := HZ3.out.cells
  have hv3 : w.heap.size < w3.heap.size := by omega
  have HC4 := hid (by have := HIS.out (s.pl) (T.kLeft 6) _ (HX.out.below HZ3.out.bel); rw [h4.out] at this; exact this)
  go_wp2_with fail
  refine (HC4.out).mono ?_
  rintro e w4 ⟨rfl, hb4⟩
  have HB4 := hid hb4
  have HZ4 := hid (HZ3.out.below hb4)
  clear p0 p1 p2 p3
  have p0 := (HZ4.out.bel.cell (p := ⟨b, o + s.pl * 4, none⟩) hb).trans X0.out
  have p1 := (HZ4.out.bel.cell (p := ⟨b, o + s.pl * 4 + 1, none⟩) hb).trans X1.out
  have p2 := (HZ4.out.bel.cell (p := ⟨b, o + s.pl * 4 + 2, none⟩) hb).trans X2.out
  have p3 := (HZ4.out.bel.cell (p := ⟨b, o + s.pl * 4 + 3, none⟩) hb).trans X3.out
  clear hb4 HC4 m0 m1 n0 n1 hw3 hv3
  obtain ⟨m0, m1, n0, n1, hw4⟩ := HZ4.out.cells
  have hv4 : w.heap.size < w4.heap.size := by omega
  have HZ4s := hid (HZ4.out.next (s.pl + 1) ((s.pl : Int) + 1) rfl)
  have HC5 := hid (by have := HIS.out (s.pl + 1) (T.kRight 6) _ (HX.out.below HZ4s.out.bel); rw [h6.out] at this; exact this)
  go_wp2_with fail
  refine (HC5.out).mono ?_
  rintro e w5 ⟨rfl, hb5⟩
  have HB5 := hid hb5
  have HZ5 := hid (HZ4s.out.below hb5)
  clear p0 p1 p2 p3
  have p0 := (HZ5.out.bel.cell (p := ⟨b, o + s.pl * 4, none⟩) hb).trans X0.out
  have p1 := (HZ5.out.bel.cell (p := ⟨b, o + s.pl * 4 + 1, none⟩) hb).trans X1.out
  have p2 := (HZ5.out.bel.cell (p := ⟨b, o + s.pl * 4 + 2, none⟩) hb).trans X2.out
  have p3 := (HZ5.out.bel.cell (p := ⟨b, o + s.pl * 4 + 3, none⟩) hb).trans X3.out
  clear hb5 HC5 m0 m1 n0 n1 hw4 hv4
  obtain ⟨m0, m1, n0, n1, hw5⟩ := HZ5.out.cells
  have hv5 : w.heap.size < w5.heap.size := by omega
  have HZe := hid (HZ5.out.next (s.pl + 2) ((s.pl : Int) + 1 + 1) rfl)
  go_wp2
  go_region
  all_goals go_wp2
  all_goals (
    refine bodyPost_ret (v := .tuple #[.slice (some ⟨w5.heap.size, 0, none⟩) 1 1, .agg #[.int .i64 ((s.pl : Int) + 1 + 1), .int .i64 s.site, .slice A1 s.sites.length c1, .int .i64 0]]) (by simp [results, Tryz.results23, n0, hw5, go_sem]) rfl ?_
    have hb4 := below4 (b := w.heap.size + 1) HZe.out.bel (.int .i64 ((s.pl : Int) + 1 + 1)) (.int .i64 s.site) (.slice A1 s.sites.length c1) (.int .i64 0)
    have hsz : (put4 (w5.setCell ⟨w.heap.size, 0, none⟩ (.int .i64 ((s.pl : Int) + 1 + 1))) (w.heap.size + 1) (.int .i64 ((s.pl : Int) + 1 + 1)) (.int .i64 s.site) (.slice A1 s.sites.length c1) (.int .i64 0)).heap.size = w5.heap.size := by simp [put4, World.setCell]
    have hn := lit_own (put4 (w5.setCell ⟨w.heap.size, 0, none⟩ (.int .i64 ((s.pl : Int) + 1 + 1))) (w.heap.size + 1) (.int .i64 ((s.pl : Int) + 1 + 1)) (.int .i64 s.site) (.slice A1 s.sites.length c1) (.int .i64 0)) w.heap.size (by rw [hsz]; omega) 6 0 ⟨#[]⟩
    rw [hsz] at hn
    have hrow : (T.rowT 6 []).flat = [⟨6, ⟨#[]⟩, 0⟩] := by simp [T.rowT, T.order, T.Tr.flat, T.foOf, T.e0, L.Fo.flat]
    exact WPost.drew ⟨hb4.alloc hb4.size _, Or.inr ⟨T.rowT 6 [], ⟨s.pl + 2, s.site, s.sites⟩, _, A1, _, c1, rfl, rfl, (by rw [hrow]; exact hn), ((HSI.out.below HZe.out.bel).put HZe.out.out (by decide) (put4_grown _ _ _ _ _ _)).below (below_new _)⟩⟩)

set_option maxHeartbeats 4000000 in
set_option maxRecDepth 100000 in
theorem zatom_rows6 {l : List T.Tk} (hll : l.length ≤ 20000) (vl : Value) (lv : Int) (M : Nat) (s : T.S) (A1 : Option Addr) (c1 : Nat) (w : World) (hx : RdK w w.heap.size vl l) (hsi : RdSt w (.slice A1 s.sites.length c1) s.sites) (hpl : s.pl ≤ l.length) (hsl : s.sites.length ≤ s.pl) (h0 : 0 ≤ s.site) (h1 : s.site + l.length ≤ 4000000000000000000 + s.pl)
    (hlt : s.pl < l.length) (hq : Hid (T.isSign l s.pl T.kQ = false)) (hkk : Hid (T.baseK (tokAt l s.pl) = -1)) (h3 : Hid (T.isSign l s.pl T.kOpen = false)) (h4 : Hid (T.isSign l s.pl (T.kLeft 6) = true)) (h6 : Hid (T.isSign l (s.pl + 1) (T.kRight 6) = false)) (hlv : lv < 100) (h1v : 1 ≤ lv) (r : T.R T.Tr) (hR : Hid (∀ (A : Option Addr) (c : Nat) (w : World), RdK w w.heap.size vl l → RdSt w (.slice A s.sites.length c) s.sites → Calls Tryz.prog 45 #[vl, stV (s.pl + 1) s.site (.slice A s.sites.length c) 0, .int .i64 (lv + 1), .int .i64 6, .string (T.kBetw 6), .string (T.kRight 6)] w (WPost M r w))) :
    Calls Tryz.prog 23 #[vl, stV s.pl s.site (.slice A1 s.sites.length c1) 0, .int .i64 lv] w (WPost M (r) w) := by
  have hu := And.intro hll (And.intro hpl (And.intro hsl (And.intro h0 h1)))
  clear hu
  have HX := hid hx
  have HIS := hid (fun (p : Nat) (sg : ByteArray) (w : World) hx => is_any l vl p sg w hx)
  have HWR := hid (fun (p q : Nat) (site er : Int) (A : Option Addr) (n c : Nat) (w : World) => wrong_any p q site er 0 A n c w)
  have HZ0 := hid (ZB.first w s.pl s.site A1 s.sites.length c1 0)
  have HSI := hid hsi
  obtain ⟨Al, capl, rfl, -⟩ := id hx
  obtain ⟨b, o, rfl, hb, x0, x1, x2, x3⟩ := HX.out.at hlt
  have HTA : Hid (tokAt l s.pl = l[s.pl]) := hid (by simp [tokAt, List.getD, hlt])
  obtain ⟨tk, htk⟩ : ∃ tk, l[s.pl] = tk := ⟨_, rfl⟩
  rw [htk] at x0 x1 x2 x3 HTA
  have HTK := hid htk
  clear htk
  obtain ⟨kd, X, tf, tn⟩ := tk
  have X0 := hid x0
  have X1 := hid x1
  have X2 := hid x2
  have X3 := hid x3
  clear x0 x1 x2 x3
  have hltz : (s.pl : Int) < (l.length : Int) := by omega
  clear hx hsi
  have hpn : s.pl ≤ 20000 := by omega
  have hsn : s.site ≤ 4000000000000020000 := by omega
  have hwp : IntKind.i64.wrap ((s.pl : Int) + 1) = (s.pl : Int) + 1 := IntWalk.i64_in _ (by omega)
  have hws : IntKind.i64.wrap (s.site + 1) = s.site + 1 := IntWalk.i64_in _ (by omega)
  unfold stV at *
  obtain ⟨m0, m1, n0, n1, hw0⟩ := HZ0.out.cells
  go_enter Tryz.func23, Tryz.ntmps23
  have hkb : Hid (T.baseK ⟨kd, X, tf, tn⟩ = -1) := hid (by rw [← HTA.out]; exact hkk.out)
  have hX : X = ⟨#[123]⟩ := by
    have h := h4.out
    rw [isSign_get hlt, HTK.out] at h
    simp only [Bool.and_eq_true, decide_eq_true_eq] at h
    exact h.2
  have e123 := eqS X ⟨#[123]⟩
  rw [show (⟨#[123]⟩ : ByteArray).toList = [123] by first | rfl | (simp; done) | decide] at e123
  have e91 := eqS X ⟨#[91]⟩
  rw [show (⟨#[91]⟩ : ByteArray).toList = [91] by first | rfl | (simp; done) | decide] at e91
  rw [show decide (X = ⟨#[123]⟩) = true by rw [hX]; decide] at e123
  rw [show decide (X = ⟨#[91]⟩) = false by rw [hX]; decide] at e91
  clear hX
  have HC1 := hid (by have := HIS.out (s.pl) T.kQ _ (HX.out.below HZ0.out.bel); rw [hq.out] at this; exact this)
  go_wp2_with fail
  refine (HC1.out).mono ?_
  rintro e w1 ⟨rfl, hb1⟩
  have HB1 := hid hb1
  have HZ1 := hid (HZ0.out.below hb1)
  have p0 := (HZ1.out.bel.cell (p := ⟨b, o + s.pl * 4, none⟩) hb).trans X0.out
  have p1 := (HZ1.out.bel.cell (p := ⟨b, o + s.pl * 4 + 1, none⟩) hb).trans X1.out
  have p2 := (HZ1.out.bel.cell (p := ⟨b, o + s.pl * 4 + 2, none⟩) hb).trans X2.out
  have p3 := (HZ1.out.bel.cell (p := ⟨b, o + s.pl * 4 + 3, none⟩) hb).trans X3.out
  clear hb1 HC1 m0 m1 n0 n1 hw0 
  obtain ⟨m0, m1, n0, n1, hw1⟩ := HZ1.out.cells
  have hv1 : w.heap.size < w1.heap.size := by omega
  have HC2 := hid (by have := base_any ⟨kd, X, tf, tn⟩ w1; rw [hkb.out] at this; exact this)
  go_wp2_with fail
  refine (HC2.out).mono ?_
  rintro e w2 ⟨rfl, hb2⟩
  have HB2 := hid hb2
  have HZ2 := hid (HZ1.out.below hb2)
  clear p0 p1 p2 p3
  have p0 := (HZ2.out.bel.cell (p := ⟨b, o + s.pl * 4, none⟩) hb).trans X0.out
  have p1 := (HZ2.out.bel.cell (p := ⟨b, o + s.pl * 4 + 1, none⟩) hb).trans X1.out
  have p2 := (HZ2.out.bel.cell (p := ⟨b, o + s.pl * 4 + 2, none⟩) hb).trans X2.out
  have p3 := (HZ2.out.bel.cell (p := ⟨b, o + s.pl * 4 + 3, none⟩) hb).trans X3.out
  clear hb2 HC2 m0 m1 n0 n1 hw1 hv1
  obtain ⟨m0, m1, n0, n1, hw2⟩ := HZ2.out.cells
  have hv2 : w.heap.size < w2.heap.size := by omega
  have HC3 := hid (by have := HIS.out (s.pl) T.kOpen _ (HX.out.below HZ2.out.bel); rw [h3.out] at this; exact this)
  go_wp2_with fail
  refine (HC3.out).mono ?_
  rintro e w3 ⟨rfl, hb3⟩
  have HB3 := hid hb3
  have HZ3 := hid (HZ2.out.below hb3)
  clear p0 p1 p2 p3
  have p0 := (HZ3.out.bel.cell (p := ⟨b, o + s.pl * 4, none⟩) hb).trans X0.out
  have p1 := (HZ3.out.bel.cell (p := ⟨b, o + s.pl * 4 + 1, none⟩) hb).trans X1.out
  have p2 := (HZ3.out.bel.cell (p := ⟨b, o + s.pl * 4 + 2, none⟩) hb).trans X2.out
  have p3 := (HZ3.out.bel.cell (p := ⟨b, o + s.pl * 4 + 3, none⟩) hb).trans X3.out
  clear hb3 HC3 m0 m1 n0 n1 hw2 hv2
  obtain ⟨m0, m1, n0, n1, hw3⟩ := HZ3.out.cells
  have hv3 : w.heap.size < w3.heap.size := by omega
  have HC4 := hid (by have := HIS.out (s.pl) (T.kLeft 6) _ (HX.out.below HZ3.out.bel); rw [h4.out] at this; exact this)
  go_wp2_with fail
  refine (HC4.out).mono ?_
  rintro e w4 ⟨rfl, hb4⟩
  have HB4 := hid hb4
  have HZ4 := hid (HZ3.out.below hb4)
  clear p0 p1 p2 p3
  have p0 := (HZ4.out.bel.cell (p := ⟨b, o + s.pl * 4, none⟩) hb).trans X0.out
  have p1 := (HZ4.out.bel.cell (p := ⟨b, o + s.pl * 4 + 1, none⟩) hb).trans X1.out
  have p2 := (HZ4.out.bel.cell (p := ⟨b, o + s.pl * 4 + 2, none⟩) hb).trans X2.out
  have p3 := (HZ4.out.bel.cell (p := ⟨b, o + s.pl * 4 + 3, none⟩) hb).trans X3.out
  clear hb4 HC4 m0 m1 n0 n1 hw3 hv3
  obtain ⟨m0, m1, n0, n1, hw4⟩ := HZ4.out.cells
  have hv4 : w.heap.size < w4.heap.size := by omega
  have HZ4s := hid (HZ4.out.next (s.pl + 1) ((s.pl : Int) + 1) rfl)
  have HC5 := hid (by have := HIS.out (s.pl + 1) (T.kRight 6) _ (HX.out.below HZ4s.out.bel); rw [h6.out] at this; exact this)
  go_wp2_with fail
  refine (HC5.out).mono ?_
  rintro e w5 ⟨rfl, hb5⟩
  have HB5 := hid hb5
  have HZ5 := hid (HZ4s.out.below hb5)
  clear p0 p1 p2 p3
  have p0 := (HZ5.out.bel.cell (p := ⟨b, o + s.pl * 4, none⟩) hb).trans X0.out
  have p1 := (HZ5.out.bel.cell (p := ⟨b, o + s.pl * 4 + 1, none⟩) hb).trans X1.out
  have p2 := (HZ5.out.bel.cell (p := ⟨b, o + s.pl * 4 + 2, none⟩) hb).trans X2.out
  have p3 := (HZ5.out.bel.cell (p := ⟨b, o + s.pl * 4 + 3, none⟩) hb).trans X3.out
  clear hb5 HC5 m0 m1 n0 n1 hw4 hv4
  obtain ⟨m0, m1, n0, n1, hw5⟩ := HZ5.out.cells
  have hv5 : w.heap.size < w5.heap.size := by omega
  have HSX := hid (HSI.out.below HZ5.out.bel)
  have HC := hid (hR.out _ _ _ (HX.out.below HZ5.out.bel) HSX.out)
  unfold stV at HC
  go_wp2_with fail
  refine (HC.out).mono ?_
  rintro e w9 ⟨hb9, hp⟩
  have HZ9 := hid (HZ5.out.below hb9)
  clear hb9 m0 m1 n0 n1 hw5 hv5
  obtain ⟨m0, m1, n0, n1, hw9⟩ := HZ9.out.cells
  have hv9 : w.heap.size < w9.heap.size := by omega
  rcases hp with ⟨p, er, v, ns, site, A, n, c, hr, rfl, ho, hn⟩ | ⟨t, s2, v, A, n, c, hr, rfl, ho, hs⟩
  · have HEQ := hid hr
    have HO := hid (ho.more (B' := w.heap.size) (by have := HZ5.out.bel.size; omega))
    have HN := hid hn
    clear hr ho hn
    unfold stV
    go_wp2
    refine bodyPost_ret (v := .tuple #[v, .agg (st4 p site A n c er)]) (by simp [results, Tryz.results23, n0, go_sem]) rfl ?_
    exact zbad HZ9.out HO.out HN.out HEQ.out
  · have HEQ := hid hr
    have HO := hid (ho.more (B' := w.heap.size) (by have := HZ5.out.bel.size; omega))
    have HS := hid hs
    clear hr ho hs
    unfold stV
    go_wp2
    refine bodyPost_ret (v := .tuple #[v, .agg #[.int .i64 (s2.pl : Int), .int .i64 s2.site, .slice A n c, .int .i64 0]]) (by simp [results, Tryz.results23, n0, go_sem]) rfl ?_
    exact zend HZ9.out HO.out (Nat.le_refl _) HS.out HEQ.out (s2.pl : Int) s2.site rfl rfl

set_option maxHeartbeats 4000000 in
set_option maxRecDepth 100000 in
theorem zatom_rows7 {l : List T.Tk} (hll : l.length ≤ 20000) (vl : Value) (lv : Int) (M : Nat) (s : T.S) (A1 : Option Addr) (c1 : Nat) (w : World) (hx : RdK w w.heap.size vl l) (hsi : RdSt w (.slice A1 s.sites.length c1) s.sites) (hpl : s.pl ≤ l.length) (hsl : s.sites.length ≤ s.pl) (h0 : 0 ≤ s.site) (h1 : s.site + l.length ≤ 4000000000000000000 + s.pl)
    (hlt : s.pl < l.length) (hq : Hid (T.isSign l s.pl T.kQ = false)) (hkk : Hid (T.baseK (tokAt l s.pl) = -1)) (h3 : Hid (T.isSign l s.pl T.kOpen = false)) (h4 : Hid (T.isSign l s.pl (T.kLeft 6) = false)) (h5 : Hid (T.isSign l s.pl (T.kLeft 7) = true)) (hlv : lv < 100) (h1v : 1 ≤ lv) (r : T.R T.Tr) (hR : Hid (∀ (A : Option Addr) (c : Nat) (w : World), RdK w w.heap.size vl l → RdSt w (.slice A s.sites.length c) s.sites → Calls Tryz.prog 45 #[vl, stV (s.pl + 1) s.site (.slice A s.sites.length c) 0, .int .i64 (lv + 1), .int .i64 7, .string (T.kBetw 7), .string (T.kRight 7)] w (WPost M r w))) :
    Calls Tryz.prog 23 #[vl, stV s.pl s.site (.slice A1 s.sites.length c1) 0, .int .i64 lv] w (WPost M (r) w) := by
  have hu := And.intro hll (And.intro hpl (And.intro hsl (And.intro h0 h1)))
  clear hu
  have HX := hid hx
  have HIS := hid (fun (p : Nat) (sg : ByteArray) (w : World) hx => is_any l vl p sg w hx)
  have HWR := hid (fun (p q : Nat) (site er : Int) (A : Option Addr) (n c : Nat) (w : World) => wrong_any p q site er 0 A n c w)
  have HZ0 := hid (ZB.first w s.pl s.site A1 s.sites.length c1 0)
  have HSI := hid hsi
  obtain ⟨Al, capl, rfl, -⟩ := id hx
  obtain ⟨b, o, rfl, hb, x0, x1, x2, x3⟩ := HX.out.at hlt
  have HTA : Hid (tokAt l s.pl = l[s.pl]) := hid (by simp [tokAt, List.getD, hlt])
  obtain ⟨tk, htk⟩ : ∃ tk, l[s.pl] = tk := ⟨_, rfl⟩
  rw [htk] at x0 x1 x2 x3 HTA
  have HTK := hid htk
  clear htk
  obtain ⟨kd, X, tf, tn⟩ := tk
  have X0 := hid x0
  have X1 := hid x1
  have X2 := hid x2
  have X3 := hid x3
  clear x0 x1 x2 x3
  have hltz : (s.pl : Int) < (l.length : Int) := by omega
  clear hx hsi
  have hpn : s.pl ≤ 20000 := by omega
  have hsn : s.site ≤ 4000000000000020000 := by omega
  have hwp : IntKind.i64.wrap ((s.pl : Int) + 1) = (s.pl : Int) + 1 := IntWalk.i64_in _ (by omega)
  have hws : IntKind.i64.wrap (s.site + 1) = s.site + 1 := IntWalk.i64_in _ (by omega)
  unfold stV at *
  obtain ⟨m0, m1, n0, n1, hw0⟩ := HZ0.out.cells
  go_enter Tryz.func23, Tryz.ntmps23
  have hkb : Hid (T.baseK ⟨kd, X, tf, tn⟩ = -1) := hid (by rw [← HTA.out]; exact hkk.out)
  have hX : X = ⟨#[91]⟩ := by
    have h := h5.out
    rw [isSign_get hlt, HTK.out] at h
    simp only [Bool.and_eq_true, decide_eq_true_eq] at h
    exact h.2
  have e123 := eqS X ⟨#[123]⟩
  rw [show (⟨#[123]⟩ : ByteArray).toList = [123] by first | rfl | (simp; done) | decide] at e123
  have e91 := eqS X ⟨#[91]⟩
  rw [show (⟨#[91]⟩ : ByteArray).toList = [91] by first | rfl | (simp; done) | decide] at e91
  rw [show decide (X = ⟨#[123]⟩) = false by rw [hX]; decide] at e123
  rw [show decide (X = ⟨#[91]⟩) = true by rw [hX]; decide] at e91
  clear hX
  have HC1 := hid (by have := HIS.out (s.pl) T.kQ _ (HX.out.below HZ0.out.bel); rw [hq.out] at this; exact this)
  go_wp2_with fail
  refine (HC1.out).mono ?_
  rintro e w1 ⟨rfl, hb1⟩
  have HB1 := hid hb1
  have HZ1 := hid (HZ0.out.below hb1)
  have p0 := (HZ1.out.bel.cell (p := ⟨b, o + s.pl * 4, none⟩) hb).trans X0.out
  have p1 := (HZ1.out.bel.cell (p := ⟨b, o + s.pl * 4 + 1, none⟩) hb).trans X1.out
  have p2 := (HZ1.out.bel.cell (p := ⟨b, o + s.pl * 4 + 2, none⟩) hb).trans X2.out
  have p3 := (HZ1.out.bel.cell (p := ⟨b, o + s.pl * 4 + 3, none⟩) hb).trans X3.out
  clear hb1 HC1 m0 m1 n0 n1 hw0 
  obtain ⟨m0, m1, n0, n1, hw1⟩ := HZ1.out.cells
  have hv1 : w.heap.size < w1.heap.size := by omega
  have HC2 := hid (by have := base_any ⟨kd, X, tf, tn⟩ w1; rw [hkb.out] at this; exact this)
  go_wp2_with fail
  refine (HC2.out).mono ?_
  rintro e w2 ⟨rfl, hb2⟩
  have HB2 := hid hb2
  have HZ2 := hid (HZ1.out.below hb2)
  clear p0 p1 p2 p3
  have p0 := (HZ2.out.bel.cell (p := ⟨b, o + s.pl * 4, none⟩) hb).trans X0.out
  have p1 := (HZ2.out.bel.cell (p := ⟨b, o + s.pl * 4 + 1, none⟩) hb).trans X1.out
  have p2 := (HZ2.out.bel.cell (p := ⟨b, o + s.pl * 4 + 2, none⟩) hb).trans X2.out
  have p3 := (HZ2.out.bel.cell (p := ⟨b, o + s.pl * 4 + 3, none⟩) hb).trans X3.out
  clear hb2 HC2 m0 m1 n0 n1 hw1 hv1
  obtain ⟨m0, m1, n0, n1, hw2⟩ := HZ2.out.cells
  have hv2 : w.heap.size < w2.heap.size := by omega
  have HC3 := hid (by have := HIS.out (s.pl) T.kOpen _ (HX.out.below HZ2.out.bel); rw [h3.out] at this; exact this)
  go_wp2_with fail
  refine (HC3.out).mono ?_
  rintro e w3 ⟨rfl, hb3⟩
  have HB3 := hid hb3
  have HZ3 := hid (HZ2.out.below hb3)
  clear p0 p1 p2 p3
  have p0 := (HZ3.out.bel.cell (p := ⟨b, o + s.pl * 4, none⟩) hb).trans X0.out
  have p1 := (HZ3.out.bel.cell (p := ⟨b, o + s.pl * 4 + 1, none⟩) hb).trans X1.out
  have p2 := (HZ3.out.bel.cell (p := ⟨b, o + s.pl * 4 + 2, none⟩) hb).trans X2.out
  have p3 := (HZ3.out.bel.cell (p := ⟨b, o + s.pl * 4 + 3, none⟩) hb).trans X3.out
  clear hb3 HC3 m0 m1 n0 n1 hw2 hv2
  obtain ⟨m0, m1, n0, n1, hw3⟩ := HZ3.out.cells
  have hv3 : w.heap.size < w3.heap.size := by omega
  have HC4 := hid (by have := HIS.out (s.pl) (T.kLeft 6) _ (HX.out.below HZ3.out.bel); rw [h4.out] at this; exact this)
  go_wp2_with fail
  refine (HC4.out).mono ?_
  rintro e w4 ⟨rfl, hb4⟩
  have HB4 := hid hb4
  have HZ4 := hid (HZ3.out.below hb4)
  clear p0 p1 p2 p3
  have p0 := (HZ4.out.bel.cell (p := ⟨b, o + s.pl * 4, none⟩) hb).trans X0.out
  have p1 := (HZ4.out.bel.cell (p := ⟨b, o + s.pl * 4 + 1, none⟩) hb).trans X1.out
  have p2 := (HZ4.out.bel.cell (p := ⟨b, o + s.pl * 4 + 2, none⟩) hb).trans X2.out
  have p3 := (HZ4.out.bel.cell (p := ⟨b, o + s.pl * 4 + 3, none⟩) hb).trans X3.out
  clear hb4 HC4 m0 m1 n0 n1 hw3 hv3
  obtain ⟨m0, m1, n0, n1, hw4⟩ := HZ4.out.cells
  have hv4 : w.heap.size < w4.heap.size := by omega
  have HC5 := hid (by have := HIS.out (s.pl) (T.kLeft 7) _ (HX.out.below HZ4.out.bel); rw [h5.out] at this; exact this)
  go_wp2_with fail
  refine (HC5.out).mono ?_
  rintro e w5 ⟨rfl, hb5⟩
  have HB5 := hid hb5
  have HZ5 := hid (HZ4.out.below hb5)
  clear p0 p1 p2 p3
  have p0 := (HZ5.out.bel.cell (p := ⟨b, o + s.pl * 4, none⟩) hb).trans X0.out
  have p1 := (HZ5.out.bel.cell (p := ⟨b, o + s.pl * 4 + 1, none⟩) hb).trans X1.out
  have p2 := (HZ5.out.bel.cell (p := ⟨b, o + s.pl * 4 + 2, none⟩) hb).trans X2.out
  have p3 := (HZ5.out.bel.cell (p := ⟨b, o + s.pl * 4 + 3, none⟩) hb).trans X3.out
  clear hb5 HC5 m0 m1 n0 n1 hw4 hv4
  obtain ⟨m0, m1, n0, n1, hw5⟩ := HZ5.out.cells
  have hv5 : w.heap.size < w5.heap.size := by omega
  have HZ5s := hid (HZ5.out.next (s.pl + 1) ((s.pl : Int) + 1) rfl)
  have HSX := hid (HSI.out.below HZ5s.out.bel)
  have HC := hid (hR.out _ _ _ (HX.out.below HZ5s.out.bel) HSX.out)
  unfold stV at HC
  go_wp2_with fail
  refine (HC.out).mono ?_
  rintro e w9 ⟨hb9, hp⟩
  have HZ9 := hid (HZ5s.out.below hb9)
  clear hb9 m0 m1 n0 n1 hw5 hv5
  obtain ⟨m0, m1, n0, n1, hw9⟩ := HZ9.out.cells
  have hv9 : w.heap.size < w9.heap.size := by omega
  rcases hp with ⟨p, er, v, ns, site, A, n, c, hr, rfl, ho, hn⟩ | ⟨t, s2, v, A, n, c, hr, rfl, ho, hs⟩
  · have HEQ := hid hr
    have HO := hid (ho.more (B' := w.heap.size) (by have := HZ5s.out.bel.size; omega))
    have HN := hid hn
    clear hr ho hn
    unfold stV
    go_wp2
    refine bodyPost_ret (v := .tuple #[v, .agg (st4 p site A n c er)]) (by simp [results, Tryz.results23, n0, go_sem]) rfl ?_
    exact zbad HZ9.out HO.out HN.out HEQ.out
  · have HEQ := hid hr
    have HO := hid (ho.more (B' := w.heap.size) (by have := HZ5s.out.bel.size; omega))
    have HS := hid hs
    clear hr ho hs
    unfold stV
    go_wp2
    refine bodyPost_ret (v := .tuple #[v, .agg #[.int .i64 (s2.pl : Int), .int .i64 s2.site, .slice A n c, .int .i64 0]]) (by simp [results, Tryz.results23, n0, go_sem]) rfl ?_
    exact zend HZ9.out HO.out (Nat.le_refl _) HS.out HEQ.out (s2.pl : Int) s2.site rfl rfl

set_option maxHeartbeats 4000000 in
set_option maxRecDepth 100000 in
theorem zatom_par {l : List T.Tk} (hll : l.length ≤ 20000) (vl : Value) (lv : Int) (M : Nat) (s : T.S) (A1 : Option Addr) (c1 : Nat) (w : World) (hx : RdK w w.heap.size vl l) (hsi : RdSt w (.slice A1 s.sites.length c1) s.sites) (hpl : s.pl ≤ l.length) (hsl : s.sites.length ≤ s.pl) (h0 : 0 ≤ s.site) (h1 : s.site + l.length ≤ 4000000000000000000 + s.pl)
    (hlt : s.pl < l.length) (hq : Hid (T.isSign l s.pl T.kQ = false)) (hkk : Hid (T.baseK (tokAt l s.pl) = -1)) (h3 : Hid (T.isSign l s.pl T.kOpen = true)) (hlv : lv < 100) (h1v : 1 ≤ lv) (M2 : Nat) (hM : M2 ≤ M) (hM2 : 20001 ≤ M) (r : T.R T.Tr) (hW : Hid (∀ (A : Option Addr) (c : Nat) (w : World), RdK w w.heap.size vl l → RdSt w (.slice A s.sites.length c) s.sites → Calls Tryz.prog 15 #[vl, stV (s.pl + 1) s.site (.slice A s.sites.length c) 0, .int .i64 (lv + 1)] w (WPost M2 r w))) (hE : Hid (∀ p er, r = .bad p er → (er != 0) = true)) (hG : Hid (∀ t s2, r = .ok t s2 → t.nodes ≤ 20000 ∧ s2.pl ≤ 20000)) :
    Calls Tryz.prog 23 #[vl, stV s.pl s.site (.slice A1 s.sites.length c1) 0, .int .i64 lv] w (WPost M (r.bind fun x s1 => (T.take l s1 T.kClose).bind fun _ s2 => .ok x s2) w) := by
  have hu := And.intro hll (And.intro hpl (And.intro hsl (And.intro h0 h1)))
  clear hu
  have HX := hid hx
  have HIS := hid (fun (p : Nat) (sg : ByteArray) (w : World) hx => is_any l vl p sg w hx)
  have HWR := hid (fun (p q : Nat) (site er : Int) (A : Option Addr) (n c : Nat) (w : World) => wrong_any p q site er 0 A n c w)
  have HZ0 := hid (ZB.first w s.pl s.site A1 s.sites.length c1 0)
  have HSI := hid hsi
  obtain ⟨Al, capl, rfl, -⟩ := id hx
  obtain ⟨b, o, rfl, hb, x0, x1, x2, x3⟩ := HX.out.at hlt
  have HTA : Hid (tokAt l s.pl = l[s.pl]) := hid (by simp [tokAt, List.getD, hlt])
  obtain ⟨tk, htk⟩ : ∃ tk, l[s.pl] = tk := ⟨_, rfl⟩
  rw [htk] at x0 x1 x2 x3 HTA
  have HTK := hid htk
  clear htk
  obtain ⟨kd, X, tf, tn⟩ := tk
  have X0 := hid x0
  have X1 := hid x1
  have X2 := hid x2
  have X3 := hid x3
  clear x0 x1 x2 x3
  have hltz : (s.pl : Int) < (l.length : Int) := by omega
  clear hx hsi
  have hpn : s.pl ≤ 20000 := by omega
  have hsn : s.site ≤ 4000000000000020000 := by omega
  have hwp : IntKind.i64.wrap ((s.pl : Int) + 1) = (s.pl : Int) + 1 := IntWalk.i64_in _ (by omega)
  have hws : IntKind.i64.wrap (s.site + 1) = s.site + 1 := IntWalk.i64_in _ (by omega)
  unfold stV at *
  obtain ⟨m0, m1, n0, n1, hw0⟩ := HZ0.out.cells
  go_enter Tryz.func23, Tryz.ntmps23
  have hkb : Hid (T.baseK ⟨kd, X, tf, tn⟩ = -1) := hid (by rw [← HTA.out]; exact hkk.out)
  have hX : X = ⟨#[40]⟩ := by
    have h := h3.out
    rw [isSign_get hlt, HTK.out] at h
    simp only [Bool.and_eq_true, decide_eq_true_eq] at h
    exact h.2
  have e123 := eqS X ⟨#[123]⟩
  rw [show (⟨#[123]⟩ : ByteArray).toList = [123] by first | rfl | (simp; done) | decide] at e123
  have e91 := eqS X ⟨#[91]⟩
  rw [show (⟨#[91]⟩ : ByteArray).toList = [91] by first | rfl | (simp; done) | decide] at e91
  rw [show decide (X = ⟨#[123]⟩) = false by rw [hX]; decide] at e123
  rw [show decide (X = ⟨#[91]⟩) = false by rw [hX]; decide] at e91
  clear hX
  have HC1 := hid (by have := HIS.out (s.pl) T.kQ _ (HX.out.below HZ0.out.bel); rw [hq.out] at this; exact this)
  go_wp2_with fail
  refine (HC1.out).mono ?_
  rintro e w1 ⟨rfl, hb1⟩
  have HB1 := hid hb1
  have HZ1 := hid (HZ0.out.below hb1)
  have p0 := (HZ1.out.bel.cell (p := ⟨b, o + s.pl * 4, none⟩) hb).trans X0.out
  have p1 := (HZ1.out.bel.cell (p := ⟨b, o + s.pl * 4 + 1, none⟩) hb).trans X1.out
  have p2 := (HZ1.out.bel.cell (p := ⟨b, o + s.pl * 4 + 2, none⟩) hb).trans X2.out
  have p3 := (HZ1.out.bel.cell (p := ⟨b, o + s.pl * 4 + 3, none⟩) hb).trans X3.out
  clear hb1 HC1 m0 m1 n0 n1 hw0 
  obtain ⟨m0, m1, n0, n1, hw1⟩ := HZ1.out.cells
  have hv1 : w.heap.size < w1.heap.size := by omega
  have HC2 := hid (by have := base_any ⟨kd, X, tf, tn⟩ w1; rw [hkb.out] at this; exact this)
  go_wp2_with fail
  refine (HC2.out).mono ?_
  rintro e w2 ⟨rfl, hb2⟩
  have HB2 := hid hb2
  have HZ2 := hid (HZ1.out.below hb2)
  clear p0 p1 p2 p3
  have p0 := (HZ2.out.bel.cell (p := ⟨b, o + s.pl * 4, none⟩) hb).trans X0.out
  have p1 := (HZ2.out.bel.cell (p := ⟨b, o + s.pl * 4 + 1, none⟩) hb).trans X1.out
  have p2 := (HZ2.out.bel.cell (p := ⟨b, o + s.pl * 4 + 2, none⟩) hb).trans X2.out
  have p3 := (HZ2.out.bel.cell (p := ⟨b, o + s.pl * 4 + 3, none⟩) hb).trans X3.out
  clear hb2 HC2 m0 m1 n0 n1 hw1 hv1
  obtain ⟨m0, m1, n0, n1, hw2⟩ := HZ2.out.cells
  have hv2 : w.heap.size < w2.heap.size := by omega
  have HC3 := hid (by have := HIS.out (s.pl) T.kOpen _ (HX.out.below HZ2.out.bel); rw [h3.out] at this; exact this)
  go_wp2_with fail
  refine (HC3.out).mono ?_
  rintro e w3 ⟨rfl, hb3⟩
  have HB3 := hid hb3
  have HZ3 := hid (HZ2.out.below hb3)
  clear p0 p1 p2 p3
  have p0 := (HZ3.out.bel.cell (p := ⟨b, o + s.pl * 4, none⟩) hb).trans X0.out
  have p1 := (HZ3.out.bel.cell (p := ⟨b, o + s.pl * 4 + 1, none⟩) hb).trans X1.out
  have p2 := (HZ3.out.bel.cell (p := ⟨b, o + s.pl * 4 + 2, none⟩) hb).trans X2.out
  have p3 := (HZ3.out.bel.cell (p := ⟨b, o + s.pl * 4 + 3, none⟩) hb).trans X3.out
  clear hb3 HC3 m0 m1 n0 n1 hw2 hv2
  obtain ⟨m0, m1, n0, n1, hw3⟩ := HZ3.out.cells
  have hv3 : w.heap.size < w3.heap.size := by omega
  have HZ3s := hid (HZ3.out.next (s.pl + 1) ((s.pl : Int) + 1) rfl)
  have HSX := hid (HSI.out.below HZ3s.out.bel)
  have HC := hid (hW.out _ _ _ (HX.out.below HZ3s.out.bel) HSX.out)
  unfold stV at HC
  go_wp2_with fail
  refine (HC.out).mono ?_
  rintro e w9 ⟨hb9, hp⟩
  have HZ9 := hid (HZ3s.out.below hb9)
  clear hb9 m0 m1 n0 n1 hw3 hv3
  obtain ⟨m0, m1, n0, n1, hw9⟩ := HZ9.out.cells
  have hv9 : w.heap.size < w9.heap.size := by omega
  rcases hp with ⟨p, er, v, ns, site, A, n, c, hr, rfl, ho, hn⟩ | ⟨t, s2, v, A, n, c, hr, rfl, ho, hs⟩
  · have HEQ : Hid ((r.bind fun x s1 => (T.take l s1 T.kClose).bind fun _ s2 => .ok x s2) = .bad p er) := hid (by rw [hr]; rfl)
    have her := hE.out p er hr
    have HO := hid ((ho.more (B' := w.heap.size) (by have := HZ3s.out.bel.size; omega)).below (below_new (.cells (st4 p site A n c er) 49)))
    have HN := hid (Nat.le_trans hn hM)
    have HZa := hid (HZ9.out.below (below_new (.cells (st4 p site A n c er) 49)))
    have HNB := hid (fun w => needs_bad (.slice (some ⟨b, o, none⟩) l.length capl) p site er her A n c T.kClose w)
    clear hr ho hn
    unfold stV at *
    go_wp2_with fail
    refine (HNB.out _).mono ?_
    rintro e w10 ⟨rfl, hb10⟩
    have HZb := hid (HZa.out.below hb10)
    have HO2 := hid (HO.out.below hb10)
    clear hb10 m0 m1 n0 n1 hw9 hv9 HNB
    obtain ⟨m0, m1, n0, n1, hw10⟩ := HZb.out.cells
    go_wp2
    refine bodyPost_ret (v := .tuple #[v, .agg (st4 p site A n c er)]) (by simp [results, Tryz.results23, n0, go_sem]) rfl ?_
    rw [HEQ.out]
    exact zbad HZb.out HO2.out HN.out rfl
  · have hg := hG.out t s2 hr
    have HS := hid (hs.below (below_new (.cells (st4 s2.pl s2.site A n c 0) 49)))
    have HO := hid ((ho.more (B' := w.heap.size) (by have := HZ3s.out.bel.size; omega)).below (below_new (.cells (st4 s2.pl s2.site A n c 0) 49)))
    have HZa := hid (HZ9.out.below (below_new (.cells (st4 s2.pl s2.site A n c 0) 49)))
    have HNA := hid (needs_any l (.slice (some ⟨b, o, none⟩) l.length capl) s2.pl (by omega) s2.site A n c T.kClose _ (HX.out.below HZa.out.bel))
    have HR := hid hr
    clear hr ho hs
    unfold stV at *
    go_wp2_with fail
    refine (HNA.out).mono ?_
    rintro e w10 ⟨hb10, h10⟩
    have HZb := hid (HZa.out.below hb10)
    have HO2 := hid (HO.out.below hb10)
    have HS2 := hid (HS.out.below hb10)
    clear hb10 m0 m1 n0 n1 hw9 hv9 HNA
    obtain ⟨m0, m1, n0, n1, hw10⟩ := HZb.out.cells
    rcases h10 with ⟨h10, rfl⟩ | ⟨h10, rfl⟩
    · have HEQ : Hid ((r.bind fun x s1 => (T.take l s1 T.kClose).bind fun _ s2 => .ok x s2) = .ok t (stN s2)) := hid (by rw [HR.out]; show (T.take l s2 T.kClose).bind _ = _; rw [take_yes h10]; rfl)
      clear h10
      go_wp2
      refine bodyPost_ret (v := .tuple #[v, .agg #[.int .i64 ((s2.pl + 1 : Nat) : Int), .int .i64 s2.site, .slice A n c, .int .i64 0]]) (by simp [results, Tryz.results23, n0, go_sem]) rfl ?_
      exact zend HZb.out HO2.out (Nat.le_refl _) (s' := stN s2) HS2.out HEQ.out ((s2.pl + 1 : Nat) : Int) s2.site rfl rfl
    · have HEQ : Hid ((r.bind fun x s1 => (T.take l s1 T.kClose).bind fun _ s2 => .ok x s2) = .bad s2.pl 2) := hid (by rw [HR.out]; show (T.take l s2 T.kClose).bind _ = _; rw [take_no h10]; rfl)
      clear h10
      go_wp2
      refine bodyPost_ret (v := .tuple #[v, .agg (st4 s2.pl s2.site A n c 2)]) (by simp [results, Tryz.results23, n0, go_sem]) rfl ?_
      exact zbad HZb.out HO2.out (by rw [flat_len]; omega) HEQ.out

end Go.Proofs.YtgghmhgbdknkaaaGreat
