/-
  The texts TrG, one behind the other. Conditions: those that each of them names.
-/
import Derived.Test.YtgghmhgbdknkaaaMR1
import Derived.Test.YtgghmhgbdknkaaaM3
import Derived.Deep.RegionHeld3
import Derived.Deep.RegionLaw
section
/-
  The walk of unknown: a ? is a site. Conditions: the reader's own variable reads as it should, and a token is there.
-/
namespace Go.Proofs.Ytgghmhgbdknkaaa
open Go.RowKit

theorem infoSite : (Try.prog.info? 41).map (fun i => (i.zero, i.size, i.bytes)) = some (some (.agg #[.int .i64 0, .int .i64 0, .bool false]), 3, 24) := by kernel_rfl

theorem cellsSi_len (l : List T.Si) : (cellsSi l).length = l.length * 3 := by
  induction l with
  | nil => rfl
  | cons t r ih => simp only [cellsSi, siC, List.flatMap_cons, List.length_append, List.length_cons, List.length_nil] at ih ⊢; omega
theorem OwnSi.snoc {B : Nat} {v : Value} {l : List T.Si} {w : World} (x : T.Si) (h : w.ownsRow B 41 3 v (l.length + 1) (cellsSi l ++ siC x)) : OwnSi B v (l ++ [x]) w := by
  unfold OwnSi
  have e : cellsSi (l ++ [x]) = cellsSi l ++ siC x := by simp [cellsSi]
  rw [e, List.length_append]
  exact h

theorem row_slice {B : Nat} {T : TypeId} {s n : Nat} {v : Value} {c : List Value} {w : World} (h : w.ownsRow B T s v n c) : ∃ A cap, v = .slice A n cap := by
  rcases h.2 with ⟨hv, h0⟩ | ⟨g, cap, cur, hv, _⟩
  · exact ⟨none, 0, by rw [hv, h0]⟩
  · exact ⟨_, cap, hv⟩

/-- A site is put behind the others. -/
theorem Rr.add {l : List T.Tk} {vt vs v4 : Value} {P : Nat} {s : T.S} {w w4 : World} (x : T.Si) (h : Rr l vt P s w) (hs : w.cell? ⟨P, 3, none⟩ = some vs) (hl : s.sites.length + 1 ≤ s.pl)
    (ho : w.ownsRow (P + 1) 41 3 vs s.sites.length (cellsSi s.sites)) (hown : w4.ownsRow (P + 1) 41 3 v4 (s.sites.length + 1) (cellsSi s.sites ++ siC x)) (hg : w.grownBy w4 vs.ownBlock) :
    Rr l vt P ⟨s.pl, s.site, s.sites ++ [x]⟩ (w4.setCell ⟨P, 3, none⟩ v4) ∧ KT P w (w4.setCell ⟨P, 3, none⟩ v4) := by
  have hP := h.lt
  obtain ⟨h1, h2, h3, vs', hc, -, -⟩ := h
  have hvs : vs' = vs := by
    have := Lib.cell_of_heap hc 3
    rw [hs] at this
    simpa using this.symm
  subst hvs
  have hb : ∀ k, vs'.ownBlock = some k → P + 1 ≤ k ∧ k < w.heap.size := ho.lt
  have hne : vs'.ownBlock ≠ some P := fun e => by have := (hb P e).1; omega
  have hB4 : Below P w w4 := (Below.refl _ _).grown hg (Nat.le_of_lt hP) (fun k hk => by have := (hb k hk).1; omega)
  have hB5 : Below P w (w4.setCell ⟨P, 3, none⟩ v4) := hB4.setCell (p := ⟨P, 3, none⟩) (Nat.le_refl _) _
  have hc4 : w4.heap[P]? = some (.cells #[vt, .int .i64 (s.pl : Int), .int .i64 s.site, vs'] 57 (0, 0)) := (hg.block P hP (fun e => hne e.symm)).trans hc
  refine ⟨⟨h1, h2, h3.low hB5, v4, ?_, ?_, ?_⟩, hB5, fun k o hk hkP hty => ?_⟩
  · rw [heap_setCell_same w4 P 3 _ _ _ hc4]
    simp
  · refine World.ownsRow.kept (OwnSi.snoc x hown) (grownBy_cell w4 P 3 v4) ?_
    right
    intro e
    have := (hown.lt P e).1
    omega
  · simp only [List.length_append, List.length_cons, List.length_nil]
    omega
  · rw [heap_setCell_other w4 ⟨P, 3, none⟩ k v4 hkP]
    refine (hg.block k (heap_lt hk) (fun e => ?_)).trans hk
    rcases ho.2 with ⟨hv, _⟩ | ⟨g, cap, cur, hv, _, hh, _⟩
    · rw [hv] at e; cases e
    · rw [hv] at e
      simp only [Value.ownBlock, Option.some.injEq] at e
      subst e
      rw [hk] at hh
      exact hty _ _ (Option.some.inj hh)

/-- The next site's number is one more. -/
theorem Rr.count {l : List T.Tk} {vt : Value} {P : Nat} {s : T.S} {w : World} (h : Rr l vt P s w) (hl : s.site + 1 + l.length ≤ 4000000000000000000 + s.pl) :
    Rr l vt P ⟨s.pl, s.site + 1, s.sites⟩ (w.setCell ⟨P, 2, none⟩ (.int .i64 (s.site + 1))) ∧ KT P w (w.setCell ⟨P, 2, none⟩ (.int .i64 (s.site + 1))) := by
  have hP := h.lt
  obtain ⟨h1, h2, h3, vs, hc, ho, h4⟩ := h
  have hB : Below P w (w.setCell ⟨P, 2, none⟩ (.int .i64 (s.site + 1))) := (Below.refl _ _).setCell (p := ⟨P, 2, none⟩) (Nat.le_refl _) _
  refine ⟨⟨h1, ⟨by simp only; omega, hl⟩, h3.low hB, vs, ?_, ?_, h4⟩, hB, fun k _ hk hn _ => (heap_setCell_other w ⟨P, 2, none⟩ k _ hn).trans hk⟩
  · rw [heap_setCell_same w P 2 _ _ _ hc]
    simp
  · refine ho.kept (grownBy_cell w P 2 _) ?_
    right
    intro e
    have := (World.ownsRow.lt ho P e).1
    omega

/-- The state behind a site. -/
def stQ (s : T.S) (t : T.Tk) : T.S := ⟨s.pl + 1, s.site + 1, s.sites ++ [⟨t.fr, t.to⟩]⟩

set_option maxHeartbeats 8000000 in
set_option maxRecDepth 100000 in
theorem unknown_any {l : List T.Tk} {vt : Value} {P : Nat} {s : T.S} {w : World} (h : Rr l vt P s w) (hlt : s.pl < l.length) :
    Calls Try.prog 53 #[.pointer (some ⟨P, 0, none⟩)] w fun e w' => KT P w w' ∧
      ∃ v, e = .returned (trV (T.leafT 0 s.site) v) ∧ TrV (P + 1) (T.leafT 0 s.site) v w' ∧ Rr l vt P (stQ s (tokAt l s.pl)) w' := by
  obtain ⟨i0, hi, hz0, hz1, hz2⟩ := info_parts infoSite
  have hP := h.lt
  have HR := hid (h.below (below_new (.cells #[.slice none 0 0, .int .i64 0, .int .i64 0] 73)))
  have HT := hid (token_any HR.out)
  have hsl : s.sites.length ≤ s.pl := by obtain ⟨_, _, _, _, _, _, h4⟩ := h; exact h4
  have hst : s.site + l.length ≤ 4000000000000000000 + s.pl := by obtain ⟨_, h2, _⟩ := h; exact h2.2
  have hsb : s.sites.length ≤ 1000000 ∧ s.pl ≤ 1000000 ∧ 0 ≤ s.site ∧ s.site ≤ 4000000000001000000 := by
    obtain ⟨h1, h2, ⟨_, _, _, h3, _⟩, _, _, _, h4⟩ := h
    exact ⟨by omega, by omega, h2.1, by omega⟩
  obtain ⟨hsb1, hsb2, hsb3, hsb4⟩ := hsb
  clear h
  generalize tokAt l s.pl = t at *
  obtain ⟨tk, tt, tf, tn⟩ := t
  have HT2 : Hid (Calls Try.prog 57 #[.pointer (some ⟨P, 0, none⟩)] (w.alloc (.cells #[.slice none 0 0, .int .i64 0, .int .i64 0] 73)) fun e w' => e = .returned (.agg #[.int .i64 tk, .string tt, .int .i64 tf, .int .i64 tn]) ∧ Below (w.alloc (.cells #[.slice none 0 0, .int .i64 0, .int .i64 0] 73)).heap.size (w.alloc (.cells #[.slice none 0 0, .int .i64 0, .int .i64 0] 73)) w') := HT
  have hN0 : (w.alloc (.cells #[.slice none 0 0, .int .i64 0, .int .i64 0] 73)).heap[w.heap.size]? = some (.cells #[.slice none 0 0, .int .i64 0, .int .i64 0] 73 (0, 0)) := heap_alloc_new w _
  have HN0 := hid hN0
  clear HT hN0
  go_enter Try.func53, Try.ntmps53
  go_wp2_with fail
  refine (HT2.out).mono ?_
  rintro e w1 ⟨rfl, h1⟩
  have HB1 := hid ((below_new (w := w) _).trans (h1.mono (by simp)))
  have HN1 := hid ((h1.block _ (heap_lt HN0.out)).trans HN0.out)
  have HR1 := hid (HR.out.below h1)
  clear h1 HR HN0 HT2
  have hP1 : P < w1.heap.size := HR1.out.lt
  have HR2 := hid (HR1.out.below (below_new (.cells #[.int .i64 tk, .string tt, .int .i64 tf, .int .i64 tn] 44)))
  obtain ⟨vs, c0, c1, c2, c3, ho, hf⟩ := HR1.out.cells
  have HNX := hid (HR2.out.next hlt)
  have HO := hid ho
  clear ho
  go_upto_region 3 with fail
  have hNXs : Rr l vt P (stN s) (w1.setCell ⟨P, 1, none⟩ (.int .i64 ((s.pl : Int) + 1))) ∧ KT P w1 (w1.setCell ⟨P, 1, none⟩ (.int .i64 ((s.pl : Int) + 1))) := HR1.out.next hlt
  obtain ⟨w3, hw3⟩ : ∃ w3, w3 = (w1.setCell ⟨P, 1, none⟩ (.int .i64 ((s.pl : Int) + 1))).alloc (.cells #[.int .i64 tk, .string tt, .int .i64 tf, .int .i64 tn] 44) := ⟨_, rfl⟩
  have hsz : (w1.setCell ⟨P, 1, none⟩ (.int .i64 ((s.pl : Int) + 1))).heap.size = w1.heap.size := by simp [World.setCell]
  have hB3 : Below (w1.setCell ⟨P, 1, none⟩ (.int .i64 ((s.pl : Int) + 1))).heap.size (w1.setCell ⟨P, 1, none⟩ (.int .i64 ((s.pl : Int) + 1))) w3 := by rw [hw3]; exact below_new _
  have hM3 : w3.heap[w1.heap.size]? = some (.cells #[.int .i64 tk, .string tt, .int .i64 tf, .int .i64 tn] 44 (0, 0)) := by
    have := heap_alloc_new (w1.setCell ⟨P, 1, none⟩ (.int .i64 ((s.pl : Int) + 1))) (.cells #[.int .i64 tk, .string tt, .int .i64 tf, .int .i64 tn] 44)
    rw [hsz] at this
    rw [hw3]
    exact this
  have HR3 := hid (hNXs.1.below hB3)
  have HK3 := hid (hNXs.2.trans (KT.of_below hB3 (by rw [hsz]; omega)))
  have HN3 := hid ((hB3.block _ (by rw [hsz]; exact heap_lt HN1.out)).trans ((heap_setCell_other w1 ⟨P, 1, none⟩ _ _ (by simp; omega)).trans HN1.out))
  rw [← hw3]
  clear hw3 hNXs hB3 hsz HNX HR2
  obtain ⟨us, d0, d1, d2, d3, hos, hfr⟩ := HR3.out.cells
  have hP3 := HR3.out.lt
  have hm3 : w1.heap.size < w3.heap.size := heap_lt hM3
  have f2 : w3.cell? ⟨w1.heap.size, 2, none⟩ = some (.int .i64 tf) := Lib.cell_of_heap hM3 2
  have f3 : w3.cell? ⟨w1.heap.size, 3, none⟩ = some (.int .i64 tn) := Lib.cell_of_heap hM3 3
  have C3 := hid d3
  have F2 := hid f2
  have F3 := hid f3
  go_cut [] from 14 (fun wx => KT P w3 wx ∧ Rr l vt P ⟨s.pl + 1, s.site, s.sites ++ [⟨tf, tn⟩]⟩ wx)
  case first =>
    have HA3 := hid (fun o => show Below w3.heap.size w3 (w3.drew.alloc o) from ((Below.refl _ _).drew).alloc (Nat.le_refl _) o)
    have HOW := hid (fun o => row_below (show w3.ownsRow (P + 1) 41 3 us s.sites.length (cellsSi s.sites) from hos) (HA3.out o))
    have HNW : Hid (∀ j u, ([.int .i64 tf, .int .i64 tn, .bool false] : List Value)[j]? = some u → (w3.drew.alloc (.cells #[.int .i64 tf, .int .i64 tn, .bool false] 41)).cell? ((⟨w3.heap.size, 0, none⟩ : Addr).add j) = some u) := hid fun j u hu => by
      have h := heap_alloc_new w3.drew (.cells #[.int .i64 tf, .int .i64 tn, .bool false] 41)
      have h2 := Lib.cell_of_heap (show (w3.drew.alloc (.cells #[.int .i64 tf, .int .i64 tn, .bool false] 41)).heap[w3.heap.size]? = _ from h) j
      have e : ((⟨w3.heap.size, 0, none⟩ : Addr).add j) = ⟨w3.heap.size, j, none⟩ := by unfold Addr.add; split <;> simp_all
      rw [e, h2, ← hu]
      simp
    have HON1 : Hid (∀ u ∈ ([.int .i64 tf, .int .i64 tn, .bool false] : List Value), u.oneCell' = true) := hid (by simp [Value.oneCell'])
    have H63 : Hid (s.sites.length + 1 ≤ maxLen) := hid (by unfold maxLen; omega)
    have HBY : Hid ((s.sites.length + 1) * 24 ≤ 140737488355328) := hid (by omega)
    have HBS : Hid (P + 1 ≤ (w3.drew.alloc (.cells #[.int .i64 tf, .int .i64 tn, .bool false] 41)).heap.size) := hid (by have := (HA3.out (.cells #[.int .i64 tf, .int .i64 tn, .bool false] 41)).size; omega)
    have HLT := hid (fun k => World.ownsRow.lt (show w3.ownsRow (P + 1) 41 3 us s.sites.length (cellsSi s.sites) from hos) k)
    have hcP : ∃ cs, w3.heap[P]? = some (.cells cs 57 (0, 0)) := by
      obtain ⟨-, -, -, vs', hc, -⟩ := HR3.out
      exact ⟨_, hc⟩
    have HC4 : Hid (∀ (o : Obj) (w4 : World), (w3.drew.alloc o).grownBy w4 us.ownBlock → ∀ i, w4.cell? ⟨P, i, none⟩ = (w3.drew.alloc o).cell? ⟨P, i, none⟩ ∧ w4.frozen? ⟨P, i, none⟩ = false) := hid fun o w4 hg i => by
      obtain ⟨cs, hc⟩ := hcP
      have hc1 : (w3.drew.alloc o).heap[P]? = some (.cells cs 57 (0, 0)) := ((HA3.out o).block P hP3).trans hc
      have hc4 : w4.heap[P]? = some (.cells cs 57 (0, 0)) := (hg.block P (heap_lt hc1) (fun e => by have := (HLT.out P e.symm).1; omega)).trans hc1
      exact ⟨(Lib.cell_of_heap hc4 i).trans (Lib.cell_of_heap hc1 i).symm, Lib.frozen_of_heap hc4 i⟩
    have HM4 : Hid (∀ (o : Obj) (w4 : World), (w3.drew.alloc o).grownBy w4 us.ownBlock → ∀ i, w4.cell? ⟨w1.heap.size, i, none⟩ = (w3.drew.alloc o).cell? ⟨w1.heap.size, i, none⟩) := hid fun o w4 hg i => by
      have hc1 := ((HA3.out o).block w1.heap.size hm3).trans hM3
      have hc4 := (hg.block w1.heap.size (heap_lt hc1) (fun e => by
        rcases hos.2 with ⟨hv, _⟩ | ⟨g, cap, cur, hv, _, hh, _⟩
        · rw [hv] at e; cases e
        · rw [hv] at e
          simp only [Value.ownBlock, Option.some.injEq] at e
          subst e
          rw [hM3] at hh
          injection hh with hh
          injection hh with _ h2
          exact absurd h2 (by decide))).trans hc1
      exact (Lib.cell_of_heap hc4 i).trans (Lib.cell_of_heap hc1 i).symm
    clear c0 c1 c2 c3 d0 d1 d3 f2 f3 hos
    have d3 := C3.out
    have f2 := F2.out
    have f3 := F3.out
    go_region_law (first
      | (refine step_append_own rfl (.tmp 18) (.tmp 24) 34 rfl (P + 1) 41 i0 (.agg #[.int .i64 0, .int .i64 0, .bool false]) 3 24 Try.underlying34 hi hz0 hz1 hz2 rfl (by decide) _ _ _ rfl (HOW.out _) ⟨w3.heap.size, 0, none⟩ 1 1 [.int .i64 tf, .int .i64 tn, .bool false] rfl rfl HNW.out HON1.out H63.out HBY.out HBS.out ?_
         intro v4 w4 hown hgrow hnil
         obtain ⟨A4, c4, rfl⟩ := row_slice hown
         have HOWN := hid hown
         have HGR := hid hgrow
         have g3 : w4.cell? ⟨P, 3, none⟩ = some us := (HC4.out _ _ hgrow 3).1.trans (((HA3.out _).cell (p := ⟨P, 3, none⟩) hP3).trans C3.out)
         have z3 : w4.frozen? ⟨P, 3, none⟩ = false := (HC4.out _ _ hgrow 3).2
         have HG4 : Hid (w4.cell? ⟨P, 3, none⟩ = some us ∧ w4.cell? ⟨w1.heap.size, 2, none⟩ = some (.int .i64 tf) ∧ w4.cell? ⟨w1.heap.size, 3, none⟩ = some (.int .i64 tn)) := hid ⟨g3, (HM4.out _ _ hgrow 2).trans (((HA3.out _).cell (p := ⟨w1.heap.size, 2, none⟩) hm3).trans F2.out), (HM4.out _ _ hgrow 3).trans (((HA3.out _).cell (p := ⟨w1.heap.size, 3, none⟩) hm3).trans F3.out)⟩
         clear hown hgrow hnil))
    all_goals go_wp2
    all_goals go_meet
    all_goals (
      have hadd := (HR3.out.below (HA3.out (.cells #[.int .i64 tf, .int .i64 tn, .bool false] 41))).add ⟨tf, tn⟩ (((HA3.out _).cell (p := ⟨P, 3, none⟩) hP3).trans C3.out) (show s.sites.length + 1 ≤ s.pl + 1 by omega) (HOW.out _) HOWN.out HGR.out
      exact ⟨(KT.of_below (HA3.out _) (Nat.le_of_lt hP3)).trans hadd.2, hadd.1⟩)
  case rest =>
    obtain ⟨hkx, hrx⟩ := hcut
    have HKX := hid (HK3.out.trans hkx)
    have HRX := hid hrx
    have HNX := hid (hkx.2 _ _ HN3.out (by omega) (by intro c fz he; injection he with _ h5; exact absurd h5 (by decide)))
    clear hkx hrx C3 F2 F3 HN3 HR3 HK3 d0 d1 d2 d3 f2 f3 hos hfr
    obtain ⟨ux, e0, e1, e2, e3, -, hfx⟩ := HRX.out.cells
    have hPx := HRX.out.lt
    have HLF := hid (fun w => leaf_any 0 s.site w)
    have HCN := hid (HRX.out.count (show s.site + 1 + (l.length : Int) ≤ 4000000000000000000 + ((s.pl + 1 : Nat) : Int) by omega))
    have hNx := heap_lt HNX.out
    go_wp2_with fail
    refine (HLF.out _).mono ?_
    rintro e w5 ⟨v, rfl, hv, h5⟩
    obtain ⟨Av, nv, cv, rfl⟩ := hv.slice
    obtain ⟨w4, hw4⟩ : ∃ w4, w4 = wc.setCell ⟨P, 2, none⟩ (.int .i64 (s.site + 1)) := ⟨_, rfl⟩
    have hcn : Rr l vt P ⟨s.pl + 1, s.site + 1, s.sites ++ [⟨tf, tn⟩]⟩ w4 ∧ KT P wc w4 := by rw [hw4]; exact HCN.out
    have hN4 : w4.heap[w.heap.size]? = some (.cells #[.slice none 0 0, .int .i64 0, .int .i64 0] 73 (0, 0)) := hcn.2.2 _ _ HNX.out (by omega) (by intro c fz he; injection he with _ h5; exact absurd h5 (by decide))
    have hP4 := hcn.1.lt
    have h45 : Below w4.heap.size w4 w5 := by
      have hz : (wc.setCell ⟨P, 2, none⟩ (.int .i64 (s.site + 1))).heap.size = wc.heap.size := by simp [World.setCell]
      have h6 := h5
      first
        | (rw [← hw4] at h6; exact (below_new _).trans (h6.mono (by simp)))
        | (simp only [← hw4] at h6; exact (below_new _).trans (h6.mono (by simp)))
    have HR5 := hid (hcn.1.below h45)
    have HK5 := hid ((HKX.out.trans hcn.2).trans (KT.of_below h45 (Nat.le_of_lt hP4)))
    have HN5 := hid ((h45.block _ (heap_lt hN4)).trans hN4)
    have HKW := hid (KT.of_below HB1.out (Nat.le_of_lt hP))
    have hc : ∀ i, w5.cell? ⟨w.heap.size, i, none⟩ = #[Value.slice none 0 0, .int .i64 0, .int .i64 0][i]? := fun i => Lib.cell_of_heap HN5.out i
    have hz : ∀ i, w5.frozen? ⟨w.heap.size, i, none⟩ = false := fun i => Lib.frozen_of_heap HN5.out i
    have HV : Hid (TrV (P + 1) (T.leafT 0 s.site) (.slice Av nv cv) w5) := hid ⟨fun hf => (hv.1 hf).more (by first | omega | (simp [World.setCell]; omega)), hv.2⟩
    have HG := hid (put3_grown w5 w.heap.size (.slice Av nv cv) (.int .i64 1) (.int .i64 1))
    rw [show trV (T.leafT 0 s.site) (.slice Av nv cv) = .agg #[.slice Av nv cv, .int .i64 1, .int .i64 1] from rfl]
    clear hv h5 h45 hcn hN4 hw4 e0 e1 e2 e3 hfx
    go_wp2
    refine bodyPost_ret (v := .agg #[.slice Av nv cv, .int .i64 1, .int .i64 1]) ?_ rfl ?_
    · simp [results, Try.results53, hc, go_sem]
    · exact ⟨(HKW.out.trans HK5.out).put (Nat.le_refl _) (Nat.le_of_lt hP) HG.out, _, rfl, ⟨fun hf => row_put (HV.out.1 hf) HN5.out (by decide) HG.out, HV.out.2⟩, HR5.out.put hP HN5.out (by decide) HG.out⟩

end Go.Proofs.Ytgghmhgbdknkaaa
end
