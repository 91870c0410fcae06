/-
  Slices of numbers, and of such, that come in; the walks of the laws' alive and may. No conditions but those that each lemma names.
-/
import Derived.Test.YtnhjiappmblnmaaCrT
import Derived.ProofKit
import Derived.LaidMore
import Derived.OpenShut
import Derived.Stop.Joined
import Derived.Deep.Slices
import Derived.Deep.Fields
import Derived.ChangeSame
import Derived.Carry
namespace Go.Proofs.Ytnhjiappmblnmaa
open Go.ChangeShapes Go.WideShapes Go.ChangeAt Go.RowKit Go.Deep

theorem cellsInt : Try.prog.cellsOf 3 = 1 := by kernel_rfl
theorem cellsInts : Try.prog.cellsOf 22 = 1 := by kernel_rfl
set_option maxRecDepth 100000 in
theorem rdz_of_trod {H : Type} {enc : TypeId × Value → H} {W : World} {fuel : Nat} {cs : List Value} {x : DataW H × List MemPlace} (h : DataW.trod enc Try.prog W 0 (fun _ => true) true fuel 22 cs = some x) :
    ∃ v l, cs = [v] ∧ RdZ W W.heap.size v l := by
  rcases open_slice Try.underlying22 h with ⟨h0, _⟩ | ⟨a, len, cap, m, n, D, Pl, hcs, _, hl, hm, hmm, _, hi⟩
  · exact ⟨_, [], h0, RdZ.nil _ _⟩
  · have hmc : m = cap := by rw [hmm]; simp
    have hel : ∀ i, ∃ y : Int, i < len → a.spot = none ∧ W.cell? ⟨a.block, a.off + i, none⟩ = some (.int .i64 y) ∧ InZ y := by
      intro i
      by_cases hlt : i < len
      · have hsp : a.spot = none := by
          obtain ⟨c4, hc, hd⟩ := hi 0 (by omega)
          rw [cellsInt] at hc
          obtain ⟨_, hcl, hat⟩ := World.cells?_some hc
          have e := hat 0 (by omega)
          have e2 : c4[0]? = some c4[0] := List.getElem?_eq_getElem (by omega)
          rw [e2] at e
          simpa [Addr.add] using World.cell?_spot e
        have had : ∀ k, a.add k = ⟨a.block, a.off + k, none⟩ := fun k => by
          obtain ⟨b, o, s⟩ := a
          simp only at hsp
          subst hsp
          simp [Addr.add]
        have hadd : ∀ (b o k : Nat), (⟨b, o, none⟩ : Addr).add k = ⟨b, o + k, none⟩ := fun b o k => by simp [Addr.add]
        obtain ⟨c4, hc, hd⟩ := hi i (by omega)
        rw [cellsInt, had] at hc
        obtain ⟨_, hcl, hat⟩ := World.cells?_some hc
        simp only [hadd] at hat
        obtain ⟨z, e1, -, hz⟩ := DataW.trod_int Try.underlying3 hd
        have e := hat 0 (by omega)
        rw [e1] at e
        exact ⟨z, fun _ => ⟨hsp, by simpa using e, hz⟩⟩
      · exact ⟨0, fun hh => absurd hh hlt⟩
    obtain ⟨F, hF⟩ := Classical.axiomOfChoice hel
    refine ⟨_, (List.range len).map F, hcs, some a, cap, by simp, by simpa using hl, hm, fun z hz => ?_, fun hn => ?_⟩
    · obtain ⟨i, hi2, rfl⟩ := List.mem_map.1 hz
      exact (hF i (List.mem_range.1 hi2)).2.2
    · have h0 : 0 < len := by simp at hn; omega
      obtain ⟨hsp, hc0, -⟩ := hF 0 h0
      obtain ⟨b, o, s⟩ := a
      simp only at hsp hF hc0
      subst hsp
      refine ⟨b, o, rfl, cell_lt hc0, fun i hi2 => ?_⟩
      have hi3 : i < len := by simpa using hi2
      have := hF i hi3
      simpa using this.2.1
set_option maxRecDepth 100000 in
theorem rdzz_of_trod {H : Type} {enc : TypeId × Value → H} {W : World} {fuel : Nat} {cs : List Value} {x : DataW H × List MemPlace} (h : DataW.trod enc Try.prog W 0 (fun _ => true) true fuel 23 cs = some x) :
    ∃ v l, cs = [v] ∧ RdZZ W W.heap.size v l := by
  rcases open_slice Try.underlying23 h with ⟨h0, _⟩ | ⟨a, len, cap, m, n, D, Pl, hcs, _, hl, hm, hmm, _, hi⟩
  · exact ⟨_, [], h0, RdZZ.nil _ _⟩
  · have hmc : m = cap := by rw [hmm]; simp
    have hel : ∀ i, ∃ y : Value × List Int, i < len → a.spot = none ∧ W.cell? ⟨a.block, a.off + i, none⟩ = some y.1 ∧ RdZ W W.heap.size y.1 y.2 := by
      intro i
      by_cases hlt : i < len
      · have hsp : a.spot = none := by
          obtain ⟨c4, hc, hd⟩ := hi 0 (by omega)
          rw [cellsInts] at hc
          obtain ⟨_, hcl, hat⟩ := World.cells?_some hc
          have e := hat 0 (by omega)
          have e2 : c4[0]? = some c4[0] := List.getElem?_eq_getElem (by omega)
          rw [e2] at e
          simpa [Addr.add] using World.cell?_spot e
        have had : ∀ k, a.add k = ⟨a.block, a.off + k, none⟩ := fun k => by
          obtain ⟨b, o, s⟩ := a
          simp only at hsp
          subst hsp
          simp [Addr.add]
        have hadd : ∀ (b o k : Nat), (⟨b, o, none⟩ : Addr).add k = ⟨b, o + k, none⟩ := fun b o k => by simp [Addr.add]
        obtain ⟨c4, hc, hd⟩ := hi i (by omega)
        rw [cellsInts, had] at hc
        obtain ⟨_, hcl, hat⟩ := World.cells?_some hc
        simp only [hadd] at hat
        obtain ⟨v1, l1, e1, R1⟩ := rdz_of_trod hd
        have e := hat 0 (by omega)
        rw [e1] at e
        exact ⟨(v1, l1), fun _ => ⟨hsp, by simpa using e, R1⟩⟩
      · exact ⟨(.nilFunc, []), fun hh => absurd hh hlt⟩
    obtain ⟨F, hF⟩ := Classical.axiomOfChoice hel
    refine ⟨_, (List.range len).map fun i => (F i).2, hcs, some a, cap, by simp, by simpa using hl, hm, fun hn => ?_⟩
    have h0 : 0 < len := by simp at hn; omega
    obtain ⟨hsp, hc0, -⟩ := hF 0 h0
    obtain ⟨b, o, s⟩ := a
    simp only at hsp hF hc0
    subst hsp
    refine ⟨b, o, rfl, cell_lt hc0, fun i hi2 => ?_⟩
    have hi3 : i < len := by simpa using hi2
    have := hF i hi3
    exact ⟨(F i).1, this.2.1, by simpa using this.2.2⟩

/-- A row of numbers that was laid. -/
theorem RdZ.lit {w : World} {B b : Nat} {t : TypeId} {l : List Int} (h : w.heap[b]? = some (.cells (l.map (Value.int .i64)).toArray t (0, 0))) (hb : b < B) (hz : ∀ z ∈ l, InZ z) (hl : l.length ≤ 1000) : RdZ w B (.slice (some ⟨b, 0, none⟩) l.length l.length) l :=
  ⟨_, _, rfl, Nat.le_refl _, by unfold maxLen; omega, hz, fun _ => ⟨b, 0, rfl, hb, fun i hi => by
    rw [Nat.zero_add, heap_cell h i]
    simp [hi]⟩⟩
theorem RdZZ.one {w : World} {B b : Nat} {t : TypeId} {v : Value} {l : List Int} (h : w.heap[b]? = some (.cells #[v] t (0, 0))) (hb : b < B) (hr : RdZ w B v l) : RdZZ w B (.slice (some ⟨b, 0, none⟩) 1 1) [l] :=
  ⟨_, _, rfl, Nat.le_refl _, by unfold maxLen; omega, fun _ => ⟨b, 0, rfl, hb, fun i hi => by
    have : i = 0 := by simpa using hi
    subst this
    exact ⟨v, (heap_cell h 0).trans rfl, hr⟩⟩⟩
theorem inZ_small {z : Int} (h : 0 ≤ z ∧ z ≤ 100) : InZ z := WalkArith.wf_i64 (by omega)
theorem few_23 : Cr.Few [[2, 3]] := ⟨by simp, by simp, by simp⟩

set_option maxRecDepth 1000000 in
set_option maxHeartbeats 8000000 in
theorem law_alive (w : World) : Calls Try.prog 9 #[] w fun e w' => e = .returned (.bool true) ∧ Below w.heap.size w w' := by
  obtain ⟨wa, hwa⟩ : ∃ wa, w.alloc (.cells #[.int .i64 2, .int .i64 3] 3) = wa := ⟨_, rfl⟩
  obtain ⟨wb, hwb⟩ : ∃ wb, wa.alloc (.cells #[.slice (some ⟨w.heap.size, 0, none⟩) 2 2] 22) = wb := ⟨_, rfl⟩
  have sa : wa.heap.size = w.heap.size + 1 := by rw [← hwa]; simp
  have sb : wb.heap.size = w.heap.size + 2 := by rw [← hwb]; simp [sa]
  have ba : Below w.heap.size w wa := hwa ▸ below_new _
  have bb : Below wa.heap.size wa wb := hwb ▸ below_new _
  have ha : wa.heap[w.heap.size]? = some (.cells #[.int .i64 2, .int .i64 3] 3 (0, 0)) := by rw [← hwa]; exact heap_alloc_new _ _
  have hb : wb.heap[wa.heap.size]? = some (.cells #[.slice (some ⟨w.heap.size, 0, none⟩) 2 2] 22 (0, 0)) := by rw [← hwb]; exact heap_alloc_new _ _
  have RB := hid (show RdZZ wb wb.heap.size (.slice (some ⟨wa.heap.size, 0, none⟩) 1 1) [[2, 3]] from
    RdZZ.one hb (by omega) (RdZ.lit (l := [2, 3]) ((bb.block _ (by omega)).trans ha) (by omega) (by intro z hz; simp at hz; exact inZ_small (by omega)) (by simp)))
  have BB := hid (show Below w.heap.size w wb from ba.trans (bb.mono (by omega)))
  have ROW := hid (show ∀ (W : World) (l : List Int) (n : Nat), l.length = n → (∀ z ∈ l, 0 ≤ z ∧ z ≤ 100) → n ≤ 10 → RdZ (W.alloc (.cells (l.map (Value.int .i64)).toArray 3)) (W.alloc (.cells (l.map (Value.int .i64)).toArray 3)).heap.size (.slice (some ⟨W.heap.size, 0, none⟩) n n) l from fun W l n hn hz hl => by
    subst hn
    exact RdZ.lit (heap_alloc_new _ _) (by simp) (fun z h => inZ_small (hz z h)) (by omega))
  have SH : Hid (Cr.shrinkL [1, 2, 3, 4] [[2, 3]] = [2, 3] ∧ Cr.growL [] [1, 2, 3, 4] [[2, 3]] = [1, 2, 4] ∧ Cr.leastB [2, 3] [[2, 3]] = true ∧ Cr.mostB [1, 2, 4] [1, 2, 3, 4] [[2, 3]] = true ∧ Cr.fitsB [[2, 3]] [1, 2, 4] = true ∧ Cr.fitsB [[2, 3]] [1, 2, 3, 4] = false ∧ Cr.fitsB [[2, 3]] [] = true) := hid (by decide)
  have S4 : Hid (Cr.isSet [1, 2, 3, 4] ∧ Cr.isSet [2, 3] ∧ Cr.isSet [1, 2, 4] ∧ Cr.isSet []) := hid (by unfold Cr.isSet; decide)
  have L4 : Hid (∀ z ∈ ([1, 2, 3, 4] : List Int), 0 ≤ z ∧ z ≤ 100) := hid (by decide)
  have L3 : Hid (∀ z ∈ ([1, 2, 4] : List Int), 0 ≤ z ∧ z ≤ 100) := hid (by decide)
  have L2 : Hid (∀ z ∈ ([2, 3] : List Int), 0 ≤ z ∧ z ≤ 100) := hid (by decide)
  clear ha hb ba bb sa sb
  go_enter Try.func9, Try.ntmps9
  go_wp2_with fail
  clear hwa hwb
  have B1 := hid (BB.out.alloc BB.out.size (.cells #[.int .i64 1, .int .i64 2, .int .i64 3, .int .i64 4] 3))
  refine (coreShrink_any [1, 2, 3, 4] [[2, 3]] S4.out.1 (by simp) few_23 _ _ _ (ROW.out wb [1, 2, 3, 4] 4 rfl L4.out (by omega)) (RB.out.to (below_new _))).mono ?_
  rintro e w3 ⟨va, he, ra, b3⟩
  rw [SH.out.2.2.2.2.2.1] at he
  replace he : e = .returned (.tuple #[va, .bool true]) := he
  subst he
  rw [SH.out.1] at ra
  have RA := hid ra
  have RB3 := hid ((RB.out.to (below_new (.cells #[.int .i64 1, .int .i64 2, .int .i64 3, .int .i64 4] 3))).to b3)
  have B3 := hid (B1.out.trans (b3.mono B1.out.size))
  obtain ⟨Aa, ca, rfl, -⟩ := ra.val
  clear ra b3 B1
  go_wp2_with fail
  have B4 := hid (B3.out.alloc B3.out.size (.cells #[.int .i64 1, .int .i64 2, .int .i64 3, .int .i64 4] 3))
  refine (coreGrow_any [] [1, 2, 3, 4] [[2, 3]] S4.out.2.2.2 (by simp) S4.out.1 (by simp) few_23 _ _ _ _ (RdZ.nil _ _) (ROW.out w3 [1, 2, 3, 4] 4 rfl L4.out (by omega)) (RB3.out.to (below_new _))).mono ?_
  rintro e w5 ⟨vb, he, rb, b5⟩
  rw [SH.out.2.2.2.2.2.2] at he
  replace he : e = .returned (.tuple #[vb, .bool true]) := he
  subst he
  rw [SH.out.2.1] at rb
  have RC := hid rb
  have n35 := below_new (w := w3) (.cells #[.int .i64 1, .int .i64 2, .int .i64 3, .int .i64 4] 3)
  have RA5 := hid ((RA.out.to n35).to b5)
  have RB5 := hid ((RB3.out.to n35).to b5)
  have B5 := hid (B4.out.trans (b5.mono B4.out.size))
  obtain ⟨Ab, cb, rfl, -⟩ := rb.val
  clear rb b5 B4 RA RB3 B3 n35
  go_wp2_with fail
  have B6 := hid (B5.out.alloc B5.out.size (.cells #[.int .i64 2, .int .i64 3] 3))
  have n56 := below_new (w := w5) (.cells #[.int .i64 2, .int .i64 3] 3)
  refine (ints_any [2, 3] [2, 3] (by simp) _ _ _ (RA5.out.to n56) (ROW.out w5 [2, 3] 2 rfl L2.out (by omega))).mono ?_
  rintro e w6 ⟨he, b6⟩
  replace he : e = .returned (.bool true) := he
  subst he
  have RA6 := hid ((RA5.out.to n56).to b6)
  have RB6 := hid ((RB5.out.to n56).to b6)
  have RC6 := hid ((RC.out.to n56).to b6)
  have B7 := hid (B6.out.trans (b6.mono B6.out.size))
  clear b6 B6 n56 RA5 RB5 RC
  go_wp2_with fail
  have B8 := hid (B7.out.alloc B7.out.size (.cells #[.int .i64 1, .int .i64 2, .int .i64 4] 3))
  have n67 := below_new (w := w6) (.cells #[.int .i64 1, .int .i64 2, .int .i64 4] 3)
  refine (ints_any [1, 2, 4] [1, 2, 4] (by simp) _ _ _ (RC6.out.to n67) (ROW.out w6 [1, 2, 4] 3 rfl L3.out (by omega))).mono ?_
  rintro e w7 ⟨he, b7⟩
  replace he : e = .returned (.bool true) := he
  subst he
  have RA7 := hid ((RA6.out.to n67).to b7)
  have RB7 := hid ((RB6.out.to n67).to b7)
  have RC7 := hid ((RC6.out.to n67).to b7)
  have B9 := hid (B8.out.trans (b7.mono B8.out.size))
  clear b7 B8 n67 RA6 RB6 RC6 B7
  go_wp2_with fail
  refine (coreLeast_any [2, 3] [[2, 3]] S4.out.2.1 (by simp) few_23 _ _ _ RA7.out RB7.out).mono ?_
  rintro e w8 ⟨he, b8⟩
  rw [SH.out.2.2.1] at he
  subst he
  have RB8 := hid (RB7.out.to b8)
  have RC8 := hid (RC7.out.to b8)
  have C8 := hid (B9.out.trans (b8.mono B9.out.size))
  clear b8 B9 RA7 RB7 RC7
  go_wp2_with fail
  have C9 := hid (C8.out.alloc C8.out.size (.cells #[.int .i64 1, .int .i64 2, .int .i64 3, .int .i64 4] 3))
  have n89 := below_new (w := w8) (.cells #[.int .i64 1, .int .i64 2, .int .i64 3, .int .i64 4] 3)
  refine (coreMost_any [1, 2, 4] [1, 2, 3, 4] [[2, 3]] S4.out.2.2.1 (by simp) S4.out.1 (by simp) few_23 _ _ _ _ (RC8.out.to n89) (ROW.out w8 [1, 2, 3, 4] 4 rfl L4.out (by omega)) (RB8.out.to n89)).mono ?_
  rintro e w9 ⟨he, b9⟩
  rw [SH.out.2.2.2.1] at he
  subst he
  have RB9 := hid ((RB8.out.to n89).to b9)
  have RC9 := hid ((RC8.out.to n89).to b9)
  have D9 := hid (C9.out.trans (b9.mono C9.out.size))
  clear b9 C9 n89 RB8 RC8 C8
  go_wp2_with fail
  refine (coreFits_any [1, 2, 4] [[2, 3]] S4.out.2.2.1 (by simp) few_23 _ _ _ RC9.out RB9.out).mono ?_
  rintro e wz ⟨he, bz⟩
  rw [SH.out.2.2.2.2.1] at he
  subst he
  have DZ := hid (D9.out.trans (bz.mono D9.out.size))
  clear bz D9 RB9 RC9
  go_wp2_with fail
  go_ret
  exact ⟨rfl, DZ.out⟩

/-- Are sets such, and few? -/
def mayB (s all : List Int) (bad : List (List Int)) : Bool := decide (s.length ≤ 20) && decide (all.length ≤ 20) && Cr.setB s && Cr.setB all && Cr.fewB bad
structure May (s all : List Int) (bad : List (List Int)) : Prop where
  sl : s.length ≤ 20
  al : all.length ≤ 20
  ss : Cr.isSet s
  sa : Cr.isSet all
  bn : bad.length ≤ 20
  bl : ∀ b ∈ bad, b.length ≤ 20
  bs : ∀ b ∈ bad, Cr.isSet b
theorem mayB_yes {s all : List Int} {bad : List (List Int)} (h : mayB s all bad = true) : May s all bad := by
  unfold mayB at h
  simp only [Bool.and_eq_true, decide_eq_true_eq] at h
  obtain ⟨⟨⟨⟨h1, h2⟩, h3⟩, h4⟩, h5⟩ := h
  obtain ⟨h6, h7⟩ := (Cr.fewB_iff bad).1 h5
  exact ⟨h1, h2, (Cr.setB_iff s).1 h3, (Cr.setB_iff all).1 h4, h6, fun b hb => (h7 b hb).1, fun b hb => (h7 b hb).2⟩
theorem May.few {s all : List Int} {bad : List (List Int)} (h : May s all bad) : Cr.Few bad := ⟨by have := h.bn; omega, fun b hb => by have := h.bl b hb; omega, fun b hb => (h.bs b hb).nodup⟩

set_option maxRecDepth 1000000 in
set_option maxHeartbeats 8000000 in
theorem may_any (s all : List Int) (bad : List (List Int)) (v z u : Value) (w : World) (hx : RdZ w w.heap.size v s) (hy : RdZ w w.heap.size z all) (hu : RdZZ w w.heap.size u bad) :
    Calls Try.prog 8 #[v, z, u] w fun e w' => e = .returned (.bool (mayB s all bad)) ∧ Below w.heap.size w w' := by
  have HX := hid hx
  have HY := hid hy
  have HU := hid hu
  obtain ⟨A, cap, rfl, k1, k2⟩ := hx.val
  obtain ⟨A2, cap2, rfl, j1, j2⟩ := hy.val
  obtain ⟨A3, cap3, rfl, -⟩ := hu.val
  unfold maxLen at k2 j2
  clear hx hy hu
  by_cases h1 : s.length ≤ 20
  · have h1z : (s.length : Int) ≤ 20 := by omega
    have h1d : decide ((s.length : Int) ≤ 20) = true := decide_eq_true h1z
    by_cases h2 : all.length ≤ 20
    · have h2z : (all.length : Int) ≤ 20 := by omega
      have h2d : decide ((all.length : Int) ≤ 20) = true := decide_eq_true h2z
      have HV := hid (show mayB s all bad = (Cr.setB s && Cr.setB all && Cr.fewB bad) by unfold mayB; rw [decide_eq_true h1, decide_eq_true h2]; simp [Bool.and_assoc])
      have H1 := hid (rset_any s (by omega) _ w HX.out)
      obtain ⟨p, hp⟩ : ∃ p, Cr.setB s = p := ⟨_, rfl⟩
      rw [hp] at H1
      rw [hp] at HV
      clear hp
      go_enter Try.func8, Try.ntmps8
      go_wp2_with fail
      refine (H1.out).mono ?_
      rintro e w1 ⟨rfl, b1⟩
      have B1 := hid b1
      have H2 := hid (rset_any all (by omega) _ w1 (HY.out.to b1))
      obtain ⟨q, hq⟩ : ∃ q, Cr.setB all = q := ⟨_, rfl⟩
      rw [hq] at H2
      rw [hq] at HV
      clear b1 H1 hq
      cases p with
      | false =>
        go_wp2_with fail
        go_ret
        exact ⟨ret_bool HV.out.symm, B1.out⟩
      | true =>
        go_wp2_with fail
        refine (H2.out).mono ?_
        rintro e w2 ⟨rfl, b2⟩
        have B2 := hid (B1.out.trans (b2.mono B1.out.size))
        clear b2 H2
        have H3 := hid (rfew_any bad _ w2 (HU.out.to B2.out))
        obtain ⟨r, hr⟩ : ∃ r, Cr.fewB bad = r := ⟨_, rfl⟩
        rw [hr] at H3
        rw [hr] at HV
        clear hr
        cases q with
        | false =>
          go_wp2_with fail
          go_ret
          exact ⟨ret_bool HV.out.symm, B2.out⟩
        | true =>
          go_wp2_with fail
          refine (H3.out).mono ?_
          rintro e w3 ⟨rfl, b3⟩
          have B3 := hid (B2.out.trans (b3.mono B2.out.size))
          clear b3 H3
          go_wp2_with fail
          go_ret
          exact ⟨ret_bool (by rw [HV.out]; rfl), B3.out⟩
    · have h2z : ¬ (all.length : Int) ≤ 20 := by omega
      have h2d : decide ((all.length : Int) ≤ 20) = false := decide_eq_false h2z
      have HV := hid (show mayB s all bad = false by unfold mayB; rw [decide_eq_false h2]; simp)
      clear h2
      go_enter Try.func8, Try.ntmps8
      go_wp2_with fail
      go_ret
      exact ⟨ret_bool HV.out.symm, Below.refl _ _⟩
  · have h1z : ¬ (s.length : Int) ≤ 20 := by omega
    have h1d : decide ((s.length : Int) ≤ 20) = false := decide_eq_false h1z
    have HV := hid (show mayB s all bad = false by unfold mayB; rw [decide_eq_false h1]; simp)
    clear h1
    go_enter Try.func8, Try.ntmps8
    go_wp2_with fail
    go_ret
    exact ⟨ret_bool HV.out.symm, Below.refl _ _⟩
end Go.Proofs.Ytnhjiappmblnmaa
