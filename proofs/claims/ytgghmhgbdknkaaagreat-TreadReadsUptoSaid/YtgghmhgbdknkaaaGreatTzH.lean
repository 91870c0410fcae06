/-
  The walks of the reference's Read and Of: what readF says. Conditions: at most 20000 tokens that are read, of texts of at most 2000000 bytes; a site of at most 1000000000000000000.
-/
import Derived.Test.YtgghmhgbdknkaaaGreatTzG
import Derived.Test.YtgghmhgbdknkaaaGreatTzH0
import Derived.Test.YtgghmhgbdknkaaaGreatTrNm
import Derived.Test.YtgghmhgbdknkaaaGreatMR2
import Derived.Test.YtgghmhgbdknkaaaGreatM4
namespace Go.Proofs.YtgghmhgbdknkaaaGreat
open Go.RowKit

/-- What the reference's Read tells. -/
def OutZV (B : Nat) (o : T.Out) (w : World) (e : Ending) : Prop :=
  match o with
  | .bad p er => e = .returned (.tuple #[.slice none 0 0, .int .i64 0, .slice none 0 0, .int .i64 (p : Int), .int .i64 er])
  | .ok t n ss => ∃ v vs, e = .returned (.tuple #[v, .int .i64 (n : Int), vs, .int .i64 0, .int .i64 0]) ∧ Own B v t.flat w ∧ RdSt w vs ss

/-- What Read makes of what whole tells. -/
def outOf (q : Nat) (r : T.R T.Tr) : T.Out :=
  match r with
  | .bad w e => .bad w e
  | .ok t s => if 10000 < t.nodes then .bad q 3 else if 100 < t.deep then .bad q 4 else .ok t s.pl s.sites

theorem readF_out {l : List T.Tk} {p site lv : Int} (h : ¬ (p < 0 ∨ site < 1 ∨ lv < 1)) : T.readF l p site lv = outOf (min p.toNat l.length) (T.typeF l (100 - lv.toNat) ⟨min p.toNat l.length, site, []⟩) := by
  unfold T.readF
  rw [if_neg h]
  rfl

set_option maxHeartbeats 8000000 in
set_option maxRecDepth 100000 in
theorem zread_in {l : List T.Tk} (hll : l.length ≤ 20000) (vl : Value) (q : Nat) (hq : q ≤ l.length) (site lv : Int) (h2 : 1 ≤ site) (h3 : 1 ≤ lv) (w : World) (hx : RdK w w.heap.size vl l) (r : T.R T.Tr) (M : Nat)
    (hW : Hid (∀ w : World, RdK w w.heap.size vl l → Calls Tryz.prog 15 #[vl, stV (q) site (.slice none 0 0) 0, .int .i64 lv] w (WPost M r w)))
    (hE : Hid (∀ p er, r = .bad p er → (er != 0) = true)) (hG : Hid (∀ t s2, r = .ok t s2 → t.nodes ≤ 20000 ∧ (∀ z ∈ t.flat, z.name.size ≤ 2000000) ∧ (t.nodes ≤ 10000 → L.rightL t.flat = decide (t.deep ≤ 100)))) :
    Calls Tryz.prog 7 #[vl, .int .i64 (q : Int), .int .i64 site, .int .i64 lv] w fun e w' => Below w.heap.size w w' ∧ OutZV w.heap.size (outOf (q) r) w' e := by
  have hu := hll
  clear hu
  have HC := hid (hW.out w hx)
  obtain ⟨Al, capl, rfl, -⟩ := id hx
  clear hx
  unfold stV at HC
  have hqz : (q : Int) ≤ (l.length : Int) := by omega
  go_enter Tryz.func7, Tryz.ntmps7
  go_wp2_with fail
  refine (HC.out).mono ?_
  rintro e w1 ⟨hb1, hp⟩
  rcases hp with ⟨p1, er, v, ns, site1, A, n, c, hr, rfl, -, -⟩ | ⟨t, s1, v, A, n, c, hr, rfl, ho, hs⟩
  · have her := hE.out p1 er hr
    have HEQ : Hid (outOf (q) r = .bad p1 er) := hid (by rw [hr]; rfl)
    have HB1 := hid hb1
    clear hr hb1 HC
    unfold stV
    go_wp2
    go_quiet (fail)
    go_wp2
    rw [HEQ.out]
    exact bodyPost_ret (v := .tuple #[.slice none 0 0, .int .i64 0, .slice none 0 0, .int .i64 (p1 : Int), .int .i64 er]) (by simp [results, Tryz.results7, go_sem]) rfl ⟨below_drewN (HB1.out.trans ((below_new _).mono HB1.out.size)) _, rfl⟩
  · have hg := hG.out t s1 hr
    obtain ⟨Av, cv, rfl⟩ := row_slice ho
    obtain ⟨hg1, hg2, hg3⟩ := hg
    have hfl : t.flat.length = t.nodes := flat_len t
    have HB1 := hid hb1
    have HO1 := hid ho
    have HS1 := hid hs
    have HR := hid hr
    have HG2 := hid hg2
    have HG3 := hid hg3
    clear hr hb1 ho hs hg2 hg3 HC
    unfold stV
    by_cases hbig : 10000 < t.nodes
    · have HEQ : Hid (outOf (q) r = .bad (q) 3) := hid (by rw [HR.out]; show (if 10000 < t.nodes then _ else _) = _; rw [if_pos hbig])
      have hz : (10000 : Int) < (t.flat.length : Int) := by omega
      clear hbig hfl
      go_wp2
      rw [HEQ.out]
      exact bodyPost_ret (v := .tuple #[.slice none 0 0, .int .i64 0, .slice none 0 0, .int .i64 ((q : Int)), .int .i64 3]) (by simp [results, Tryz.results7, go_sem]) rfl ⟨HB1.out.trans ((below_new _).mono HB1.out.size), rfl⟩
    · have HHS := hid (HO1.out.below (below_new (.cells (st4 s1.pl s1.site A n c 0) 49)))
      have HRR := hid (refRight_any t.flat HG2.out (.slice Av t.flat.length cv) _ HHS.out.rd)
      have HM1 := hid (heap_alloc_new w1 (.cells (st4 s1.pl s1.site A n c 0) 49))
      rw [HG3.out (by omega)] at HRR
      have hz : (t.flat.length : Int) ≤ (10000 : Int) := by omega
      have hng : ¬ 10000 < t.nodes := hbig
      clear hbig
      by_cases hd : t.deep ≤ 100
      · have HEQ : Hid (outOf (q) r = .ok t s1.pl s1.sites) := hid (by rw [HR.out]; show (if 10000 < t.nodes then _ else _) = _; rw [if_neg hng, if_neg (by omega)])
        rw [decide_eq_true hd] at HRR
        clear hd hng hfl
        go_wp2_with fail
        refine (HRR.out).mono ?_
        rintro e w2 ⟨rfl, hb2⟩
        have hM2 := (hb2.block _ (heap_lt HM1.out)).trans HM1.out
        have k0 : ∀ j, w2.cell? ⟨w1.heap.size, j, none⟩ = (st4 s1.pl s1.site A n c 0)[j]? := fun j => Lib.cell_of_heap hM2 j
        have hk : w1.heap.size < w2.heap.size := heap_lt hM2
        have HB2 := hid ((below_new (w := w1) (.cells (st4 s1.pl s1.site A n c 0) 49)).trans (hb2.mono (below_new _).size))
        clear hb2 hM2 HRR
        go_wp2
        go_quiet (fail)
        go_wp2
        rw [HEQ.out]
        exact bodyPost_ret (v := .tuple #[.slice Av t.flat.length cv, .int .i64 (s1.pl : Int), .slice A n c, .int .i64 0, .int .i64 0]) (by simp [results, Tryz.results7, go_sem]) rfl ⟨below_drewN (HB1.out.trans (HB2.out.mono HB1.out.size)) _, _, _, rfl, HO1.out.below (below_drewN HB2.out _), HS1.out.below (below_drewN HB2.out _)⟩
      · have HEQ : Hid (outOf (q) r = .bad (q) 4) := hid (by rw [HR.out]; show (if 10000 < t.nodes then _ else _) = _; rw [if_neg hng, if_pos (by omega)])
        rw [decide_eq_false hd] at HRR
        clear hd hng hfl
        go_wp2_with fail
        refine (HRR.out).mono ?_
        rintro e w2 ⟨rfl, hb2⟩
        have HB2 := hid ((below_new (w := w1) (.cells (st4 s1.pl s1.site A n c 0) 49)).trans (hb2.mono (below_new _).size))
        clear hb2 HRR
        go_wp2
        rw [HEQ.out]
        exact bodyPost_ret (v := .tuple #[.slice none 0 0, .int .i64 0, .slice none 0 0, .int .i64 ((q : Int)), .int .i64 4]) (by simp [results, Tryz.results7, go_sem]) rfl ⟨HB1.out.trans (HB2.out.mono HB1.out.size), rfl⟩

set_option maxHeartbeats 8000000 in
set_option maxRecDepth 100000 in
theorem zread_out {l : List T.Tk} (hll : l.length ≤ 20000) (vl : Value) (p : Int) (hp : (l.length : Int) < p) (site lv : Int) (h2 : 1 ≤ site) (h3 : 1 ≤ lv) (w : World) (hx : RdK w w.heap.size vl l) (r : T.R T.Tr) (M : Nat)
    (hW : Hid (∀ w : World, RdK w w.heap.size vl l → Calls Tryz.prog 15 #[vl, stV (l.length) site (.slice none 0 0) 0, .int .i64 lv] w (WPost M r w)))
    (hE : Hid (∀ p er, r = .bad p er → (er != 0) = true)) (hG : Hid (∀ t s2, r = .ok t s2 → t.nodes ≤ 20000 ∧ (∀ z ∈ t.flat, z.name.size ≤ 2000000) ∧ (t.nodes ≤ 10000 → L.rightL t.flat = decide (t.deep ≤ 100)))) :
    Calls Tryz.prog 7 #[vl, .int .i64 (p), .int .i64 site, .int .i64 lv] w fun e w' => Below w.heap.size w w' ∧ OutZV w.heap.size (outOf (l.length) r) w' e := by
  have hu := hll
  clear hu
  have HC := hid (hW.out w hx)
  obtain ⟨Al, capl, rfl, -⟩ := id hx
  clear hx
  unfold stV at HC
  go_enter Tryz.func7, Tryz.ntmps7
  go_wp2_with fail
  refine (HC.out).mono ?_
  rintro e w1 ⟨hb1, hp⟩
  rcases hp with ⟨p1, er, v, ns, site1, A, n, c, hr, rfl, -, -⟩ | ⟨t, s1, v, A, n, c, hr, rfl, ho, hs⟩
  · have her := hE.out p1 er hr
    have HEQ : Hid (outOf (l.length) r = .bad p1 er) := hid (by rw [hr]; rfl)
    have HB1 := hid hb1
    clear hr hb1 HC
    unfold stV
    go_wp2
    go_quiet (fail)
    go_wp2
    rw [HEQ.out]
    exact bodyPost_ret (v := .tuple #[.slice none 0 0, .int .i64 0, .slice none 0 0, .int .i64 (p1 : Int), .int .i64 er]) (by simp [results, Tryz.results7, go_sem]) rfl ⟨below_drewN (HB1.out.trans ((below_new _).mono HB1.out.size)) _, rfl⟩
  · have hg := hG.out t s1 hr
    obtain ⟨Av, cv, rfl⟩ := row_slice ho
    obtain ⟨hg1, hg2, hg3⟩ := hg
    have hfl : t.flat.length = t.nodes := flat_len t
    have HB1 := hid hb1
    have HO1 := hid ho
    have HS1 := hid hs
    have HR := hid hr
    have HG2 := hid hg2
    have HG3 := hid hg3
    clear hr hb1 ho hs hg2 hg3 HC
    unfold stV
    by_cases hbig : 10000 < t.nodes
    · have HEQ : Hid (outOf (l.length) r = .bad (l.length) 3) := hid (by rw [HR.out]; show (if 10000 < t.nodes then _ else _) = _; rw [if_pos hbig])
      have hz : (10000 : Int) < (t.flat.length : Int) := by omega
      clear hbig hfl
      go_wp2
      rw [HEQ.out]
      exact bodyPost_ret (v := .tuple #[.slice none 0 0, .int .i64 0, .slice none 0 0, .int .i64 ((l.length : Int)), .int .i64 3]) (by simp [results, Tryz.results7, go_sem]) rfl ⟨HB1.out.trans ((below_new _).mono HB1.out.size), rfl⟩
    · have HHS := hid (HO1.out.below (below_new (.cells (st4 s1.pl s1.site A n c 0) 49)))
      have HRR := hid (refRight_any t.flat HG2.out (.slice Av t.flat.length cv) _ HHS.out.rd)
      have HM1 := hid (heap_alloc_new w1 (.cells (st4 s1.pl s1.site A n c 0) 49))
      rw [HG3.out (by omega)] at HRR
      have hz : (t.flat.length : Int) ≤ (10000 : Int) := by omega
      have hng : ¬ 10000 < t.nodes := hbig
      clear hbig
      by_cases hd : t.deep ≤ 100
      · have HEQ : Hid (outOf (l.length) r = .ok t s1.pl s1.sites) := hid (by rw [HR.out]; show (if 10000 < t.nodes then _ else _) = _; rw [if_neg hng, if_neg (by omega)])
        rw [decide_eq_true hd] at HRR
        clear hd hng hfl
        go_wp2_with fail
        refine (HRR.out).mono ?_
        rintro e w2 ⟨rfl, hb2⟩
        have hM2 := (hb2.block _ (heap_lt HM1.out)).trans HM1.out
        have k0 : ∀ j, w2.cell? ⟨w1.heap.size, j, none⟩ = (st4 s1.pl s1.site A n c 0)[j]? := fun j => Lib.cell_of_heap hM2 j
        have hk : w1.heap.size < w2.heap.size := heap_lt hM2
        have HB2 := hid ((below_new (w := w1) (.cells (st4 s1.pl s1.site A n c 0) 49)).trans (hb2.mono (below_new _).size))
        clear hb2 hM2 HRR
        go_wp2
        go_quiet (fail)
        go_wp2
        rw [HEQ.out]
        exact bodyPost_ret (v := .tuple #[.slice Av t.flat.length cv, .int .i64 (s1.pl : Int), .slice A n c, .int .i64 0, .int .i64 0]) (by simp [results, Tryz.results7, go_sem]) rfl ⟨below_drewN (HB1.out.trans (HB2.out.mono HB1.out.size)) _, _, _, rfl, HO1.out.below (below_drewN HB2.out _), HS1.out.below (below_drewN HB2.out _)⟩
      · have HEQ : Hid (outOf (l.length) r = .bad (l.length) 4) := hid (by rw [HR.out]; show (if 10000 < t.nodes then _ else _) = _; rw [if_neg hng, if_pos (by omega)])
        rw [decide_eq_false hd] at HRR
        clear hd hng hfl
        go_wp2_with fail
        refine (HRR.out).mono ?_
        rintro e w2 ⟨rfl, hb2⟩
        have HB2 := hid ((below_new (w := w1) (.cells (st4 s1.pl s1.site A n c 0) 49)).trans (hb2.mono (below_new _).size))
        clear hb2 HRR
        go_wp2
        rw [HEQ.out]
        exact bodyPost_ret (v := .tuple #[.slice none 0 0, .int .i64 0, .slice none 0 0, .int .i64 ((l.length : Int)), .int .i64 4]) (by simp [results, Tryz.results7, go_sem]) rfl ⟨HB1.out.trans (HB2.out.mono HB1.out.size), rfl⟩

theorem zread_any {l : List T.Tk} (hts : ∀ p, (tokAt l p).text.size ≤ 2000000) (hll : l.length ≤ 20000) (vl : Value) (p site lv : Int) (hsite : site ≤ 1000000000000000000) (w : World) (hx : RdK w w.heap.size vl l) :
    Calls Tryz.prog 7 #[vl, .int .i64 p, .int .i64 site, .int .i64 lv] w fun e w' => Below w.heap.size w w' ∧ OutZV w.heap.size (T.readF l p site lv) w' e := by
  by_cases h0 : p < 0 ∨ site < 1 ∨ lv < 1
  · have HE : Hid (T.readF l p site lv = .bad 0 1) := hid (by unfold T.readF; rw [if_pos h0])
    rw [HE.out]
    obtain ⟨Al, capl, rfl, -⟩ := id hx
    clear hx hts
    rcases h0 with h | h | h
    · go_enter Tryz.func7, Tryz.ntmps7
      go_wp2
      exact bodyPost_ret (v := .tuple #[.slice none 0 0, .int .i64 0, .slice none 0 0, .int .i64 0, .int .i64 1]) (by simp [results, Tryz.results7, go_sem]) rfl ⟨Below.refl _ _, rfl⟩
    · by_cases h1 : p < 0
      · go_enter Tryz.func7, Tryz.ntmps7
        go_wp2
        exact bodyPost_ret (v := .tuple #[.slice none 0 0, .int .i64 0, .slice none 0 0, .int .i64 0, .int .i64 1]) (by simp [results, Tryz.results7, go_sem]) rfl ⟨Below.refl _ _, rfl⟩
      · go_enter Tryz.func7, Tryz.ntmps7
        go_wp2
        exact bodyPost_ret (v := .tuple #[.slice none 0 0, .int .i64 0, .slice none 0 0, .int .i64 0, .int .i64 1]) (by simp [results, Tryz.results7, go_sem]) rfl ⟨Below.refl _ _, rfl⟩
    · by_cases h1 : p < 0
      · go_enter Tryz.func7, Tryz.ntmps7
        go_wp2
        exact bodyPost_ret (v := .tuple #[.slice none 0 0, .int .i64 0, .slice none 0 0, .int .i64 0, .int .i64 1]) (by simp [results, Tryz.results7, go_sem]) rfl ⟨Below.refl _ _, rfl⟩
      · by_cases h2 : site < 1
        · go_enter Tryz.func7, Tryz.ntmps7
          go_wp2
          exact bodyPost_ret (v := .tuple #[.slice none 0 0, .int .i64 0, .slice none 0 0, .int .i64 0, .int .i64 1]) (by simp [results, Tryz.results7, go_sem]) rfl ⟨Below.refl _ _, rfl⟩
        · go_enter Tryz.func7, Tryz.ntmps7
          go_wp2
          exact bodyPost_ret (v := .tuple #[.slice none 0 0, .int .i64 0, .slice none 0 0, .int .i64 0, .int .i64 1]) (by simp [results, Tryz.results7, go_sem]) rfl ⟨Below.refl _ _, rfl⟩
  rw [readF_out h0]
  have hql : min p.toNat l.length ≤ l.length := Nat.min_le_right _ _
  have hs0 : 0 ≤ site := by omega
  have hW : ∀ q : Nat, q ≤ l.length → ∀ w : World, RdK w w.heap.size vl l → Calls Tryz.prog 15 #[vl, stV q site (.slice none 0 0) 0, .int .i64 lv] w (WPost (20001 * (100 - lv.toNat + 1)) (T.typeF l (100 - lv.toNat) ⟨q, site, []⟩) w) := fun q hq w hx =>
    zwhole_any hts hll vl (100 - lv.toNat) lv (by omega) rfl ⟨q, site, []⟩ none 0 w hx (RdSt.nil w) hq (by simp) hs0 (by simp only; omega)
  have hE : ∀ q : Nat, q ≤ l.length → ∀ p er, T.typeF l (100 - lv.toNat) ⟨q, site, []⟩ = .bad p er → (er != 0) = true := fun q hq p er h => by
    have := (T.typeF_bad l (100 - lv.toNat) ⟨q, site, []⟩ hs0 hq p er h).1
    simp; omega
  have hG : ∀ q : Nat, ∀ t s2, T.typeF l (100 - lv.toNat) ⟨q, site, []⟩ = .ok t s2 → t.nodes ≤ 20000 ∧ (∀ z ∈ t.flat, z.name.size ≤ 2000000) ∧ (t.nodes ≤ 10000 → L.rightL t.flat = decide (t.deep ≤ 100)) := fun q t s2 h => by
    have hg := T.typeF_got l (100 - lv.toNat) ⟨q, site, []⟩ hs0 t s2 h
    refine ⟨?_, typeF_nam hts (100 - lv.toNat) ⟨q, site, []⟩ t s2 h, fun hn => ?_⟩
    · have h1 := hg.nodes; have h2 := hg.le; omega
    · exact L.rightL_deep hg.ok hg.bare (by show t.flat.length ≤ 10000; rw [flat_len]; exact hn)
  by_cases hp : (l.length : Int) < p
  · have e : min p.toNat l.length = l.length := by omega
    rw [e]
    exact zread_out hll vl p hp site lv (by omega) (by omega) w hx _ _ (hid (hW _ (Nat.le_refl _))) (hid (hE _ (Nat.le_refl _))) (hid (hG _))
  · obtain ⟨q, rfl⟩ : ∃ q : Nat, p = (q : Int) := ⟨p.toNat, by omega⟩
    have e : min (q : Int).toNat l.length = q := by omega
    rw [e] at hql ⊢
    exact zread_in hll vl q hql site lv (by omega) (by omega) w hx _ _ (hid (hW _ hql)) (hid (hE _ hql)) (hid (hG _))

end Go.Proofs.YtgghmhgbdknkaaaGreat
