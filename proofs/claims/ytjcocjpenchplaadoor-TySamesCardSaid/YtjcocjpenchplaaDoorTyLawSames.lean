/-
  TySames is true for any three types. No conditions but the card's own.
-/
import Derived.Test.YtjcocjpenchplaaDoorRows
import Derived.Test.YtjcocjpenchplaaDoorCards
import Derived.Test.YtjcocjpenchplaaDoorTie
import Derived.Test.YtjcocjpenchplaaDoorTyLq
import Derived.Test.YtjcocjpenchplaaDoorTyAl
import Derived.Test.YtjcocjpenchplaaDoorTyT
import Derived.Test.YtjcocjpenchplaaDoorTyAp
import Derived.SevenTiedAt
namespace Go.Proofs.YtjcocjpenchplaaDoor.tySames
open Go.ChangeShapes Go.WideShapes Go.ChangeAt Go.RowKit

theorem own : ownKnob Tryd.prog.godebug = none := by kernel_rfl

def zr (x : L.Nd) : L.Nd := if x.kind = 0 then ⟨x.kind, x.name, 0⟩ else x
def nz (l : List L.Nd) (k : Nat) : List L.Nd := (l.take k).map zr ++ l.drop k

theorem nz_len (l : List L.Nd) (k : Nat) : (nz l k).length = l.length := by simp [nz]; omega
theorem nz_zero (l : List L.Nd) : nz l 0 = l := by simp [nz]
theorem nz_all (l : List L.Nd) : nz l l.length = l.map zr := by simp [nz]
theorem nz_step (l : List L.Nd) (k : Nat) (h : k < l.length) : nz l (k + 1) = (nz l k).set k (zr l[k]) := by
  have e : ((l.take k).map zr).length = k := by simp; omega
  unfold nz
  rw [List.take_succ_eq_append_getElem h, List.map_append, List.drop_eq_getElem_cons h, List.set_append_right _ _ (by omega), e, Nat.sub_self, List.set_cons_zero, List.append_assoc]
  rfl
theorem nz_at (l : List L.Nd) (k : Nat) (h : k < l.length) : (nz l k)[k]'(by rw [nz_len]; exact h) = l[k] := by
  have e : ((l.take k).map zr).length = k := by simp; omega
  have h2 := List.getElem?_eq_getElem (l := nz l k) (i := k) (by rw [nz_len]; exact h)
  have h3 : (nz l k)[k]? = some l[k] := by
    unfold nz
    rw [List.getElem?_append_right (by omega), e, Nat.sub_self, List.drop_eq_getElem_cons h]
    rfl
  rw [h3] at h2
  injection h2 with h2
  exact h2.symm
theorem nz_keep (l : List L.Nd) (k : Nat) (h : k < l.length) (hk : l[k].kind ≠ 0) : nz l (k + 1) = nz l k := by
  rw [nz_step l k h, show zr l[k] = l[k] by unfold zr; rw [if_neg hk]]
  rw [← nz_at l k h, List.set_getElem_self]
theorem cellsN_setN (l : List L.Nd) (k : Nat) (h : k < l.length) (z : Int) : cellsN (l.set k ⟨l[k].kind, l[k].name, z⟩) = (cellsN l).set (k * 3 + 2) (.int .i64 z) := by
  induction l generalizing k with
  | nil => simp at h
  | cons x r ih =>
    cases k with
    | zero => rfl
    | succ k =>
      have := ih k (by simpa using h)
      simp only [List.getElem_cons_succ, List.set_cons_succ, cellsN_cons]
      rw [this, show (k + 1) * 3 + 2 = k * 3 + 2 + 3 by omega]
      rfl

theorem sameN_zr (x y : L.Nd) : L.sameN x y = decide (zr x = zr y) := by
  rw [Bool.eq_iff_iff, L.sameN_iff, decide_eq_true_eq]
  obtain ⟨k, s, n⟩ := x
  obtain ⟨k2, s2, n2⟩ := y
  unfold zr
  by_cases h : k = 0 <;> by_cases h2 : k2 = 0 <;> simp [h, h2]
  omega
theorem sameL_zr (a b : List L.Nd) : L.sameL a b = decide (a.map zr = b.map zr) := by
  induction a generalizing b with
  | nil => cases b <;> simp [L.sameL]
  | cons x a ih =>
    cases b with
    | nil => simp [L.sameL]
    | cons y b => rw [L.sameL, sameN_zr, ih]; simp

theorem names_of {l : List L.Nd} (h : L.namedL l = true) : l.length ≤ 200 := by
  simp only [L.namedL, Bool.and_eq_true, decide_eq_true_eq, List.all_eq_true] at h
  exact h.1

/-- A node's number in a row of the call's own is turned to 0. -/
theorem Own.zero {B g cap n : Nat} {l : List L.Nd} {w : World} (h : Own B (.slice (some ⟨g, 0, none⟩) n cap) l w) (hn : n = l.length) (k : Nat) (hk : k < l.length) :
    Own B (.slice (some ⟨g, 0, none⟩) n cap) (l.set k ⟨l[k].kind, l[k].name, 0⟩) (w.setCell ⟨g, k * 3 + 2, none⟩ (.int .i64 0)) := by
  subst hn
  have := (World.ownsRow.stored h (k * 3 + 2) (.int .i64 0)).1
  unfold Own
  rw [List.length_set, cellsN_setN l k hk 0]
  exact this

set_option maxHeartbeats 4000000 in
set_option maxRecDepth 100000 in
theorem tySames_true {W : World} (va : Value) (la : List L.Nd) (ha : Rd W W.heap.size va la) (_ : ∀ y ∈ la, y.n ≤ 9223372036854775807) (vb : Value) (lb : List L.Nd) (hb : Rd W W.heap.size vb lb) (_ : ∀ y ∈ lb, y.n ≤ 9223372036854775807) (vc : Value) (lc : List L.Nd) (hc : Rd W W.heap.size vc lc) (_ : ∀ y ∈ lc, y.n ≤ 9223372036854775807) (hT : Tab W) :
    Calls Tryd.prog 9 #[va, vb, vc] W fun e w' => e = .returned (.bool true) ∧ Below W.heap.size W w' := by
  have NA := hid (named_any la va W ha)
  have NB := hid (named_any lb vb W hb)
  have NC := hid (named_any lc vc W hc)
  have HA := hid ha
  have HB := hid hb
  have HC := hid hc
  have HT := hid hT
  obtain ⟨Aa, ca, rfl, hca, hcm, -⟩ := ha
  obtain ⟨Ab, cb, rfl, hcb, hcm2, -⟩ := hb
  obtain ⟨Ac, cc, rfl, -⟩ := hc
  clear hT
  cases hna : L.namedL la with
  | false =>
    rw [hna] at NA
    clear hna
    go_enter Tryd.func9, Tryd.ntmps9
    go_wp2_with fail
    refine (NA.out).mono ?_
    rintro e w1 ⟨rfl, rfl⟩
    go_wp2_with fail
    refine (alive_any _ HT.out).mono ?_
    rintro e w1 ⟨rfl, h1⟩
    go_wp2
    go_ret
    exact ⟨rfl, h1⟩
  | true =>
  rw [hna] at NA
  have hla := names_of hna
  clear hna
  cases hnb : L.namedL lb with
  | false =>
    rw [hnb] at NB
    clear hnb
    go_enter Tryd.func9, Tryd.ntmps9
    go_wp2_with fail
    refine (NA.out).mono ?_
    rintro e w1 ⟨rfl, rfl⟩
    go_wp2_with fail
    refine (NB.out).mono ?_
    rintro e w1 ⟨rfl, rfl⟩
    go_wp2_with fail
    refine (alive_any _ HT.out).mono ?_
    rintro e w1 ⟨rfl, h1⟩
    go_wp2
    go_ret
    exact ⟨rfl, h1⟩
  | true =>
  rw [hnb] at NB
  have hlb := names_of hnb
  clear hnb
  cases hnc : L.namedL lc with
  | false =>
    rw [hnc] at NC
    clear hnc
    go_enter Tryd.func9, Tryd.ntmps9
    go_wp2_with fail
    refine (NA.out).mono ?_
    rintro e w1 ⟨rfl, rfl⟩
    go_wp2_with fail
    refine (NB.out).mono ?_
    rintro e w1 ⟨rfl, rfl⟩
    go_wp2_with fail
    refine (NC.out).mono ?_
    rintro e w1 ⟨rfl, rfl⟩
    go_wp2_with fail
    refine (alive_any _ HT.out).mono ?_
    rintro e w1 ⟨rfl, h1⟩
    go_wp2
    go_ret
    exact ⟨rfl, h1⟩
  | true =>
  rw [hnc] at NC
  clear hnc
  go_enter Tryd.func9, Tryd.ntmps9
  go_wp2_with fail
  refine (NA.out).mono ?_
  rintro e w1 ⟨rfl, rfl⟩
  go_wp2_with fail
  refine (NB.out).mono ?_
  rintro e w1 ⟨rfl, rfl⟩
  go_wp2_with fail
  refine (NC.out).mono ?_
  rintro e w1 ⟨rfl, rfl⟩
  go_wp2_with (at_builtin; refine wpList_app rfl _ _ rfl rfl w1.heap.size _ _ [] la rfl (World.ownsRow_made w1 #[] 0 (Nat.le_refl _) (Nat.zero_le _) (by simp)) rfl ?c1 ?c2 ?c3 ?_)
  case c1 => exact (HA.out.alloc _).mono (by simp)
  case c2 => simp; omega
  case c3 => simp
  intro v1 wA o1 g1
  have b1 : Below w1.heap.size w1 wA := (below_new _).grown g1 (by simp) (by intro k hk; simp [Value.ownBlock] at hk; omega)
  have HL1 : Hid (∀ k, v1.ownBlock = some k → w1.heap.size ≤ k ∧ k < wA.heap.size) := hid o1.lt
  obtain ⟨A1, c1, hv1, hn1, hm1, -⟩ := o1.rd
  subst hv1
  have HO1 := hid o1
  have HB1 := hid b1
  clear o1 g1 b1
  go_wp2_with (at_builtin; refine wpList_app rfl _ _ rfl rfl wA.heap.size _ _ [] lb rfl (World.ownsRow_made wA #[] 0 (Nat.le_refl _) (Nat.zero_le _) (by simp)) rfl ?c1 ?c2 ?c3 ?_)
  case c1 => exact ((HB.out.below HB1.out).mono HB1.out.size).alloc _ |>.mono (by simp)
  case c2 => simp; omega
  case c3 => simp
  intro v2 wB o2 g2
  have b2 : Below wA.heap.size wA wB := (below_new _).grown g2 (by simp) (by intro k hk; simp [Value.ownBlock] at hk; omega)
  have HL2 : Hid (∀ k, v2.ownBlock = some k → wA.heap.size ≤ k) := hid fun k hk => (o2.lt k hk).1
  obtain ⟨A2, c2, hv2, hn2, hm2, -⟩ := o2.rd
  subst hv2
  have HO2 := hid o2
  have HO1b := hid (HO1.out.below b2)
  have HB2 := hid (HB1.out.trans (b2.mono HB1.out.size))
  clear o2 g2 b2 HO1
  unfold maxLen at hm1 hm2
  go_wp2
  go_loopw [9] (fun vi wr => ∃ k : Nat, k ≤ la.length ∧ vi = .int .i64 k ∧ Own w1.heap.size (.slice A1 la.length c1) (nz la k) wr ∧ Own wA.heap.size (.slice A2 lb.length c2) lb wr ∧ Below w1.heap.size w1 wr) (fun vi _ => la.length - (intOf vi).toNat)
  case atStart => exact ⟨0, by omega, rfl, by rw [nz_zero]; exact HO1b.out, HO2.out, HB2.out⟩
  case round =>
    obtain ⟨k, hk, rfl, o1, o2, hb⟩ := hrel
    by_cases hlt : k < la.length
    · have hkn : k < (nz la k).length := by rw [nz_len]; exact hlt
      obtain ⟨g, cap, hv, -⟩ := o1.slice (by intro h; rw [h] at hkn; simp at hkn)
      simp only [Value.slice.injEq] at hv
      obtain ⟨rfl, -, -⟩ := hv
      obtain ⟨hg1, hg2⟩ := HL1.out g rfl
      have o1' := o1
      unfold Own at o1'
      rw [nz_len] at o1'
      have d0 := (World.ownsRow.cellAt o1' (k * 3) (by omega)).trans (show (cellsN (nz la k))[k * 3]? = some (.int .i64 (la[k]'hlt).kind) by rw [(cellsN_get (nz la k) k hkn).1, nz_at])
      have d1 := (World.ownsRow.cellAt o1' (k * 3 + 2) (by omega)).trans (cellsN_get (nz la k) k hkn).2.2
      have f1 := World.ownsRow.frozenAt o1' (k * 3 + 2)
      have HO1 := hid o1
      have HO2k := hid o2
      have HBk := hid hb
      clear o1 o1' o2 hb
      by_cases hz : (la[k]'hlt).kind = 0
      · have HZ : Hid (nz la (k + 1) = (nz la k).set k ⟨(nz la k)[k].kind, (nz la k)[k].name, 0⟩) := hid (by rw [nz_step la k hlt, nz_at la k hlt]; unfold zr; rw [if_pos hz])
        rw [hz] at d0
        clear hz
        go_wp2
        go_roundw
        case rel =>
          refine ⟨k + 1, by omega, by go_num, ?_, ?_, HBk.out.setCell (p := ⟨g, k * 3 + 2, none⟩) hg1 _⟩
          · rw [HZ.out]
            exact Own.zero HO1.out (nz_len la k).symm k hkn
          · exact ownsRow_setCell_below HO2k.out (a := ⟨g, k * 3 + 2, none⟩) hg2 _
        case measure => simp [intOf]; omega
      · have HZ : Hid (nz la (k + 1) = nz la k) := hid (nz_keep la k hlt hz)
        have hz2 : ((la[k]'hlt).kind == 0) = false := by simpa using hz
        generalize (la[k]'hlt).kind = kk at *
        clear hz
        go_wp2
        go_roundw
        case rel =>
          refine ⟨k + 1, by omega, by go_num, ?_, HO2k.out, HBk.out⟩
          rw [HZ.out]
          exact HO1.out
        case measure => simp [intOf]; omega
    · obtain rfl : k = la.length := by omega
      rw [nz_all] at o1
      have HO1 := hid o1
      have HO2k := hid o2
      have HBk := hid hb
      clear o1 o2 hb HO2 HO1b
      go_wp2
      go_loopw [10] (fun vi wr => ∃ k : Nat, k ≤ lb.length ∧ vi = .int .i64 k ∧ Own w1.heap.size (.slice A1 la.length c1) (la.map zr) wr ∧ Own wA.heap.size (.slice A2 lb.length c2) (nz lb k) wr ∧ Below w1.heap.size w1 wr) (fun vi _ => lb.length - (intOf vi).toNat)
      case atStart => exact ⟨0, by omega, rfl, HO1.out, by rw [nz_zero]; exact HO2k.out, HBk.out⟩
      case round =>
        obtain ⟨k, hk, rfl, o1, o2, hb⟩ := hrel
        by_cases hlt : k < lb.length
        · have hkn : k < (nz lb k).length := by rw [nz_len]; exact hlt
          obtain ⟨g, cap, hv, -⟩ := o2.slice (by intro h; rw [h] at hkn; simp at hkn)
          simp only [Value.slice.injEq] at hv
          obtain ⟨rfl, -, -⟩ := hv
          have hg1 := HL2.out g rfl
          have hAw : w1.heap.size ≤ wA.heap.size := HB1.out.size
          have hne : (Value.slice A1 la.length c1).ownBlock ≠ some g := fun h => by have := (HL1.out g h).2; omega
          have o2' := o2
          unfold Own at o2'
          rw [nz_len] at o2'
          have d0 := (World.ownsRow.cellAt o2' (k * 3) (by omega)).trans (show (cellsN (nz lb k))[k * 3]? = some (.int .i64 (lb[k]'hlt).kind) by rw [(cellsN_get (nz lb k) k hkn).1, nz_at])
          have d1 := (World.ownsRow.cellAt o2' (k * 3 + 2) (by omega)).trans (cellsN_get (nz lb k) k hkn).2.2
          have f1 := World.ownsRow.frozenAt o2' (k * 3 + 2)
          have HO1 := hid o1
          have HO2k := hid o2
          have HBk := hid hb
          clear o1 o2' o2 hb
          by_cases hz : (lb[k]'hlt).kind = 0
          · have HZ : Hid (nz lb (k + 1) = (nz lb k).set k ⟨(nz lb k)[k].kind, (nz lb k)[k].name, 0⟩) := hid (by rw [nz_step lb k hlt, nz_at lb k hlt]; unfold zr; rw [if_pos hz])
            rw [hz] at d0
            clear hz
            go_wp2
            go_roundw
            case rel =>
              refine ⟨k + 1, by omega, by go_num, ?_, ?_, HBk.out.setCell (p := ⟨g, k * 3 + 2, none⟩) (Nat.le_trans hAw hg1) _⟩
              · exact ownsRow_setCell_other HO1.out (a := ⟨g, k * 3 + 2, none⟩) hne _
              · rw [HZ.out]
                exact Own.zero HO2k.out (nz_len lb k).symm k hkn
            case measure => simp [intOf]; omega
          · have HZ : Hid (nz lb (k + 1) = nz lb k) := hid (nz_keep lb k hlt hz)
            have hz2 : ((lb[k]'hlt).kind == 0) = false := by simpa using hz
            generalize (lb[k]'hlt).kind = kk at *
            clear hz
            go_wp2
            go_roundw
            case rel =>
              refine ⟨k + 1, by omega, by go_num, HO1.out, ?_, HBk.out⟩
              rw [HZ.out]
              exact HO2k.out
            case measure => simp [intOf]; omega
        · obtain rfl : k = lb.length := by omega
          rw [nz_all] at o2
          have HO1 := hid o1
          have HO2k := hid o2
          have HBk := hid hb
          have HTk := hid (HT.out.below hb HT.out.size)
          have A9 := hid ((HA.out.below hb).mono hb.size)
          have B9 := hid ((HB.out.below hb).mono hb.size)
          have C9 := hid ((HC.out.below hb).mono hb.size)
          clear o1 o2 hb HA HB HC HT NA NB NC
          go_wp2_with fail
          refine (alive_any _ HTk.out).mono ?_
          rintro e w5 ⟨rfl, h0⟩
          have HX0 := hid (HO1.out.below h0)
          have HY0 := hid (HO2k.out.below h0)
          have HB0 := hid (HBk.out.trans (h0.mono HBk.out.size))
          have A0 := hid ((A9.out.below h0).mono h0.size)
          have B0 := hid ((B9.out.below h0).mono h0.size)
          have C0 := hid ((C9.out.below h0).mono h0.size)
          clear h0 HO1 HO2k HBk HTk A9 B9 C9 HL1 HL2
          have HC := hid (same_any la lb _ _ _ A0.out B0.out)
          go_wp2_with fail
          refine (HC.out).mono ?_
          rintro e w6 ⟨rfl, h0⟩
          have HX1 := hid (HX0.out.below h0)
          have HY1 := hid (HY0.out.below h0)
          have HB1 := hid (HB0.out.trans (h0.mono HB0.out.size))
          have A1 := hid ((A0.out.below h0).mono h0.size)
          have B1 := hid ((B0.out.below h0).mono h0.size)
          have C1 := hid ((C0.out.below h0).mono h0.size)
          clear h0 HC A0 B0 C0 HB0 HX0 HY0
          have HC := hid (one_any _ _ _ _ _ HX1.out.rd HY1.out.rd)
          rw [← sameL_zr] at HC
          go_wp2_with fail
          refine (HC.out).mono ?_
          rintro e w7 ⟨rfl, h0⟩
          have HB2 := hid (HB1.out.trans (h0.mono HB1.out.size))
          have A2 := hid ((A1.out.below h0).mono h0.size)
          have B2 := hid ((B1.out.below h0).mono h0.size)
          have C2 := hid ((C1.out.below h0).mono h0.size)
          clear h0 HC A1 B1 C1 HB1 HX1 HY1
          have e2 : L.sameL lb la = L.sameL la lb := by rw [sameL_zr, sameL_zr, Bool.eq_iff_iff]; simp [eq_comm]
          have e3 : L.sameL la la = true := by rw [sameL_zr]; simp
          have E4 : Hid (L.sameL la lb = true → L.sameL lb lc = true → L.sameL la lc = true) := hid (by
            simp only [sameL_zr, decide_eq_true_eq]
            exact fun h h2 => h.trans h2)
          have HE2 := hid e2
          have HE3 := hid e3
          clear e2 e3
          cases h1 : L.sameL la lb with
          | false =>
            rw [h1] at HE2
            have H1 := hid h1
            clear h1
            have HC := hid (same_any la lb _ _ _ A2.out B2.out)
            rw [H1.out] at HC
            go_wp2_with fail
            refine (HC.out).mono ?_
            rintro e w8 ⟨rfl, h0⟩
            have HB3 := hid (HB2.out.trans (h0.mono HB2.out.size))
            have A3 := hid ((A2.out.below h0).mono h0.size)
            have B3 := hid ((B2.out.below h0).mono h0.size)
            have C3 := hid ((C2.out.below h0).mono h0.size)
            clear h0 HC A2 B2 C2 HB2
            have HC := hid (same_any lb la _ _ _ B3.out A3.out)
            rw [HE2.out] at HC
            go_wp2_with fail
            refine (HC.out).mono ?_
            rintro e w9 ⟨rfl, h0⟩
            have HB4 := hid (HB3.out.trans (h0.mono HB3.out.size))
            have A4 := hid ((A3.out.below h0).mono h0.size)
            have B4 := hid ((B3.out.below h0).mono h0.size)
            have C4 := hid ((C3.out.below h0).mono h0.size)
            clear h0 HC A3 B3 C3 HB3
            have HC := hid (same_any la la _ _ _ A4.out A4.out)
            rw [HE3.out] at HC
            go_wp2_with fail
            refine (HC.out).mono ?_
            rintro e w10 ⟨rfl, h0⟩
            have HB5 := hid (HB4.out.trans (h0.mono HB4.out.size))
            have A5 := hid ((A4.out.below h0).mono h0.size)
            have B5 := hid ((B4.out.below h0).mono h0.size)
            have C5 := hid ((C4.out.below h0).mono h0.size)
            clear h0 HC A4 B4 C4 HB4
            have HC := hid (same_any la lb _ _ _ A5.out B5.out)
            rw [H1.out] at HC
            go_wp2_with fail
            refine (HC.out).mono ?_
            rintro e w11 ⟨rfl, h0⟩
            have HB6 := hid (HB5.out.trans (h0.mono HB5.out.size))
            have A6 := hid ((A5.out.below h0).mono h0.size)
            have B6 := hid ((B5.out.below h0).mono h0.size)
            have C6 := hid ((C5.out.below h0).mono h0.size)
            clear h0 HC A5 B5 C5 HB5
            go_wp2
            go_ret
            exact ⟨rfl, HB6.out⟩
          | true =>
            rw [h1] at HE2
            have H1 := hid h1
            clear h1
            cases h2 : L.sameL lb lc with
            | false =>
              have H2 := hid h2
              clear h2
              have HC := hid (same_any la lb _ _ _ A2.out B2.out)
              rw [H1.out] at HC
              go_wp2_with fail
              refine (HC.out).mono ?_
              rintro e w8 ⟨rfl, h0⟩
              have HB3 := hid (HB2.out.trans (h0.mono HB2.out.size))
              have A3 := hid ((A2.out.below h0).mono h0.size)
              have B3 := hid ((B2.out.below h0).mono h0.size)
              have C3 := hid ((C2.out.below h0).mono h0.size)
              clear h0 HC A2 B2 C2 HB2
              have HC := hid (same_any lb la _ _ _ B3.out A3.out)
              rw [HE2.out] at HC
              go_wp2_with fail
              refine (HC.out).mono ?_
              rintro e w9 ⟨rfl, h0⟩
              have HB4 := hid (HB3.out.trans (h0.mono HB3.out.size))
              have A4 := hid ((A3.out.below h0).mono h0.size)
              have B4 := hid ((B3.out.below h0).mono h0.size)
              have C4 := hid ((C3.out.below h0).mono h0.size)
              clear h0 HC A3 B3 C3 HB3
              have HC := hid (same_any la la _ _ _ A4.out A4.out)
              rw [HE3.out] at HC
              go_wp2_with fail
              refine (HC.out).mono ?_
              rintro e w10 ⟨rfl, h0⟩
              have HB5 := hid (HB4.out.trans (h0.mono HB4.out.size))
              have A5 := hid ((A4.out.below h0).mono h0.size)
              have B5 := hid ((B4.out.below h0).mono h0.size)
              have C5 := hid ((C4.out.below h0).mono h0.size)
              clear h0 HC A4 B4 C4 HB4
              have HC := hid (same_any la lb _ _ _ A5.out B5.out)
              rw [H1.out] at HC
              go_wp2_with fail
              refine (HC.out).mono ?_
              rintro e w11 ⟨rfl, h0⟩
              have HB6 := hid (HB5.out.trans (h0.mono HB5.out.size))
              have A6 := hid ((A5.out.below h0).mono h0.size)
              have B6 := hid ((B5.out.below h0).mono h0.size)
              have C6 := hid ((C5.out.below h0).mono h0.size)
              clear h0 HC A5 B5 C5 HB5
              have HC := hid (same_any lb lc _ _ _ B6.out C6.out)
              rw [H2.out] at HC
              go_wp2_with fail
              refine (HC.out).mono ?_
              rintro e w12 ⟨rfl, h0⟩
              have HB7 := hid (HB6.out.trans (h0.mono HB6.out.size))
              have A7 := hid ((A6.out.below h0).mono h0.size)
              have B7 := hid ((B6.out.below h0).mono h0.size)
              have C7 := hid ((C6.out.below h0).mono h0.size)
              clear h0 HC A6 B6 C6 HB6
              go_wp2
              go_ret
              exact ⟨rfl, HB7.out⟩
            | true =>
              have H2 := hid h2
              have H3 := hid (E4.out H1.out h2)
              clear h2
              have HC := hid (same_any la lb _ _ _ A2.out B2.out)
              rw [H1.out] at HC
              go_wp2_with fail
              refine (HC.out).mono ?_
              rintro e w8 ⟨rfl, h0⟩
              have HB3 := hid (HB2.out.trans (h0.mono HB2.out.size))
              have A3 := hid ((A2.out.below h0).mono h0.size)
              have B3 := hid ((B2.out.below h0).mono h0.size)
              have C3 := hid ((C2.out.below h0).mono h0.size)
              clear h0 HC A2 B2 C2 HB2
              have HC := hid (same_any lb la _ _ _ B3.out A3.out)
              rw [HE2.out] at HC
              go_wp2_with fail
              refine (HC.out).mono ?_
              rintro e w9 ⟨rfl, h0⟩
              have HB4 := hid (HB3.out.trans (h0.mono HB3.out.size))
              have A4 := hid ((A3.out.below h0).mono h0.size)
              have B4 := hid ((B3.out.below h0).mono h0.size)
              have C4 := hid ((C3.out.below h0).mono h0.size)
              clear h0 HC A3 B3 C3 HB3
              have HC := hid (same_any la la _ _ _ A4.out A4.out)
              rw [HE3.out] at HC
              go_wp2_with fail
              refine (HC.out).mono ?_
              rintro e w10 ⟨rfl, h0⟩
              have HB5 := hid (HB4.out.trans (h0.mono HB4.out.size))
              have A5 := hid ((A4.out.below h0).mono h0.size)
              have B5 := hid ((B4.out.below h0).mono h0.size)
              have C5 := hid ((C4.out.below h0).mono h0.size)
              clear h0 HC A4 B4 C4 HB4
              have HC := hid (same_any la lb _ _ _ A5.out B5.out)
              rw [H1.out] at HC
              go_wp2_with fail
              refine (HC.out).mono ?_
              rintro e w11 ⟨rfl, h0⟩
              have HB6 := hid (HB5.out.trans (h0.mono HB5.out.size))
              have A6 := hid ((A5.out.below h0).mono h0.size)
              have B6 := hid ((B5.out.below h0).mono h0.size)
              have C6 := hid ((C5.out.below h0).mono h0.size)
              clear h0 HC A5 B5 C5 HB5
              have HC := hid (same_any lb lc _ _ _ B6.out C6.out)
              rw [H2.out] at HC
              go_wp2_with fail
              refine (HC.out).mono ?_
              rintro e w12 ⟨rfl, h0⟩
              have HB7 := hid (HB6.out.trans (h0.mono HB6.out.size))
              have A7 := hid ((A6.out.below h0).mono h0.size)
              have B7 := hid ((B6.out.below h0).mono h0.size)
              have C7 := hid ((C6.out.below h0).mono h0.size)
              clear h0 HC A6 B6 C6 HB6
              have HC := hid (same_any la lc _ _ _ A7.out C7.out)
              rw [H3.out] at HC
              go_wp2_with fail
              refine (HC.out).mono ?_
              rintro e w13 ⟨rfl, h0⟩
              have HB8 := hid (HB7.out.trans (h0.mono HB7.out.size))
              have A8 := hid ((A7.out.below h0).mono h0.size)
              have B8 := hid ((B7.out.below h0).mono h0.size)
              have C8 := hid ((C7.out.below h0).mono h0.size)
              clear h0 HC A7 B7 C7 HB7
              go_wp2
              go_ret
              exact ⟨rfl, HB8.out⟩

set_option maxRecDepth 100000 in
theorem tySames_lifted (os : Os) (started : os.Started) (H : Type) (enc : TypeId × Value → H) :
    ReturnsInHanded {} Tryd.checked os 9 .any (fun w args => (Rows.tySamesSpec.pre enc Tryd.prog Tryd.f9 [] false w args ∧ laidMetH Tryd.prog laidAll w) ∧ sizedMet enc Tryd.prog Tryd.f9 (OpenSpec.ofChange Rows.tySamesSpec) false w args)
      (Rows.tySamesSpec.post enc Tryd.prog Tryd.f9 false true false false) := by
  refine returnsInHanded_of_change_and (C := Tryd.checked) (X := fun w _ => laidMetH Tryd.prog laidAll w) (fun _ _ _ hh h => h.of_heap hh) own started (by kernel_rfl) Tryd.func9
    (ChangeSpec.witness_shaped (enc := enc) (C := Tryd.checked) (os := os) (X := fun w _ => laidMetH Tryd.prog laidAll w) false (World.doorLaid Tryd.prog 400 os) #[.slice none 0 0, .slice none 0 0, .slice none 0 0] 8 rfl (World.shaped_of_RefB (by kernel_rfl) (by kernel_rfl)) (by kernel_rfl) (by kernel_rfl) (by kernel_rfl) (door_met os _)) ?_
  intro W base args ds gs before hval0 hW _ _ hL _
  have hT := tab_of_laid hL
  have hlts := hW.lt
  have hval : ∀ (j : Nat) t v, Tryd.f9.params[j]? = some t → args[j]? = some v → Value.okWide Tryd.prog W .any base t v := hval0
  have hW' := hW
  obtain ⟨p, q, hA0, hV, rfl, hfz, hnd⟩ := hW
  have hA : DataW.TrodAll enc Tryd.prog W 0 (fun _ => true) true Tryd.f9.params.toList args.toList ds p := hA0
  rw [Tryd.params9] at hA hval
  obtain ⟨v0, vs0, d0, ds0, p0, q0, hargs, rfl, rfl, h0, r0⟩ := trodAll_cons hA
  obtain ⟨v1, vs1, d1, ds1, p1, q1, hargs1, rfl, rfl, h1, r1⟩ := trodAll_cons r0
  obtain ⟨v2, vs2, d2, ds2, p2, q2, hargs2, rfl, rfl, h2, r2⟩ := trodAll_cons r1
  obtain ⟨hn, rfl, rfl⟩ := trodAll_nil r2
  obtain rfl : args = #[v0, v1, v2] := by cases args; simp_all
  obtain ⟨rfl, rfl⟩ := trodVars_none hV
  obtain ⟨sa0, sl0, sc0, hsv0⟩ := okWide_slice Tryd.underlying23 (hval 0 23 v0 rfl rfl)
  obtain ⟨sa1, sl1, sc1, hsv1⟩ := okWide_slice Tryd.underlying23 (hval 1 23 v1 rfl rfl)
  obtain ⟨sa2, sl2, sc2, hsv2⟩ := okWide_slice Tryd.underlying23 (hval 2 23 v2 rfl rfl)
  obtain ⟨fuel0, hf0⟩ := h0
  obtain ⟨u0, l0, hu0, hR0, hn0⟩ := rd_of_trod hf0
  obtain rfl : v0 = u0 := by
    rw [hsv0] at hu0
    rw [hsv0]
    simpa [Value.cells] using hu0
  obtain ⟨fuel1, hf1⟩ := h1
  obtain ⟨u1, l1, hu1, hR1, hn1⟩ := rd_of_trod hf1
  obtain rfl : v1 = u1 := by
    rw [hsv1] at hu1
    rw [hsv1]
    simpa [Value.cells] using hu1
  obtain ⟨fuel2, hf2⟩ := h2
  obtain ⟨u2, l2, hu2, hR2, hn2⟩ := rd_of_trod hf2
  obtain rfl : v2 = u2 := by
    rw [hsv2] at hu2
    rw [hsv2]
    simpa [Value.cells] using hu2
  clear hA0 hval0
  simp only [List.append_nil] at hW' hlts
  refine (tySames_true v0 l0 hR0 hn0 v1 l1 hR1 hn1 v2 l2 hR2 hn2 hT).mono fun e W' ⟨he, hB⟩ => ?_
  subst he
  refine ⟨_, rfl, _, _, _, [], (p0 ++ (p1 ++ (p2 ++ []))), [], by simpa using hW', ?_, ?_, ?_, hB.frame _, fun h => by cases h⟩
  · exact trodAll_cons_mk (shut_bool Tryd.underlying4 _) trodAll_mk0
  · exact (trodAll_cons_mk (Below.trod (by kernel_rfl) (by kernel_rfl) (of_decide_eq_true (by kernel_rfl)) ⟨fuel0, hf0⟩ hB (fun x hx => hlts x (by simp [hx]))) (trodAll_cons_mk (Below.trod (by kernel_rfl) (by kernel_rfl) (of_decide_eq_true (by kernel_rfl)) ⟨fuel1, hf1⟩ hB (fun x hx => hlts x (by simp [hx]))) (trodAll_cons_mk (Below.trod (by kernel_rfl) (by kernel_rfl) (of_decide_eq_true (by kernel_rfl)) ⟨fuel2, hf2⟩ hB (fun x hx => hlts x (by simp [hx]))) trodAll_mk0)))
  · rfl

/-- TySames: the row. -/
theorem tySames_holds : Rows.TySamesSaid :=
  OpenClaim.holds_of_wide 9 Tryd.f9 rfl rfl rfl rfl rfl rfl rfl ⟨rfl, rfl, rfl, rfl, rfl⟩ rfl rfl rfl rfl rfl (by kernel_rfl) Tryd.func9 (by kernel_rfl)
    (of_decide_eq_true (by kernel_rfl)) (by unfold Func.isWrapper; first | (rw [if_pos (by decide +kernel)]; kernel_rfl) | (rw [if_neg (by decide +kernel)]; exact ⟨rfl, rfl⟩))
    (fun os started H enc _ => tySames_lifted os started H enc)

/-- TySames: the given statement, the card: the three tables are tied to the program's text. -/
theorem tySames_card : Rows.TySamesCardSaid :=
  Claim7.holds_tied_plain_at .later [] [.data, .data, .data] true Rows.tySamesCard.stood.harness false
    tySames_holds (fun _ h => by cases h) (by kernel_rfl) (fun _ h => by cases h) tySames_row_tie rfl ⟨rfl, rfl⟩ (by kernel_rfl) rfl
    (fun f fn hf hfn => by
      obtain rfl : f = 9 := Option.some.inj ((show Tryd.prog.funcNamed "leaven/leavenlaw03.TySames" = some 9 by kernel_rfl).symm.trans hf) |>.symm
      obtain rfl : fn = Tryd.f9 := (Option.some.inj (Tryd.func9.symm.trans hfn)).symm
      exact ⟨by kernel_rfl, fun j t ht => by
        rw [Tryd.params9] at ht
        have hm : t ∈ [23, 23, 23] := by simpa using Array.mem_of_getElem? ht
        have hall : ([23, 23, 23].all fun u => !Tryd.prog.wantsStandIn u) = true := by kernel_rfl
        exact (show Tryd.prog.wantsStandIn t = false by simpa using List.all_eq_true.1 hall t hm)⟩)
    (by kernel_rfl)

end Go.Proofs.YtjcocjpenchplaaDoor.tySames
