/-
  The walks of the reference's Few, Ints, Without, With, Shrink, Grow, Least, Most. Conditions: rows of at most 1000 numbers.
-/
import Derived.Test.YtnhjiappmblnmaaCrR
namespace Go.Proofs.Ytnhjiappmblnmaa
open Go.RowKit

set_option maxHeartbeats 2000000 in
set_option maxRecDepth 100000 in
theorem rfew_any (l : List (List Int)) (v : Value) (w : World) (hv : RdZZ w w.heap.size v l) :
    Calls Try.prog 25 #[v] w fun e w' => e = .returned (.bool (Cr.fewB l)) ∧ Below w.heap.size w w' := by
  have HO := hid hv
  obtain ⟨A, cap, rfl, h1, h2⟩ := hv.val
  unfold maxLen at h2
  clear hv
  go_enter Try.func25, Try.ntmps25
  go_wp2
  go_loopw [3] (fun v3 wr => ∃ k : Nat, v3 = .int .i64 k ∧ k ≤ l.length ∧ k ≤ 20 ∧ Hid (∀ b ∈ l.take k, b.length ≤ 20 ∧ Cr.isSet b) ∧ Hid (Below w.heap.size w wr)) (fun v3 _ => l.length - (intOf v3).toNat)
  case atStart => exact ⟨0, rfl, by omega, by omega, hid (by simp), hid (Below.refl _ _)⟩
  case round =>
    obtain ⟨k, rfl, hk, hk20, hN, hB⟩ := hrel
    obtain ⟨wo, hwo⟩ : ∃ wo : World, wo = wr := ⟨_, rfl⟩
    subst hwo
    by_cases hlt : k < l.length
    · have hkz : (k : Int) < (l.length : Int) := by omega
      by_cases h20 : k = 20
      · have hb : ((k : Int) == 20) = true := by rw [beq_iff_eq]; omega
        have HE := hid (show Cr.fewB l = false by
          rw [Bool.eq_false_iff]
          intro h
          have := ((Cr.fewB_iff l).1 h).1
          omega)
        clear h20 hN
        go_wp2_with fail
        go_ret
        exact ⟨ret_bool HE.out.symm, hB.out⟩
      · have hb : ((k : Int) == 20) = false := by rw [beq_eq_false_iff_ne]; omega
        obtain ⟨g, o, A', c', rfl, -, c0, hr⟩ := HO.out.atv hB.out hlt
        have hst : l.take (k + 1) = l.take k ++ [l[k]] := List.take_succ_eq_append_getElem hlt
        have HST := hid hst
        have HM := hid (show l[k] ∈ l from List.getElem_mem hlt)
        obtain ⟨x, hx⟩ : ∃ x, l[k] = x := ⟨_, rfl⟩
        rw [hx] at c0 hr HST HM
        have hsz := hB.out.size
        have HR := hid (hr.mono hsz)
        clear hst hr hx h20
        by_cases hx20 : x.length ≤ 20
        · have hxz : ¬ (20 : Int) < (x.length : Int) := by omega
          have hxd : decide ((20 : Int) < (x.length : Int)) = false := decide_eq_false hxz
          have HS := hid (rset_any x (by omega) _ wo HR.out)
          have HX20 := hid hx20
          obtain ⟨q, hq⟩ : ∃ q, Cr.setB x = q := ⟨_, rfl⟩
          rw [hq] at HS
          have HQ := hid hq
          clear hq
          go_wp2_with fail
          refine (HS.out).mono ?_
          rintro e w1 ⟨rfl, b1⟩
          have HB1 := hid (hB.out.trans (b1.mono hsz))
          clear b1 HS hB
          cases q with
          | true =>
            have HN2 := hid (show ∀ y ∈ l.take (k + 1), y.length ≤ 20 ∧ Cr.isSet y from fun y hy => by
              rw [HST.out, List.mem_append, List.mem_singleton] at hy
              rcases hy with h | h
              · exact hN.out y h
              · rw [h]; exact ⟨HX20.out, (Cr.setB_iff x).1 HQ.out⟩)
            have hk3 : k + 1 ≤ 20 := by
              have : ¬ k = 20 := fun e => by rw [e] at hb; simp at hb
              omega
            clear hN
            go_wp2_with fail
            go_roundw
            case rel => exact ⟨k + 1, by go_num, by omega, hk3, HN2, HB1⟩
            case measure => simp [intOf]; omega
          | false =>
            have HE := hid (show Cr.fewB l = false by
              rw [Bool.eq_false_iff]
              intro h
              have := (((Cr.fewB_iff l).1 h).2 x HM.out).2
              rw [(Cr.setB_iff x).2 this] at HQ
              exact absurd HQ.out (by simp))
            clear hN
            go_wp2_with fail
            go_ret
            exact ⟨ret_bool HE.out.symm, HB1.out⟩
        · have hxz : (20 : Int) < (x.length : Int) := by omega
          have hxd : decide ((20 : Int) < (x.length : Int)) = true := decide_eq_true hxz
          have HE := hid (show Cr.fewB l = false by
            rw [Bool.eq_false_iff]
            intro h
            have := (((Cr.fewB_iff l).1 h).2 x HM.out).1
            omega)
          clear hN hx20
          go_wp2_with fail
          go_ret
          exact ⟨ret_bool HE.out.symm, hB.out⟩
    · have hkz : ¬ (k : Int) < (l.length : Int) := by omega
      have HE := hid (show Cr.fewB l = true by
        have := hN.out
        rw [List.take_of_length_le (by omega)] at this
        exact (Cr.fewB_iff l).2 ⟨by omega, this⟩)
      clear hN
      go_wp2_with fail
      go_ret
      exact ⟨ret_bool HE.out.symm, hB.out⟩

theorem eqDropZ {a b : List Int} {k : Nat} (h1 : k < a.length) (h2 : k < b.length) : (a.drop k = b.drop k) ↔ (a[k] = b[k] ∧ a.drop (k + 1) = b.drop (k + 1)) := by
  rw [List.drop_eq_getElem_cons h1, List.drop_eq_getElem_cons h2, List.cons.injEq]
set_option maxRecDepth 1000000 in
set_option maxHeartbeats 4000000 in
theorem ints_any (a b : List Int) (ha : a.length ≤ 100000) (va vb : Value) (w : World) (hxa : RdZ w w.heap.size va a) (hxb : RdZ w w.heap.size vb b) :
    Calls Try.prog 14 #[va, vb] w fun e w' => e = .returned (.bool (decide (a = b))) ∧ Below w.heap.size w w' := by
  have HA := hid hxa
  have HB := hid hxb
  obtain ⟨A1, c1, rfl, -⟩ := hxa.val
  obtain ⟨A2, c2, rfl, -⟩ := hxb.val
  clear hxa hxb
  go_enter Try.func14, Try.ntmps14
  by_cases hl : a.length = b.length
  · have hlz : ((a.length : Int) != (b.length : Int)) = false := by simp [hl]
    have HL := hid hl
    clear hl
    go_wp2_with fail
    go_loopw [5] (fun vi wr => ∃ k : Nat, vi = .int .i64 k ∧ k ≤ a.length ∧ Hid ((a.drop k = b.drop k) ↔ a = b) ∧ Hid (Below w.heap.size w wr)) (fun vi _ => a.length - (intOf vi).toNat)
    case atStart => exact ⟨0, rfl, by omega, hid (by simp), hid (Below.refl _ _)⟩
    case round =>
      obtain ⟨k, rfl, hk, hE, hbel⟩ := hrel
      obtain ⟨wo, hwo⟩ : ∃ wo : World, wo = wr := ⟨_, rfl⟩
      subst hwo
      by_cases hlt : k < a.length
      · have hkz : (k : Int) < (a.length : Int) := by omega
        have hkb : k < b.length := by have := HL.out; omega
        have hkbz : (k : Int) < (b.length : Int) := by omega
        obtain ⟨g1, o1, rfl, hg1, x1⟩ := HA.out.atv hbel.out hlt
        obtain ⟨g2, o2, rfl, hg2, x2⟩ := HB.out.atv hbel.out hkb
        have hst := hE.out
        rw [eqDropZ hlt hkb] at hst
        obtain ⟨x, hx⟩ : ∃ x, a[k] = x := ⟨_, rfl⟩
        obtain ⟨y, hy⟩ : ∃ y, b[k] = y := ⟨_, rfl⟩
        rw [hx] at x1 hst
        rw [hy] at x2 hst
        clear hE hx hy
        obtain ⟨n1, hn1⟩ : ∃ n1, n1 = a.length := ⟨_, rfl⟩
        obtain ⟨n2, hn2⟩ : ∃ n2, n2 = b.length := ⟨_, rfl⟩
        clear hn1 hn2
        by_cases e : x = y
        · have hxz : (x != y) = false := by simp [e]
          have HV := hid (show (a.drop (k + 1) = b.drop (k + 1)) ↔ a = b from ⟨fun h => hst.1 ⟨e, h⟩, fun h => (hst.2 h).2⟩)
          clear hst e
          go_wp2_with fail
          go_quiet (fail)
          obtain ⟨wq, hwq⟩ : ∃ wq, wo.drewN nq = wq := ⟨_, rfl⟩
          have HQ := hid (show Below w.heap.size w wq from hwq ▸ below_drewN hbel.out _)
          rw [hwq]
          clear hwq x1 x2
          go_wp2_with fail
          go_roundw
          case rel => exact ⟨k + 1, by go_num, by omega, HV, HQ⟩
          case measure => simp [intOf]; omega
        · have hxz : (x != y) = true := by simp; omega
          have HV := hid (show ¬ a = b from fun h => e (hst.2 h).1)
          clear hst e
          go_wp2_with fail
          go_quiet (fail)
          obtain ⟨wq, hwq⟩ : ∃ wq, wo.drewN nq = wq := ⟨_, rfl⟩
          have HQ := hid (show Below w.heap.size w wq from hwq ▸ below_drewN hbel.out _)
          rw [hwq]
          clear hwq x1 x2
          go_wp2_with fail
          go_ret
          exact ⟨ret_bool (by simp [HV.out]), HQ.out⟩
      · have hkz : ¬ (k : Int) < (a.length : Int) := by omega
        have HV := hid (show a = b from hE.out.1 (by rw [List.drop_of_length_le (by omega), List.drop_of_length_le (by have := HL.out; omega)]))
        clear hE
        go_wp2_with fail
        go_ret
        exact ⟨ret_bool (by simp [HV.out]), hbel.out⟩
  · have hlz : ((a.length : Int) != (b.length : Int)) = true := by simp; omega
    have HV := hid (show ¬ a = b from fun h => hl (by rw [h]))
    clear hl
    go_wp2_with fail
    go_ret
    exact ⟨ret_bool (by simp [HV.out]), Below.refl _ _⟩

def RowPost (l : List Int) (w : World) (e : Ending) (w' : World) : Prop := ∃ v', e = .returned v' ∧ OwnZ w.heap.size v' l w' ∧ Below w.heap.size w w'
theorem OwnZ.made (w : World) : OwnZ w.heap.size (.slice (some ⟨w.heap.size, 0, none⟩) 0 0) [] (w.alloc (.cells #[] 3)) := World.ownsRow_made w #[] 0 (Nat.le_refl _) (Nat.zero_le _) (by simp)
theorem InZ.without {s : List Int} (h : ∀ z ∈ s, InZ z) (n : Int) : ∀ z ∈ Cr.withoutL s n, InZ z := fun z hz => h z ((Cr.mem_without _ _ _).1 hz).1
theorem InZ.with {s : List Int} (h : ∀ z ∈ s, InZ z) {n : Int} (hn : InZ n) : ∀ z ∈ Cr.withL s n, InZ z := fun z hz => by
  rcases (Cr.mem_with _ _ _).1 hz with e | e
  · rw [e]; exact hn
  · exact h z e

set_option maxHeartbeats 4000000 in
set_option maxRecDepth 100000 in
theorem without_any (s : List Int) (hl : s.length ≤ 1000) (n : Int) (v : Value) (w : World) (hv : RdZ w w.heap.size v s) :
    Calls Try.prog 21 #[v, .int .i64 n] w (RowPost (Cr.withoutL s n) w) := by
  obtain ⟨i0, hi, hz0, hz1, hz2⟩ := info_parts info_int
  have HO := hid hv
  obtain ⟨A, cap, rfl, h1, h2⟩ := hv.val
  clear hv
  have HM := hid (OwnZ.made w)
  have HB0 := hid (below_new (w := w) (.cells #[] 3))
  go_enter Try.func21, Try.ntmps21
  go_wp2_with fail
  go_loopw [5, 6] (fun v5 v6 wr => ∃ k : Nat, v6 = .int .i64 k ∧ k ≤ s.length ∧ Hid (OwnZ w.heap.size v5 (Cr.withoutL (s.take k) n) wr) ∧ Hid (Below w.heap.size w wr)) (fun _ v6 _ => s.length - (intOf v6).toNat)
  case atStart => exact ⟨0, rfl, by omega, HM, HB0⟩
  case round =>
    obtain ⟨k, rfl, hk, hO, hB⟩ := hrel
    obtain ⟨wo, hwo⟩ : ∃ wo : World, wo = wr := ⟨_, rfl⟩
    subst hwo
    by_cases hlt : k < s.length
    · have hkz : (k : Int) < (s.length : Int) := by omega
      obtain ⟨g, o, rfl, -, c0⟩ := HO.out.atv hB.out hlt
      have hst : s.take (k + 1) = s.take k ++ [s[k]] := List.take_succ_eq_append_getElem hlt
      have HST := hid hst
      obtain ⟨x, hx⟩ : ∃ x, s[k] = x := ⟨_, rfl⟩
      rw [hx] at c0 HST
      have hle : (Cr.withoutL (s.take k) n).length ≤ k := by
        have h1 := List.length_filter_le (fun x => !decide (x = n)) (s.take k)
        have h2 : (s.take k).length ≤ k := List.length_take_le _ _
        unfold Cr.withoutL
        omega
      have hsz := hB.out.size
      clear hst hx
      by_cases hxn : x = n
      · have hb : (x != n) = false := by simp [hxn]
        have HO2 := hid (show OwnZ w.heap.size u5 (Cr.withoutL (s.take (k + 1)) n) wo by
          have e : Cr.withoutL (s.take (k + 1)) n = Cr.withoutL (s.take k) n := by
            rw [HST.out]
            unfold Cr.withoutL
            rw [List.filter_append]
            simp [hxn]
          rw [e]; exact hO.out)
        clear hxn hO
        go_wp2_with fail
        go_roundw
        case rel => exact ⟨k + 1, by go_num, by omega, HO2, hB⟩
        case measure => simp [intOf]; omega
      · have hb : (x != n) = true := by simp [hxn]
        have HE := hid (show Cr.withoutL (s.take (k + 1)) n = Cr.withoutL (s.take k) n ++ [x] by
          rw [HST.out]
          unfold Cr.withoutL
          rw [List.filter_append]
          simp [hxn])
        obtain ⟨q, hq⟩ : ∃ q, Cr.withoutL (s.take k) n = q := ⟨_, rfl⟩
        rw [hq] at hO HE hle
        have HOA := hid (show (wo.alloc (.cells #[.int .i64 x] 3)).ownsRow w.heap.size 3 1 u5 q.length (q.map (Value.int .i64)) from World.ownsRow.alloc hO.out _)
        clear hxn hO hq
        go_wp2_with (at_builtin; refine wpList_append_own _ rfl _ _ 22 rfl w.heap.size 3 i0 (.int .i64 0) 1 8 Try.underlying22 hi hz0 hz1 hz2 rfl (by decide) _ _ _ rfl HOA.out ⟨wo.heap.size, 0, none⟩ 1 1 [.int .i64 x] rfl rfl ?c1 ?c2 ?c3 ?c4 ?c5 ?_)
        case c1 => exact cell_one_new wo _ _
        case c2 => intro u hu; simp at hu; subst hu; rfl
        case c3 => unfold maxLen; omega
        case c4 => omega
        case c5 => simp; omega
        intro v' w2 hown hgrow _
        have B2 := hid ((hB.out.alloc hsz _).grown hgrow (by simp; omega) (fun k hk => (World.ownsRow.lt HOA.out k hk).1))
        have O2 := hid (show OwnZ w.heap.size v' (Cr.withoutL (s.take (k + 1)) n) w2 from by
          rw [HE.out]
          unfold OwnZ
          rw [List.map_append, List.length_append]
          exact hown)
        clear hown hgrow HOA
        go_wp2_with fail
        go_roundw
        case rel => exact ⟨k + 1, by go_num, by omega, O2, B2⟩
        case measure => simp [intOf]; omega
    · have hkz : ¬ (k : Int) < (s.length : Int) := by omega
      have HE := hid (show RowPost (Cr.withoutL s n) w (.returned u5) wo from by
        have := hO.out
        rw [List.take_of_length_le (by omega)] at this
        exact ⟨_, rfl, this, hB.out⟩)
      clear hO hB
      go_wp2_with fail
      go_ret
      exact HE.out

set_option maxHeartbeats 8000000 in
set_option maxRecDepth 100000 in
theorem with_any (s : List Int) (hl : s.length ≤ 1000) (n : Int) (v : Value) (w : World) (hv : RdZ w w.heap.size v s) :
    Calls Try.prog 24 #[v, .int .i64 n] w (RowPost (Cr.withL s n) w) := by
  obtain ⟨i0, hi, hz0, hz1, hz2⟩ := info_parts info_int
  have HO := hid hv
  obtain ⟨A, cap, rfl, h1, h2⟩ := hv.val
  have HM := hid (OwnZ.made w)
  have HB0 := hid (below_new (w := w) (.cells #[] 3))
  have HI := hid (in_any s n _ _ (hv.below HB0.out))
  clear hv
  obtain ⟨p, hp⟩ : ∃ p, decide (n ∈ s) = p := ⟨_, rfl⟩
  have HP := hid hp
  rw [hp] at HI
  clear hp
  go_enter Try.func24, Try.ntmps24
  go_wp2_with fail
  refine (HI.out).mono ?_
  rintro e w1 ⟨rfl, rfl⟩
  clear HI
  go_wp2_with fail
  go_loopw [5, 6, 7] (fun v5 v6 v7 wr => ∃ (k : Nat) (q : Bool) (l : List Int), v7 = .int .i64 k ∧ v6 = .bool q ∧ k ≤ s.length ∧ l.length ≤ k + 1 ∧ Hid (q = false → l.length ≤ k) ∧ Hid (l ++ Cr.insM n q (s.drop k) = Cr.withL s n) ∧ Hid (OwnZ w.heap.size v5 l wr) ∧ Hid (Below w.heap.size w wr)) (fun _ _ v7 _ => s.length - (intOf v7).toNat)
  case atStart => exact ⟨0, p, [], rfl, rfl, by omega, by simp, hid (fun _ => by simp), hid (by rw [← HP.out]; exact Cr.insM_with n s), HM, HB0⟩
  case round =>
    obtain ⟨k, q, l, rfl, rfl, hk, hll, hLQ, hE, hO, hB⟩ := hrel
    obtain ⟨wo, hwo⟩ : ∃ wo : World, wo = wr := ⟨_, rfl⟩
    subst hwo
    have hsz := hB.out.size
    by_cases hlt : k < s.length
    · have hkz : (k : Int) < (s.length : Int) := by omega
      obtain ⟨g, o, rfl, -, c0⟩ := HO.out.atv hB.out hlt
      have HCK := hid (fun (W : World) (h : Below w.heap.size w W) => HO.out.atv h hlt)
      have hdr : s.drop k = s[k] :: s.drop (k + 1) := List.drop_eq_getElem_cons hlt
      rw [hdr] at hE
      obtain ⟨x, hx⟩ : ∃ x, s[k] = x := ⟨_, rfl⟩
      rw [hx] at c0 hE HCK
      have HC2 := hid (show ∀ W, Below w.heap.size w W → W.cell? ⟨g, o + k, none⟩ = some (.int .i64 x) from fun W h => by
        obtain ⟨g', o', e', -, c'⟩ := HCK.out W h
        simp only [Option.some.injEq, Addr.mk.injEq, and_true] at e'
        obtain ⟨rfl, rfl⟩ := e'
        exact c')
      clear hdr hx HCK
      have HAPP := hid (show ∀ (W : World) (l0 : List Int) (u0 : Value) (y : Int), Below w.heap.size w W → OwnZ w.heap.size u0 l0 W → (W.alloc (.cells #[.int .i64 y] 3)).ownsRow w.heap.size 3 1 u0 l0.length (l0.map (Value.int .i64)) ∧ w.heap.size ≤ (W.alloc (.cells #[.int .i64 y] 3)).heap.size ∧
          ∀ v' w2, w2.ownsRow w.heap.size 3 1 v' (l0.length + 1) (l0.map (Value.int .i64) ++ [.int .i64 y]) → (W.alloc (.cells #[.int .i64 y] 3)).grownBy w2 u0.ownBlock → Hid (OwnZ w.heap.size v' (l0 ++ [y]) w2) ∧ Hid (Below w.heap.size w w2) from fun W l0 u0 y hb ho =>
        ⟨World.ownsRow.alloc ho _, by have := hb.size; simp; omega, fun v' w2 hown hgrow => ⟨hid (by
          unfold OwnZ
          rw [List.map_append, List.length_append]
          exact hown), hid ((hb.alloc hb.size _).grown hgrow (by have := hb.size; simp; omega) (fun k hk => (World.ownsRow.lt ho k hk).1))⟩⟩)
      by_cases hput : q = false ∧ n < x
      · obtain ⟨hq, hnx⟩ := hput
        subst hq
        have hd : decide (n < x) = true := decide_eq_true hnx
        have HE := hid (show (l ++ [n]) ++ [x] ++ Cr.insM n true (s.drop (k + 1)) = Cr.withL s n by
          rw [← hE.out]
          show _ = l ++ (if !false && decide (n < x) then n :: x :: Cr.insM n true (s.drop (k + 1)) else x :: Cr.insM n false (s.drop (k + 1)))
          rw [hd]
          simp)
        obtain ⟨a1, a2, a3⟩ := HAPP.out wo l u5 n hB.out hO.out
        have A1 := hid a1
        have A2 := hid a2
        have A3 := hid a3
        clear a1 a2 a3
        go_wp2_with (at_builtin; refine wpList_append_own _ rfl _ _ 22 rfl w.heap.size 3 i0 (.int .i64 0) 1 8 Try.underlying22 hi hz0 hz1 hz2 rfl (by decide) _ _ _ rfl A1.out ⟨wo.heap.size, 0, none⟩ 1 1 [.int .i64 n] rfl rfl (cell_one_new _ _ _) (ints_oneCell .i64 [n]) (by unfold maxLen; omega) (by omega) A2.out ?_)
        intro v2 w2 hown hgrow _
        obtain ⟨O2, B2⟩ := A3.out v2 w2 hown hgrow
        clear A1 A2 A3 hown hgrow
        have c2 := HC2.out w2 B2.out
        obtain ⟨a1, a2, a3⟩ := HAPP.out w2 (l ++ [n]) v2 x B2.out O2.out
        have hln : (l ++ [n]).length = l.length + 1 := by simp
        rw [hln] at a1 a3
        have A1 := hid a1
        have A2 := hid a2
        have A3 := hid a3
        clear a1 a2 a3 hln c0
        go_wp2_with (at_builtin; refine wpList_append_own _ rfl _ _ 22 rfl w.heap.size 3 i0 (.int .i64 0) 1 8 Try.underlying22 hi hz0 hz1 hz2 rfl (by decide) _ _ _ rfl A1.out ⟨w2.heap.size, 0, none⟩ 1 1 [.int .i64 x] rfl rfl (cell_one_new _ _ _) (ints_oneCell .i64 [x]) (by unfold maxLen; omega) (by omega) A2.out ?_)
        intro v3 w3 hown hgrow _
        obtain ⟨O3, B3⟩ := A3.out v3 w3 (by rw [List.map_append, List.append_assoc]; exact hown) hgrow
        clear A1 A2 A3 hown hgrow
        go_wp2_with fail
        go_roundw
        case rel => exact ⟨k + 1, true, l ++ [n] ++ [x], by go_num, rfl, by omega, by have := hLQ.out trivial; simp; omega, hid (fun h => by cases h), HE, O3, B3⟩
        case measure => simp [intOf]; omega
      · have HE := hid (show (l ++ [x]) ++ Cr.insM n q (s.drop (k + 1)) = Cr.withL s n by
          rw [← hE.out]
          show _ = l ++ (if !q && decide (n < x) then n :: x :: Cr.insM n true (s.drop (k + 1)) else x :: Cr.insM n q (s.drop (k + 1)))
          have : (!q && decide (n < x)) = false := by
            cases q with
            | true => rfl
            | false => simp only [Bool.not_false, Bool.true_and, decide_eq_false_iff_not]; exact fun h => hput ⟨rfl, h⟩
          rw [this]
          simp)
        obtain ⟨a1, a2, a3⟩ := HAPP.out wo l u5 x hB.out hO.out
        have A1 := hid a1
        have A2 := hid a2
        have A3 := hid a3
        clear a1 a2 a3
        have HLQ2 := hid (show q = false → (l ++ [x]).length ≤ k + 1 from fun h => by have := hLQ.out h; simp; omega)
        have hl1 : (l ++ [x]).length ≤ k + 1 + 1 := by simp; omega
        cases q with
        | false =>
          have hd : decide (n < x) = false := decide_eq_false fun h => hput ⟨rfl, h⟩
          have hd2 : ¬ n < x := fun h => hput ⟨rfl, h⟩
          clear hput hLQ
          go_wp2_with (at_builtin; refine wpList_append_own _ rfl _ _ 22 rfl w.heap.size 3 i0 (.int .i64 0) 1 8 Try.underlying22 hi hz0 hz1 hz2 rfl (by decide) _ _ _ rfl A1.out ⟨wo.heap.size, 0, none⟩ 1 1 [.int .i64 x] rfl rfl (cell_one_new _ _ _) (ints_oneCell .i64 [x]) (by unfold maxLen; omega) (by omega) A2.out ?_)
          intro v2 w2 hown hgrow _
          obtain ⟨O2, B2⟩ := A3.out v2 w2 hown hgrow
          clear A1 A2 A3 hown hgrow
          go_wp2_with fail
          go_roundw
          case rel => exact ⟨k + 1, false, l ++ [x], by go_num, rfl, by omega, hl1, hid (fun _ => HLQ2.out trivial), HE, O2, B2⟩
          case measure => simp [intOf]; omega
        | true =>
          clear hput hLQ
          go_wp2_with (at_builtin; refine wpList_append_own _ rfl _ _ 22 rfl w.heap.size 3 i0 (.int .i64 0) 1 8 Try.underlying22 hi hz0 hz1 hz2 rfl (by decide) _ _ _ rfl A1.out ⟨wo.heap.size, 0, none⟩ 1 1 [.int .i64 x] rfl rfl (cell_one_new _ _ _) (ints_oneCell .i64 [x]) (by unfold maxLen; omega) (by omega) A2.out ?_)
          intro v2 w2 hown hgrow _
          obtain ⟨O2, B2⟩ := A3.out v2 w2 hown hgrow
          clear A1 A2 A3 hown hgrow
          go_wp2_with fail
          go_roundw
          case rel => exact ⟨k + 1, true, l ++ [x], by go_num, rfl, by omega, hl1, hid (fun h => by cases h), HE, O2, B2⟩
          case measure => simp [intOf]; omega
    · have hkz : ¬ (k : Int) < (s.length : Int) := by omega
      have hE2 := hE.out
      rw [List.drop_of_length_le (by omega)] at hE2
      cases q with
      | true =>
        have HE := hid (show RowPost (Cr.withL s n) w (.returned u5) wo from by
          rw [← hE2]
          simp only [Cr.insM, if_true, List.append_nil]
          exact ⟨_, rfl, hO.out, hB.out⟩)
        clear hO hB hE hE2 hLQ
        go_wp2_with fail
        go_ret
        exact HE.out
      | false =>
        have HE := hid (show l ++ [n] = Cr.withL s n by rw [← hE2]; simp [Cr.insM])
        have HOA := hid (show (wo.alloc (.cells #[.int .i64 n] 3)).ownsRow w.heap.size 3 1 u5 l.length (l.map (Value.int .i64)) from World.ownsRow.alloc hO.out _)
        clear hO hE hE2 hLQ
        go_wp2_with (at_builtin; refine wpList_append_own _ rfl _ _ 22 rfl w.heap.size 3 i0 (.int .i64 0) 1 8 Try.underlying22 hi hz0 hz1 hz2 rfl (by decide) _ _ _ rfl HOA.out ⟨wo.heap.size, 0, none⟩ 1 1 [.int .i64 n] rfl rfl (cell_one_new _ _ _) (ints_oneCell .i64 [n]) (by unfold maxLen; omega) (by omega) (by simp; omega) ?_)
        intro v' w2 hown hgrow _
        have HF := hid (show RowPost (Cr.withL s n) w (.returned v') w2 from ⟨_, rfl, by
          rw [← HE.out]
          unfold OwnZ
          rw [List.map_append, List.length_append]
          exact hown, (hB.out.alloc hsz _).grown hgrow (by simp; omega) (fun k hk => (World.ownsRow.lt HOA.out k hk).1)⟩)
        clear hown hgrow HOA
        go_wp2_with fail
        go_ret
        exact HF.out
end Go.Proofs.Ytnhjiappmblnmaa
