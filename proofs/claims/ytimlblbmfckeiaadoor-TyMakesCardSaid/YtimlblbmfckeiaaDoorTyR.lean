/-
  The walk of ty.Right, with the closure that visits a tree. Conditions: a slice that reads as nodes, labels of at most 2000000 bytes.
-/
import Derived.Test.YtimlblbmfckeiaaDoorTyU
import Derived.Lib.QuietBelow
import Derived.Laws.EntriesVeiled
namespace Go.Proofs.YtimlblbmfckeiaaDoor.L
open Go

theorem n_small {x : Nd} (h : numbered x = true) (h0 : 0 < many x) : 0 ≤ x.n ∧ x.n ≤ 50 := by
  unfold numbered at h
  unfold many at h0
  repeat' split at h
  all_goals simp at h
  all_goals repeat' split at h0
  all_goals omega

end Go.Proofs.YtimlblbmfckeiaaDoor.L
namespace Go.Proofs.YtimlblbmfckeiaaDoor
open Go.RowKit Go.Sort

/-- What the closure stands on: the slice's box, the place's box, its own box. -/
structure VSt (l : List L.Nd) (v : Value) (g T A V p : Nat) (w : World) : Prop where
  t : w.heap[T]? = some (.cells #[v] 23 (0, 0))
  a : w.heap[A]? = some (.cells #[.int .i64 p] 3 (0, 0))
  f : w.heap[V]? = some (.cells #[.func (.func g) #[] #[.pointer (some ⟨T, 0, none⟩), .pointer (some ⟨A, 0, none⟩), .pointer (some ⟨V, 0, none⟩)]] 69 (0, 0))
  rd : Rd w A v l
  ta : T < A
  av : A < V

theorem VSt.keep {l : List L.Nd} {v : Value} {g T A V p q : Nat} {w w' : World} (h : VSt l v g T A V p w) (hg : w.grownBy w' (some A)) (ha : w'.heap[A]? = some (.cells #[.int .i64 q] 3 (0, 0))) : VSt l v g T A V q w' := by
  have hT := heap_lt h.t
  have hV := heap_lt h.f
  have := h.ta
  have := h.av
  exact ⟨(hg.block T hT (by simp; omega)).trans h.t, ha, (hg.block V hV (by simp; omega)).trans h.f, h.rd.grown hg (Nat.le_refl _), h.ta, h.av⟩

theorem Rd.at_slice {w : World} {B b o n cap : Nat} {l : List L.Nd} (h : Rd w B (.slice (some ⟨b, o, none⟩) n cap) l) (hn : l ≠ []) :
    ∀ (i : Nat) (h : i < l.length), w.cell? ⟨b, o + i * 3, none⟩ = some (.int .i64 l[i].kind) ∧ w.cell? ⟨b, o + i * 3 + 1, none⟩ = some (.string l[i].name) ∧ w.cell? ⟨b, o + i * 3 + 2, none⟩ = some (.int .i64 l[i].n) := by
  obtain ⟨A, c, hv, _, _, _, hc⟩ := h
  obtain ⟨b', o', hA, _, hx⟩ := hc hn
  rw [hA] at hv
  simp only [Value.slice.injEq, Option.some.injEq, Addr.mk.injEq] at hv
  obtain ⟨⟨rfl, rfl, _⟩, _⟩ := hv
  exact hx

theorem grown_refl (w : World) (r : Option Nat) : w.grownBy w r := ⟨rfl, rfl, rfl, Nat.le_refl _, fun _ _ _ => rfl⟩
theorem grown_trans {a b c : World} {A : Nat} (h : a.grownBy b (some A)) (k : b.grownBy c (some A)) : a.grownBy c (some A) :=
  ⟨k.os.trans h.os, k.tape.trans h.tape, k.output.trans h.output, Nat.le_trans h.size k.size, fun i hi hn => (k.block i (Nat.lt_of_lt_of_le hi h.size) hn).trans (h.block i hi hn)⟩
theorem grown_below {a b c : World} {A : Nat} (h : a.grownBy b (some A)) (k : Below b.heap.size b c) : a.grownBy c (some A) :=
  ⟨k.os.trans h.os, k.tape.trans h.tape, k.output.trans h.output, Nat.le_trans h.size k.size, fun i hi hn => (k.block i (Nat.lt_of_lt_of_le hi h.size)).trans (h.block i hi hn)⟩

set_option maxHeartbeats 2000000 in
set_option maxRecDepth 100000 in
theorem visit_any (l : List L.Nd) (hnm : ∀ x ∈ l, x.name.size ≤ 2000000) (v : Value) (T A V : Nat) (m : Nat) : ∀ (d p : Nat) (w : World), d + m = 101 → 1 ≤ d → p < l.length → VSt l v 47 T A V p w →
    Calls Tryd.prog 47 #[.int .i64 d, .pointer (some ⟨T, 0, none⟩), .pointer (some ⟨A, 0, none⟩), .pointer (some ⟨V, 0, none⟩)] w fun e w' =>
      e = .returned (.bool (L.visitF m (l.drop p)).isSome) ∧ w.grownBy w' (some A) ∧ ∀ r, L.visitF m (l.drop p) = some r → ∃ q : Nat, w'.heap[A]? = some (.cells #[.int .i64 q] 3 (0, 0)) ∧ q ≤ l.length ∧ l.drop q = r := by
  induction m with
  | zero =>
    intro d p w hd h1 hp hS
    obtain rfl : d = 101 := by omega
    obtain ⟨A0, cap, rfl, hl1, hl2, _, hcx⟩ := hS.rd
    obtain ⟨b, o, rfl, hb, hcx⟩ := hcx (by rintro rfl; simp at hp)
    obtain ⟨x0, x1, x2⟩ := hcx p hp
    have cT := Lib.cell_of_heap hS.t 0
    have cA := Lib.cell_of_heap hS.a 0
    unfold maxLen at hl2
    clear hS hcx hnm
    generalize l[p] = X at *
    obtain ⟨k1, s1, n1⟩ := X
    go_enter Tryd.func47, Tryd.ntmps47
    go_wp2
    go_ret
    exact ⟨rfl, World.grownBy_alloc _ _ _, fun r hr => by cases hr⟩
  | succ m ih =>
    intro d p w hd h1 hp hS
    have IH := hid ih
    have HS := hid hS
    obtain ⟨A0, cap, rfl, hl1, hl2, _, hcx⟩ := hS.rd
    obtain ⟨b, o, rfl, hb, hcx⟩ := hcx (by rintro rfl; simp at hp)
    obtain ⟨x0, x1, x2⟩ := hcx p hp
    have HC := hid hcx
    have cT := Lib.cell_of_heap hS.t 0
    have cA := Lib.cell_of_heap hS.a 0
    unfold maxLen at hl2
    have hdr : Hid (l.drop p = l[p] :: l.drop (p + 1)) := hid (List.drop_eq_getElem_cons hp)
    have hAt := heap_lt hS.a
    have fA : w.frozen? ⟨A, 0, none⟩ = false := Lib.frozen_of_heap hS.a 0
    have HNM := hid hnm
    clear hS hcx hnm ih
    generalize l[p] = X at *
    obtain ⟨k1, s1, n1⟩ := X
    have hd2 : d ≤ 100 := by omega
    have hnew : Hid (∀ w1 : World, Below (w.alloc (.cells #[.int .i64 k1, .string s1, .int .i64 n1] 44)).heap.size (w.alloc (.cells #[.int .i64 k1, .string s1, .int .i64 n1] 44)) w1 →
        w.grownBy w1 (some A) ∧ w1.heap[w.heap.size]? = some (.cells #[.int .i64 k1, .string s1, .int .i64 n1] 44 (0, 0)) ∧ w1.heap[A]? = some (.cells #[.int .i64 p] 3 (0, 0)) ∧ w.heap.size < w1.heap.size) := hid fun w1 hb1 =>
      ⟨grown_below (World.grownBy_alloc w _ _) hb1, (hb1.block _ (by simp)).trans (heap_alloc_new w _), (hb1.block _ (by simp; omega)).trans ((heap_alloc_old w _ hAt).trans HS.out.a), by have := hb1.size; simp at this; omega⟩
    by_cases hnum : L.numbered ⟨k1, s1, n1⟩ = true
    · have hu := numbered_any k1 n1 s1
      simp only [hnum] at hu
      have HU := hid hu
      have hV : Hid (L.visitF (m + 1) (l.drop p) = L.kidsF (L.visitF m) ⟨k1, s1, n1⟩ (L.many ⟨k1, s1, n1⟩).toNat 0 ⟨#[]⟩ (l.drop (p + 1))) := hid (by rw [hdr.out, L.visitF, if_pos hnum])
      have hmany := L.many_of_numbered hnum
      obtain ⟨c, hc⟩ : ∃ c : Nat, L.many ⟨k1, s1, n1⟩ = c := ⟨(L.many ⟨k1, s1, n1⟩).toNat, by omega⟩
      have hmn := many_any k1 n1 s1
      rw [hc] at hmn hV hmany
      have HM := hid hmn
      have hns : 0 < c → 0 ≤ n1 ∧ n1 ≤ 50 := fun h0 => L.n_small hnum (by rw [hc]; omega)
      have HNS := hid hns
      clear hu hnum hmn hns
      go_enter Tryd.func47, Tryd.ntmps47
      go_wp2_with fail
      refine (HU.out _).mono ?_
      rintro e w1 ⟨rfl, hb1⟩
      obtain ⟨hg1, hN1, hA1, hz1⟩ := hnew.out w1 hb1
      have cA1 := Lib.cell_of_heap hA1 0
      have fA1 : w1.frozen? ⟨A, 0, none⟩ = false := Lib.frozen_of_heap hA1 0
      have cN0 := Lib.cell_of_heap hN1 0
      have cN1 := Lib.cell_of_heap hN1 1
      have cN2 := Lib.cell_of_heap hN1 2
      simp only [List.getElem?_toArray] at cN0 cN1 cN2
      have hne : A ≠ w.heap.size := by omega
      have hne2 : w.heap.size ≠ A := by omega
      clear fA cA cT x0 x1 x2
      go_wp2_with fail
      refine (HM.out _).mono ?_
      rintro e w2 ⟨rfl, hb2⟩
      have hg2 : w.grownBy w2 (some A) := by
        refine grown_below (grown_trans hg1 ?_) hb2
        exact ⟨rfl, rfl, rfl, by simp, fun i hi hn => heap_setCell_other w1 ⟨A, 0, none⟩ i _ (fun h => hn (by rw [h]))⟩
      have hA2 : w2.heap[A]? = some (.cells #[.int .i64 ((p + 1 : Nat) : Int)] 3 (0, 0)) := (hb2.block A (by simp; omega)).trans (heap_setCell_same w1 A 0 _ _ _ hA1)
      have hN2 : w2.heap[w.heap.size]? = some (.cells #[.int .i64 k1, .string s1, .int .i64 n1] 44 (0, 0)) := (hb2.block _ (by simp; omega)).trans ((heap_setCell_other w1 _ _ _ (by simp; omega)).trans hN1)
      have HS2 : Hid (VSt l (.slice (some ⟨b, o, none⟩) l.length cap) 47 T A V (p + 1) w2) := hid (HS.out.keep hg2 hA2)
      clear hb2 hb1 hg1 hN1 hA1 cA1 fA1 cN0 cN1 cN2
      go_wp2
      go_loopw [7, 24] (fun v7 v24 wr => ∃ (k q : Nat) (bf : ByteArray), v7 = .string bf ∧ v24 = .int .i64 k ∧ k ≤ c ∧ q ≤ l.length ∧ VSt l (.slice (some ⟨b, o, none⟩) l.length cap) 47 T A V q wr ∧ w.grownBy wr (some A) ∧ wr.heap[w.heap.size]? = some (.cells #[.int .i64 k1, .string s1, .int .i64 n1] 44 (0, 0)) ∧
        Hid (L.kidsF (L.visitF m) ⟨k1, s1, n1⟩ (c - k) k bf (l.drop q) = L.visitF (m + 1) (l.drop p))) (fun _ v24 _ => c - (intOf v24).toNat)
      case atStart => exact ⟨0, p + 1, _, rfl, rfl, by omega, by omega, HS2.out, hg2, hN2, hid (by rw [hV.out]; rfl)⟩
      case round =>
        obtain ⟨k, q, bf, rfl, rfl, hk, hq, hS, hg, hN, hK⟩ := hrel
        have hN0 := Lib.cell_of_heap hN 0
        have hN1 := Lib.cell_of_heap hN 1
        have hN2 := Lib.cell_of_heap hN 2
        simp only [List.getElem?_toArray] at hN0 hN1 hN2
        have cT := Lib.cell_of_heap hS.t 0
        have cA := Lib.cell_of_heap hS.a 0
        have cV := Lib.cell_of_heap hS.f 0
        have hza := heap_lt hS.a
        have HSR := hid hS
        have HR := hid hS.rd
        by_cases hkc : k < c
        · obtain ⟨c', hc'⟩ : ∃ c', c - k = c' + 1 := ⟨c - k - 1, by omega⟩
          rw [hc'] at hK
          by_cases hql : q = l.length
          · subst hql
            have hz : Hid (L.visitF (m + 1) (l.drop p) = none) := hid (by rw [← hK.out, List.drop_length, L.kidsF])
            go_wp2
            have kT := cell_regrown cT
            have kA := cell_regrown cA
            clear cT cA cV hN0 hN1 hN2 hS hK
            refine wp_region_quiet_below (by kernel_rfl) (by kernel_rfl) ?_
            repeat (go_big_quiet_step (fail))
            refine wpQuiet_nil ?_
            intro _ hw'
            obtain ⟨⟨nq, osq⟩, hw''⟩ := hw'
            subst hw''
            have hB3 := below_regrown wr nq osq
            go_wp2
            go_ret
            exact ⟨ret_bool (by rw [hz.out]; rfl), grown_below hg hB3, fun r hr => by rw [hz.out] at hr; cases hr⟩
          · have hq2 : q < l.length := by omega
            have hcy := hS.rd.at_slice (by rintro rfl; simp at hq2)
            obtain ⟨y0, y1, y2⟩ := hcy q hq2
            have hsy : l[q].name.size ≤ 2000000 := HNM.out _ (List.getElem_mem hq2)
            have hdq : Hid (l.drop q = l[q] :: l.drop (q + 1)) := hid (List.drop_eq_getElem_cons hq2)
            clear hcy
            generalize l[q] = Y at *
            obtain ⟨k2, s2, n2⟩ := Y
            have hn : -9223372036854775807 ≤ n1 ∧ n1 ≤ 9223372036854775807 := by have := HNS.out (by omega); omega
            have hql2 : ((q : Int) == (l.length : Int)) = false := by simp; omega
            have hms := fun W => mayStand_any k1 n1 k k2 n2 s1 bf s2 hsy hn W
            cases hmay : L.mayStand ⟨k1, s1, n1⟩ k bf ⟨k2, s2, n2⟩ with
            | false =>
              simp only [hmay] at hms
              have cM := fun d os => Calls.regrown_of (hms (grow (redrawn wr d) os))
              have CM := hid cM
              have hz : Hid (L.visitF (m + 1) (l.drop p) = none) := hid (by rw [← hK.out, hdq.out, L.kidsF, if_neg (by rw [hmay]; simp)])
              go_wp2
              have kT := cell_regrown cT
              have kA := cell_regrown cA
              have kN0 := cell_regrown hN0
              have kN1 := cell_regrown hN1
              have kN2 := cell_regrown hN2
              have ky0 := cell_regrown y0
              have ky1 := cell_regrown y1
              have ky2 := cell_regrown y2
              clear cT cA cV hN0 hN1 hN2 hS hK hms cM y0 y1 y2
              refine wp_region_quiet_below (by kernel_rfl) (by kernel_rfl) ?_
              repeat (go_big_quiet_step (exact CM.out _ _))
              refine wpQuiet_nil ?_
              intro _ hw'
              obtain ⟨⟨nq, osq⟩, hw''⟩ := hw'
              subst hw''
              have hB3 := below_regrown wr nq osq
              go_wp2
              go_ret
              exact ⟨ret_bool (by rw [hz.out]; rfl), grown_below hg hB3, fun r hr => by rw [hz.out] at hr; cases hr⟩
            | true =>
              simp only [hmay] at hms
              have cM := fun d os => Calls.regrown_of (hms (grow (redrawn wr d) os))
              have CM := hid cM
              have hz : Hid (L.visitF (m + 1) (l.drop p) = (L.visitF m (l.drop q)).bind (L.kidsF (L.visitF m) ⟨k1, s1, n1⟩ c' (k + 1) s2)) := hid (by rw [← hK.out, hdq.out, L.kidsF, if_pos hmay])
              go_wp2
              have kT := cell_regrown cT
              have kA := cell_regrown cA
              have kN0 := cell_regrown hN0
              have kN1 := cell_regrown hN1
              have kN2 := cell_regrown hN2
              have ky0 := cell_regrown y0
              have ky1 := cell_regrown y1
              have ky2 := cell_regrown y2
              clear cT cA cV hN0 hN1 hN2 hS hK hms cM y0 y1 y2
              refine wp_region_quiet_below (by kernel_rfl) (by kernel_rfl) ?_
              repeat (go_big_quiet_step (exact CM.out _ _))
              refine wpQuiet_nil ?_
              intro _ hw'
              obtain ⟨⟨nq, osq⟩, hw''⟩ := hw'
              subst hw''
              have hB3 := below_regrown wr nq osq
              have hg3 := grown_below hg hB3
              have hS3 := HSR.out.keep (grown_of_below hB3 |> fun h => ⟨h.os, h.tape, h.output, h.size, fun i hi _ => h.block i hi (by simp)⟩) ((hB3.block A hza).trans HSR.out.a)
              have hN3 := (hB3.block _ (heap_lt hN)).trans hN
              have jT := kT nq osq
              have jA := kA nq osq
              have jy1 := ky1 nq osq
              have jV := cell_regrown (Lib.cell_of_heap HSR.out.f 0) nq osq
              clear kT kA kN0 kN1 kN2 ky0 ky1 ky2 hB3
              generalize grow (redrawn wr nq) osq = w3 at *
              have hi := IH.out (d + 1) q w3 (by omega) (by omega) hq2 hS3
              cases hvis : L.visitF m (l.drop q) with
              | none =>
                rw [hvis] at hi
                have HI := hid hi
                have hz2 : Hid (L.visitF (m + 1) (l.drop p) = none) := hid (by rw [hz.out, hvis]; rfl)
                clear hi
                go_wp2_with fail
                refine (HI.out).mono ?_
                rintro e w4 ⟨rfl, hg4, -⟩
                go_wp2
                go_ret
                exact ⟨ret_bool (by rw [hz2.out]; rfl), grown_trans hg3 hg4, fun r hr => by rw [hz2.out] at hr; cases hr⟩
              | some r =>
                rw [hvis] at hi
                have HI := hid hi
                have hz2 : Hid (L.visitF (m + 1) (l.drop p) = L.kidsF (L.visitF m) ⟨k1, s1, n1⟩ c' (k + 1) s2 r) := hid (by rw [hz.out, hvis]; rfl)
                clear hi
                go_wp2_with fail
                refine (HI.out).mono ?_
                rintro e w4 ⟨rfl, hg4, hr4⟩
                obtain ⟨q', hA4, hq', hdr'⟩ := hr4 r rfl
                go_wp2
                go_roundw
                case rel =>
                  refine ⟨k + 1, q', s2, rfl, by go_num, by omega, hq', hS3.keep hg4 hA4, grown_trans hg3 hg4, (hg4.block _ (heap_lt hN3) (by simp; omega)).trans hN3, hid ?_⟩
                  rw [hz2.out, show c - (k + 1) = c' by omega, hdr']
                case measure => simp [intOf]; omega
        · obtain rfl : k = c := by omega
          go_wp2
          go_ret
          rw [Nat.sub_self, L.kidsF] at hK
          refine ⟨ret_bool (by rw [← hK.out]; rfl), hg, fun r hr => ?_⟩
          rw [← hK.out] at hr
          exact ⟨q, HSR.out.a, hq, Option.some.inj hr⟩
    · have hu := numbered_any k1 n1 s1
      have hnf : L.numbered ⟨k1, s1, n1⟩ = false := by simpa using hnum
      simp only [hnf] at hu
      have HU := hid hu
      have hV : Hid (L.visitF (m + 1) (l.drop p) = none) := hid (by rw [hdr.out, L.visitF, if_neg hnum])
      clear hu hnum hnf
      go_enter Tryd.func47, Tryd.ntmps47
      go_wp2_with fail
      refine (HU.out _).mono ?_
      rintro e w1 ⟨rfl, hb1⟩
      obtain ⟨hg1, -⟩ := hnew.out w1 hb1
      go_wp2
      go_ret
      exact ⟨ret_bool (by rw [hV.out]; rfl), hg1, fun r hr => by rw [hV.out] at hr; cases hr⟩

set_option maxHeartbeats 4000000 in
set_option maxRecDepth 100000 in
theorem right_any (l : List L.Nd) (hnm : ∀ x ∈ l, x.name.size ≤ 2000000) (v : Value) (w : World) (hx : Rd w w.heap.size v l) :
    Calls Tryd.prog 25 #[v] w fun e w' => e = .returned (.bool (L.rightL l)) ∧ Below w.heap.size w w' := by
  have HX := hid hx
  obtain ⟨A, cap, rfl, hl1, hl2, _, hcx⟩ := hx
  unfold maxLen at hl2
  have HCX := hid hcx
  have HNM := hid hnm
  clear hcx hnm
  by_cases h0 : l = []
  · subst h0
    go_enter Tryd.func25, Tryd.ntmps25
    go_wp2
    go_ret
    exact ⟨rfl, below_new _⟩
  have hpos : 0 < l.length := List.length_pos_iff.2 h0
  have e0 : ((l.length : Int) == 0) = false := by simp; omega
  by_cases hbig : 10000 < l.length
  · go_enter Tryd.func25, Tryd.ntmps25
    go_wp2
    go_ret
    refine ⟨ret_bool ?_, below_new _⟩
    cases l with
    | nil => exact absurd rfl h0
    | cons x r =>
      symm
      simp only [L.rightL, Bool.and_eq_false_iff]
      exact Or.inl (Or.inl (by simp at hbig ⊢; omega))
  obtain ⟨b, o, rfl, hb, hcx⟩ := HCX.out h0
  obtain ⟨x0, x1, x2⟩ := hcx 0 hpos
  have hl0 : ∃ r, l = l[0] :: r := by
    cases l with
    | nil => exact absurd rfl h0
    | cons x r => exact ⟨r, rfl⟩
  have hbig2 : l.length ≤ 10000 := by omega
  clear hcx
  have HL0 := hid hl0
  clear hl0
  simp only [Nat.zero_mul, Nat.add_zero] at x0 x1 x2
  generalize l[0] = X at *
  obtain ⟨k1, s1, n1⟩ := X
  have hba := bare_any k1 n1 s1
  cases hbare : L.bare ⟨k1, s1, n1⟩ with
  | false =>
    simp only [hbare] at hba
    have HB := hid hba
    have hz : Hid (L.rightL l = false) := hid (by obtain ⟨r, hr⟩ := HL0.out; rw [hr, L.rightL, hbare]; simp)
    clear hba hbare
    go_enter Tryd.func25, Tryd.ntmps25
    go_wp2_with fail
    refine (HB.out _).mono ?_
    rintro e w1 ⟨rfl, hb1⟩
    go_wp2
    go_ret
    exact ⟨ret_bool hz.out.symm, (below_new _).trans (hb1.mono (by simp))⟩
  | true =>
    simp only [hbare] at hba
    have HB := hid hba
    have hz : Hid (L.rightL l = decide (L.visitF 100 (l.drop 0) = some [])) := hid (by
      obtain ⟨r, hr⟩ := HL0.out
      rw [hr] at hbig2 ⊢
      rw [L.rightL, hbare, List.drop_zero]
      simp only [hbig2, decide_true, Bool.true_and])
    clear hba hbare
    go_enter Tryd.func25, Tryd.ntmps25
    go_wp2_with fail
    refine (HB.out _).mono ?_
    rintro e w1 ⟨rfl, hb1⟩
    have hw1 : Below w.heap.size w w1 := (below_new _).trans (hb1.mono (by simp))
    have hT1 : w1.heap[w.heap.size]? = some (.cells #[.slice (some ⟨b, o, none⟩) l.length cap] 23 (0, 0)) := (hb1.block _ (by simp)).trans (heap_alloc_new w _)
    have HT1 := hid hT1
    have c1 := Lib.cell_of_heap hT1 0
    have hz1 := heap_lt hT1
    clear hT1
    have hne : w.heap.size ≠ w1.heap.size := by omega
    have hne1 : w.heap.size ≠ w1.heap.size + 1 := by omega
    go_wp2_with fail
    have hS : VSt l (.slice (some ⟨b, o, none⟩) l.length cap) 47 w.heap.size w1.heap.size (w1.heap.size + 1) 0 ((w1.alloc (.cells #[.int .i64 ((0 : Nat) : Int)] 3)).alloc (.cells #[.func (.func 47) #[] #[.pointer (some ⟨w.heap.size, 0, none⟩), .pointer (some ⟨w1.heap.size, 0, none⟩), .pointer (some ⟨w1.heap.size + 1, 0, none⟩)]] 69)) := by
      refine ⟨?_, ?_, ?_, ?_, hz1, by omega⟩
      · rw [Lib.alloc_old _ _ _ (by simp; omega), Lib.alloc_old _ _ _ hz1]; exact HT1.out
      · rw [Lib.alloc_old _ _ _ (by simp)]; exact heap_alloc_new w1 _
      · have := heap_alloc_new (w1.alloc (.cells #[.int .i64 ((0 : Nat) : Int)] 3)) (.cells #[.func (.func 47) #[] #[.pointer (some ⟨w.heap.size, 0, none⟩), .pointer (some ⟨w1.heap.size, 0, none⟩), .pointer (some ⟨w1.heap.size + 1, 0, none⟩)]] 69)
        simpa using this
      · exact (((HX.out.mono hw1.size).below hw1).alloc _).alloc _
    refine (visit_any l HNM.out _ _ _ _ 100 1 0 _ (by omega) (by omega) hpos hS).mono ?_
    rintro e w2 ⟨rfl, hg2, hr2⟩
    have hB2 : Below w.heap.size w w2 := by
      refine hw1.trans ⟨hg2.os, hg2.tape, hg2.output, by have := hg2.size; simp at this; omega, fun k hk => ?_⟩
      rw [hg2.block k (by simp; omega) (by simp; omega), Lib.alloc_old _ _ _ (by simp; omega), Lib.alloc_old _ _ _ (by omega)]
    have hT2 := (hg2.block w.heap.size (by simp; omega) (by simp; omega)).trans hS.t
    have cT2 := Lib.cell_of_heap hT2 0
    cases hv : L.visitF 100 (l.drop 0) with
    | none =>
      rw [hv] at hz
      go_wp2
      go_ret
      exact ⟨ret_bool (by rw [hz.out]; rfl), hB2⟩
    | some r =>
      rw [hv] at hz
      obtain ⟨q, hA2, hq, hdq⟩ := hr2 r hv
      have cA2 := Lib.cell_of_heap hA2 0
      go_wp2
      go_ret
      refine ⟨ret_bool ?_, hB2⟩
      rw [hz.out, ← hdq, Bool.eq_iff_iff]
      simp
      omega

end Go.Proofs.YtimlblbmfckeiaaDoor
