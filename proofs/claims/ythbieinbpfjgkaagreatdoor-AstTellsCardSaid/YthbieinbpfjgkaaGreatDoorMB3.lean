/-
  The texts TyYt, one behind the other. Conditions: those that each of them names.
-/
import Derived.Test.YthbieinbpfjgkaaGreatDoorMB1
section
/-
  One step of the walk of the closure that ty.Print calls. Condition: a slice that reads as a right tree, whose print has at most 9000000 bytes.
-/
namespace Go.Proofs.YthbieinbpfjgkaaGreatDoor
open Go.RowKit
set_option maxHeartbeats 60000000 in
set_option maxRecDepth 100000 in
theorem visitP_round (l : List L.Nd) (hW : ∀ x ∈ l, x.n ≤ 9223372036854775807) (hl20 : l.length ≤ 20000) (v : Value) (T P A V : Nat) (M : Nat) (ih : ∀ (x : L.Nd) (ks : L.Fo), ks.flat.length < M → (L.Fo.cons x ks .nil).ok = true →
    ∀ (pr : Bool) (rest : List L.Nd) (p : Nat) (acc : List UInt8) (w : World), l.drop p = x :: (ks.flat ++ rest) → PSt l v T P A V p acc w → acc.length + (L.prT pr x ks).length ≤ 9000000 →
    Calls Tryz.prog 97 #[.bool pr, .pointer (some ⟨T, 0, none⟩), .pointer (some ⟨A, 0, none⟩), .pointer (some ⟨P, 0, none⟩), .pointer (some ⟨V, 0, none⟩)] w fun e w' =>
      e = .returned (.tuple #[]) ∧ PSt l v T P A V (p + 1 + ks.flat.length) (acc ++ L.prT pr x ks) w' ∧ KA P A w w')
    (x : L.Nd) (ks : L.Fo) (hM : ks.flat.length < M + 1) (hok : (L.Fo.cons x ks .nil).ok = true)
    (rest : List L.Nd) (p : Nat) (acc : List UInt8) (w : World) (hdr : l.drop p = x :: (ks.flat ++ rest)) (hS : PSt l v T P A V p acc w) (hlen : acc.length + (L.prT true x ks).length ≤ 9000000) :
    Calls Tryz.prog 97 #[.bool true, .pointer (some ⟨T, 0, none⟩), .pointer (some ⟨A, 0, none⟩), .pointer (some ⟨P, 0, none⟩), .pointer (some ⟨V, 0, none⟩)] w fun e w' =>
      e = .returned (.tuple #[]) ∧ PSt l v T P A V (p + 1 + ks.flat.length) (acc ++ L.prT true x ks) w' ∧ KA P A w w' := by
  have IH := hid ih
  have HS := hid hS
  have hp : p < l.length := by
    rcases Nat.lt_or_ge p l.length with h | h
    · exact h
    · rw [List.drop_eq_nil_of_le h] at hdr; cases hdr
  have hxp : l[p] = x := by
    have := List.drop_eq_getElem_cons hp
    rw [hdr] at this
    injection this with h1 _
    exact h1.symm
  have hdr1 : l.drop (p + 1) = ks.flat ++ rest := by
    have := List.drop_eq_getElem_cons hp
    rw [hdr] at this
    injection this with _ h2
    exact h2.symm
  have hwx : x.n ≤ 9223372036854775807 := by rw [← hxp]; exact hW _ (List.getElem_mem hp)
  simp only [L.Fo.ok, Bool.and_true, Bool.and_eq_true, decide_eq_true_eq] at hok
  obtain ⟨⟨⟨hnum, hmany⟩, hstand⟩, hoks⟩ := hok
  obtain ⟨hk9, hn0⟩ := kind_of hnum
  have hc50 : ks.count ≤ 50 := by
    have h50 := (L.many_of_numbered hnum).2
    rw [hmany] at h50
    omega
  have hfl := first_len hn0 hwx
  have hbl := betw_len x.kind
  have hll := last_len x.kind
  obtain ⟨A0, cap, hv, hl1, hl2, -, hcx0⟩ := hS.rd
  obtain ⟨b, o, hA0, hb, hcx⟩ := hcx0 (by rintro rfl; simp at hp)
  clear hcx0
  subst hA0
  obtain ⟨x0, x1, x2⟩ := hcx p hp
  rw [hxp] at x0 x1 x2
  have cT := Lib.cell_of_heap hS.t 0
  have cA := Lib.cell_of_heap hS.a 0
  simp only [List.getElem?_toArray] at cT cA
  rw [hv] at cT
  have hAt := heap_lt hS.a
  have hVt := heap_lt hS.f
  have hPt := hS.bd.lt
  have hPA := hS.pa
  have hAV := hS.av
  have hTP := hS.tp
  unfold maxLen at hl2
  have HDR1 := hid hdr1
  have HOKS := hid hoks
  have HMANY := hid hmany
  have HIW := hid hW
  clear hS hcx ih hW hdr hxp hdr1 hoks hstand hnum
  obtain ⟨k1, s1, n1⟩ := x
  have fA : w.frozen? ⟨A, 0, none⟩ = false := Lib.frozen_of_heap HS.out.a 0
  have HS1 : Hid (PSt l v T P A V (p + 1) acc ((w.setCell ⟨A, 0, none⟩ (.int .i64 ((p : Int) + 1))).alloc (.cells #[.int .i64 k1, .string s1, .int .i64 n1] 41))) := hid (by
    have hkA : KA P A w ((w.setCell ⟨A, 0, none⟩ (.int .i64 ((p : Int) + 1))).alloc (.cells #[.int .i64 k1, .string s1, .int .i64 n1] 41)) := (KA.set (Nat.le_of_lt hPA) _).trans (KA.of_below (below_new _) (by simp; omega))
    refine HS.out.keep hkA ?_ ((HS.out.bd.setA HS.out.a (by omega) _).below (below_new _))
    rw [Lib.alloc_old _ _ _ (by simp; omega)]
    exact heap_setCell_same w A 0 _ _ _ HS.out.a)
  have HK1 : Hid (KA P A w ((w.setCell ⟨A, 0, none⟩ (.int .i64 ((p : Int) + 1))).alloc (.cells #[.int .i64 k1, .string s1, .int .i64 n1] 41))) := hid ((KA.set (Nat.le_of_lt hPA) _).trans (KA.of_below (below_new _) (by simp; omega)))
  have HN1 : Hid (((w.setCell ⟨A, 0, none⟩ (.int .i64 ((p : Int) + 1))).alloc (.cells #[.int .i64 k1, .string s1, .int .i64 n1] 41)).heap[w.heap.size]? = some (.cells #[.int .i64 k1, .string s1, .int .i64 n1] 41 (0, 0))) := hid (by
    have := heap_alloc_new (w.setCell ⟨A, 0, none⟩ (.int .i64 ((p : Int) + 1))) (.cells #[.int .i64 k1, .string s1, .int .i64 n1] 41)
    simpa using this)
  have HMK := hid (marks_any k1 n1 s1 hk9 (fun h => ⟨hn0 h, hwx⟩) _ HS1.out.tab)
  have HF : Hid ((⟨(L.first ⟨k1, s1, n1⟩).toArray⟩ : ByteArray).data.toList = L.first ⟨k1, s1, n1⟩) := hid rfl
  have HBt : Hid ((⟨(L.betw k1).toArray⟩ : ByteArray).data.toList = L.betw k1) := hid rfl
  have HLa : Hid ((⟨(L.last k1).toArray⟩ : ByteArray).data.toList = L.last k1) := hid rfl
  have hF1 : (⟨(L.first ⟨k1, s1, n1⟩).toArray⟩ : ByteArray).size ≤ 23 := by show (L.first ⟨k1, s1, n1⟩).toArray.size ≤ 23; simpa using hfl
  have hB1 : (⟨(L.betw k1).toArray⟩ : ByteArray).size ≤ 4 := by show (L.betw k1).toArray.size ≤ 4; simpa using hbl
  have hL1 : (⟨(L.last k1).toArray⟩ : ByteArray).size ≤ 1 := by show (L.last k1).toArray.size ≤ 1; simpa using hll
  generalize (⟨(L.first ⟨k1, s1, n1⟩).toArray⟩ : ByteArray) = F1 at *
  generalize (⟨(L.betw k1).toArray⟩ : ByteArray) = Bt at *
  generalize (⟨(L.last k1).toArray⟩ : ByteArray) = L1 at *
  have hneA : A ≠ w.heap.size := by omega
  have hneP : w.heap.size ≠ P := by omega
  have hneA2 : w.heap.size ≠ A := by omega
  have hmn := many_any k1 n1 s1
  rw [HMANY.out] at hmn
  have HMN := hid hmn
  clear hmn
  have hlb : acc.length + s1.size + 2 ≤ 9000100 := by
    have : s1.size = 0 ∨ (L.lab ⟨k1, s1, n1⟩).length = s1.size + 2 := by
      unfold L.lab
      by_cases h : s1.size = 0
      · exact Or.inl h
      · right; rw [if_neg h]; simp
    simp only [L.prT, List.length_append] at hlen
    omega
  have hlb2 : acc.length + (L.lab ⟨k1, s1, n1⟩).length ≤ 9000000 := by
    simp only [L.prT, List.length_append] at hlen
    omega
  have HFS : Hid ((⟨#[40]⟩ ++ F1).data.toList = L.opn true ⟨k1, s1, n1⟩) := hid (by rw [show ((⟨#[40]⟩ : ByteArray) ++ F1).data.toList = 40 :: F1.data.toList by simp, HF.out]; rfl)
  have HLS : Hid ((L1 ++ ⟨#[41]⟩).data.toList = L.cls true k1) := hid (by rw [show (L1 ++ (⟨#[41]⟩ : ByteArray)).data.toList = L1.data.toList ++ [41] by simp, HLa.out]; rfl)
  have hFS : ((⟨#[40]⟩ : ByteArray) ++ F1).size ≤ 24 := by rw [ByteArray.size_append]; show 1 + F1.size ≤ 24; omega
  have hLS : (L1 ++ (⟨#[41]⟩ : ByteArray)).size ≤ 2 := by rw [ByteArray.size_append]; show L1.size + 1 ≤ 2; omega
  go_enter Tryz.func97, Tryz.ntmps97
  go_wp2_with fail
  refine (HMK.out).mono ?_
  rintro e w2 ⟨rfl, hb2⟩
  have hP1 := HS1.out.bd.lt
  have hS2 := HS1.out.stay (Kp.of_below hb2 (Nat.le_of_lt hP1)) (HS1.out.bd.below hb2)
  have hK2 := HK1.out.trans (KA.of_below hb2 (Nat.le_of_lt hP1))
  have hN2 := (hb2.block _ (heap_lt HN1.out)).trans HN1.out
  have HS2 := hid hS2
  have HN2 := hid hN2
  have m0 := Lib.cell_of_heap hN2 0
  have m1 := Lib.cell_of_heap hN2 1
  have m2 := Lib.cell_of_heap hN2 2
  simp only [List.getElem?_toArray] at m0 m1 m2
  clear hS2 hN2 cT cA fA x0 x1 x2 hb2
  have HLB := hid (label_any HS2.out.bd k1 n1 s1 hlb)
  go_wp2_with fail
  refine (HLB.out).mono ?_
  rintro e w3 ⟨rfl, hb3, hk3⟩
  have HS3 := hid (HS2.out.stay hk3 hb3)
  have HN3 := hid (node_kept (.of_kp (A := A) hk3) HN2.out hneP hneA2)
  have HK3 := hid (hK2.trans (.of_kp hk3))
  have HWF := hid (write_any hb3 (⟨#[40]⟩ ++ F1) (by rw [List.length_append]; omega))
  clear m0 m1 m2 hK2 hb3 hk3
  go_wp2_with fail
  refine (HWF.out).mono ?_
  rintro e w4 ⟨rfl, hb4, hk4⟩
  have HS4 := hid (HS3.out.stay hk4 hb4)
  have HN4 := hid (node_kept (.of_kp (A := A) hk4) HN3.out hneP hneA2)
  have HK4 := hid (HK3.out.trans (.of_kp hk4))
  clear hb4 hk4
  go_wp2
  go_loopw [10] (fun vk wr => ∃ (k : Nat) (f : L.Fo) (acc' : List UInt8) (q : Nat), vk = .int .i64 k ∧ k + f.count = ks.count ∧ f.ok = true ∧ l.drop q = f.flat ++ rest ∧ q + f.flat.length = p + 1 + ks.flat.length ∧ f.flat.length ≤ ks.flat.length ∧ PSt l v T P A V q acc' wr ∧ KA P A w wr ∧ wr.heap[w.heap.size]? = some (.cells #[.int .i64 k1, .string s1, .int .i64 n1] 41 (0, 0)) ∧ Hid (acc' ++ L.prs f k1 k = acc ++ (L.lab ⟨k1, s1, n1⟩ ++ (L.opn true ⟨k1, s1, n1⟩ ++ L.prs ks k1 0)))) (fun vk _ => ks.count - (intOf vk).toNat)
  case atStart => exact ⟨0, ks, _, p + 1, rfl, by omega, HOKS.out, HDR1.out, rfl, Nat.le_refl _, HS4.out, HK4.out, HN4.out, hid (by rw [HFS.out, List.append_assoc, List.append_assoc])⟩
  case round =>
    obtain ⟨k, f, acc', q, rfl, hkf, hfo, hdq, hqf, hfl2, hS, hK, hN, hE⟩ := hrel
    have HS5 := hid hS
    have HK5 := hid hK
    have HN5 := hid hN
    have HDQ := hid hdq
    have HFO := hid hfo
    have n0 := Lib.cell_of_heap hN 0
    have n1' := Lib.cell_of_heap hN 1
    have n2 := Lib.cell_of_heap hN 2
    simp only [List.getElem?_toArray] at n0 n1' n2
    have hP5 := hS.bd.lt
    clear hS hK hN hdq hfo
    go_wp2_with fail
    refine (HMN.out _).mono ?_
    rintro e w5 ⟨rfl, hb5⟩
    have HS6 := hid (HS5.out.stay (Kp.of_below hb5 (Nat.le_of_lt hP5)) (HS5.out.bd.below hb5))
    have HK6 := hid (HK5.out.trans (KA.of_below hb5 (Nat.le_of_lt hP5)))
    have HN6 := hid ((hb5.block _ (heap_lt HN5.out)).trans HN5.out)
    have cT := Lib.cell_of_heap HS6.out.t 0
    have cA := Lib.cell_of_heap HS6.out.a 0
    simp only [List.getElem?_toArray] at cT cA
    rw [hv] at cT
    clear hb5 n0 n1' n2
    by_cases hkc : k < ks.count
    · cases f with
      | nil => exact absurd hkf (by simp [L.Fo.count]; omega)
      | cons y ks2 r =>
        simp only [L.Fo.count, L.Fo.flat, List.length_cons, List.length_append, List.cons_append, List.append_assoc] at hkf hqf hfl2 HDQ
        have hq : q < l.length := by
          rcases Nat.lt_or_ge q l.length with h | h
          · exact h
          · have := HDQ.out; rw [List.drop_eq_nil_of_le h] at this; cases this
        have hyq : l[q] = y := by
          have := List.drop_eq_getElem_cons hq
          rw [HDQ.out] at this
          injection this with h1 _
          exact h1.symm
        have hok2 : (L.Fo.cons y ks2 .nil).ok = true ∧ r.ok = true := by
          have := HFO.out
          simp only [L.Fo.ok, Bool.and_true, Bool.and_eq_true] at this ⊢
          exact this
        have HOK2 := hid hok2
        have hbnd : acc'.length + ((if 0 < k then L.betw k1 else []).length + (L.prT (L.par k1 k y) y ks2).length) ≤ 9000000 := by
          have h1 := congrArg List.length hE.out
          simp only [L.prs_cons, List.length_append] at h1
          simp only [L.prT, List.length_append] at hlen h1 ⊢
          omega
        have hqz : (q : Int) < (l.length : Int) := by omega
        by_cases hk0 : k = 0
        · subst hk0
          have HS7 := HS6
          have HK7 := HK6
          have HN7 := HN6
          have HE7 : Hid (acc' ++ (L.prT (L.par k1 0 y) y ks2 ++ L.prs r k1 1) = acc ++ (L.lab ⟨k1, s1, n1⟩ ++ (L.opn true ⟨k1, s1, n1⟩ ++ L.prs ks k1 0))) := hid (by rw [← hE.out, L.prs_cons]; rfl)
          by_cases h5 : k1 = 5
          · have h5z : (k1 == 5) = true := by simp [h5]
            by_cases hy5 : y.kind = 5
            · have hy5z : (y.kind == 5) = true := by simp [hy5]
              have HPAR : Hid (L.par k1 0 y = true) := hid (by simp [L.par, h5, hy5])
              clear h5 hy5
              go_wp2
              obtain ⟨wd, hwd⟩ : ∃ wd, wd = w5.drew := ⟨_, rfl⟩
              have hBd : Below w5.heap.size w5 wd := by rw [hwd]; exact (Below.refl _ _).drew
              refine wp_region_still_tail 16 (by kernel_rfl) (by kernel_rfl) ?_
              simp only [List.take_succ_cons, List.take_zero, List.drop_succ_cons, List.drop_zero]
              change wpStill _ _ (World.drew _) _ _ _
              rw [← hwd]
              have HS8 := hid (HS7.out.stay (Kp.of_below hBd (Nat.le_of_lt HS7.out.bd.lt)) (HS7.out.bd.below hBd))
              have HK8 := hid (HK7.out.trans (KA.of_below hBd (Nat.le_of_lt HS7.out.bd.lt)))
              have HN8 := hid ((hBd.block _ (heap_lt HN7.out)).trans HN7.out)
              have dT := cell_box HS8.out.t
              have dA := cell_box HS8.out.a
              have dV := cell_box HS8.out.f
              have dN : wd.cell? ⟨w.heap.size, 0, none⟩ = some (.int .i64 k1) := Lib.cell_of_heap HN8.out 0
              rw [hv] at dT
              obtain ⟨dy, -, -⟩ := (show Rd wd T (.slice (some ⟨b, o, none⟩) l.length cap) l from hv ▸ HS8.out.rd).at_slice (by rintro rfl; simp at hq) q hq
              rw [hyq] at dy
              have HI := hid (IH.out y ks2 (by omega) HOK2.out.1 true (r.flat ++ rest) q acc' wd HDQ.out HS8.out (by rw [HPAR.out] at hbnd; simp at hbnd; omega))
              have HWD := hid hwd
              clear cT cA hBd hwd
              repeat still_step
              refine wpStill_nil ?_
              change wpList _ _ _ _ _ (World.drew _)
              rw [← HWD.out]
              clear dT dA dV dN dy
              go_wp2_with fail
              refine (HI.out).mono ?_
              rintro e w8 ⟨rfl, hS9, hK9⟩
              have HS9 := hid hS9
              have HK9 := hid (HK8.out.trans hK9)
              have HN9 := hid (node_kept hK9 HN8.out hneP hneA2)
              clear hS9 hK9
              go_wp2
              go_roundw
              case rel =>
                refine ⟨1, r, _, q + 1 + ks2.flat.length, by go_num, by omega, HOK2.out.2, ?_, by omega, by omega, HS9.out, HK9.out, HN9.out, hid ?_⟩
                · have h1 := congrArg (List.drop (1 + ks2.flat.length)) HDQ.out
                  rw [List.drop_drop] at h1
                  rw [show q + 1 + ks2.flat.length = q + (1 + ks2.flat.length) by omega, h1, show 1 + ks2.flat.length = ks2.flat.length + 1 by omega, List.drop_succ_cons, List.drop_left]
                · rw [← HE7.out, HPAR.out, List.append_assoc]
              case measure => simp [intOf]; omega
  
            · have hy5z : (y.kind == 5) = false := by simp; omega
              have HPAR : Hid (L.par k1 0 y = false) := hid (by simp [L.par, h5, hy5])
              clear h5 hy5
              go_wp2
              obtain ⟨wd, hwd⟩ : ∃ wd, wd = w5.drew := ⟨_, rfl⟩
              have hBd : Below w5.heap.size w5 wd := by rw [hwd]; exact (Below.refl _ _).drew
              refine wp_region_still_tail 16 (by kernel_rfl) (by kernel_rfl) ?_
              simp only [List.take_succ_cons, List.take_zero, List.drop_succ_cons, List.drop_zero]
              change wpStill _ _ (World.drew _) _ _ _
              rw [← hwd]
              have HS8 := hid (HS7.out.stay (Kp.of_below hBd (Nat.le_of_lt HS7.out.bd.lt)) (HS7.out.bd.below hBd))
              have HK8 := hid (HK7.out.trans (KA.of_below hBd (Nat.le_of_lt HS7.out.bd.lt)))
              have HN8 := hid ((hBd.block _ (heap_lt HN7.out)).trans HN7.out)
              have dT := cell_box HS8.out.t
              have dA := cell_box HS8.out.a
              have dV := cell_box HS8.out.f
              have dN : wd.cell? ⟨w.heap.size, 0, none⟩ = some (.int .i64 k1) := Lib.cell_of_heap HN8.out 0
              rw [hv] at dT
              obtain ⟨dy, -, -⟩ := (show Rd wd T (.slice (some ⟨b, o, none⟩) l.length cap) l from hv ▸ HS8.out.rd).at_slice (by rintro rfl; simp at hq) q hq
              rw [hyq] at dy
              have HI := hid (IH.out y ks2 (by omega) HOK2.out.1 false (r.flat ++ rest) q acc' wd HDQ.out HS8.out (by rw [HPAR.out] at hbnd; simp at hbnd; omega))
              have HWD := hid hwd
              clear cT cA hBd hwd
              repeat still_step
              refine wpStill_nil ?_
              change wpList _ _ _ _ _ (World.drew _)
              rw [← HWD.out]
              clear dT dA dV dN dy
              go_wp2_with fail
              refine (HI.out).mono ?_
              rintro e w8 ⟨rfl, hS9, hK9⟩
              have HS9 := hid hS9
              have HK9 := hid (HK8.out.trans hK9)
              have HN9 := hid (node_kept hK9 HN8.out hneP hneA2)
              clear hS9 hK9
              go_wp2
              go_roundw
              case rel =>
                refine ⟨1, r, _, q + 1 + ks2.flat.length, by go_num, by omega, HOK2.out.2, ?_, by omega, by omega, HS9.out, HK9.out, HN9.out, hid ?_⟩
                · have h1 := congrArg (List.drop (1 + ks2.flat.length)) HDQ.out
                  rw [List.drop_drop] at h1
                  rw [show q + 1 + ks2.flat.length = q + (1 + ks2.flat.length) by omega, h1, show 1 + ks2.flat.length = ks2.flat.length + 1 by omega, List.drop_succ_cons, List.drop_left]
                · rw [← HE7.out, HPAR.out, List.append_assoc]
              case measure => simp [intOf]; omega
  
          · have h5z : (k1 == 5) = false := by simp; omega
            have HPAR : Hid (L.par k1 0 y = false) := hid (by simp [L.par, h5])
            clear h5
            go_wp2
            obtain ⟨wd, hwd⟩ : ∃ wd, wd = w5.drew := ⟨_, rfl⟩
            have hBd : Below w5.heap.size w5 wd := by rw [hwd]; exact (Below.refl _ _).drew
            refine wp_region_still_tail 16 (by kernel_rfl) (by kernel_rfl) ?_
            simp only [List.take_succ_cons, List.take_zero, List.drop_succ_cons, List.drop_zero]
            change wpStill _ _ (World.drew _) _ _ _
            rw [← hwd]
            have HS8 := hid (HS7.out.stay (Kp.of_below hBd (Nat.le_of_lt HS7.out.bd.lt)) (HS7.out.bd.below hBd))
            have HK8 := hid (HK7.out.trans (KA.of_below hBd (Nat.le_of_lt HS7.out.bd.lt)))
            have HN8 := hid ((hBd.block _ (heap_lt HN7.out)).trans HN7.out)
            have dT := cell_box HS8.out.t
            have dA := cell_box HS8.out.a
            have dV := cell_box HS8.out.f
            have dN : wd.cell? ⟨w.heap.size, 0, none⟩ = some (.int .i64 k1) := Lib.cell_of_heap HN8.out 0
            rw [hv] at dT
            obtain ⟨dy, -, -⟩ := (show Rd wd T (.slice (some ⟨b, o, none⟩) l.length cap) l from hv ▸ HS8.out.rd).at_slice (by rintro rfl; simp at hq) q hq
            rw [hyq] at dy
            have HI := hid (IH.out y ks2 (by omega) HOK2.out.1 false (r.flat ++ rest) q acc' wd HDQ.out HS8.out (by rw [HPAR.out] at hbnd; simp at hbnd; omega))
            have HWD := hid hwd
            clear cT cA hBd hwd
            repeat still_step
            refine wpStill_nil ?_
            change wpList _ _ _ _ _ (World.drew _)
            rw [← HWD.out]
            clear dT dA dV dN dy
            go_wp2_with fail
            refine (HI.out).mono ?_
            rintro e w8 ⟨rfl, hS9, hK9⟩
            have HS9 := hid hS9
            have HK9 := hid (HK8.out.trans hK9)
            have HN9 := hid (node_kept hK9 HN8.out hneP hneA2)
            clear hS9 hK9
            go_wp2
            go_roundw
            case rel =>
              refine ⟨1, r, _, q + 1 + ks2.flat.length, by go_num, by omega, HOK2.out.2, ?_, by omega, by omega, HS9.out, HK9.out, HN9.out, hid ?_⟩
              · have h1 := congrArg (List.drop (1 + ks2.flat.length)) HDQ.out
                rw [List.drop_drop] at h1
                rw [show q + 1 + ks2.flat.length = q + (1 + ks2.flat.length) by omega, h1, show 1 + ks2.flat.length = ks2.flat.length + 1 by omega, List.drop_succ_cons, List.drop_left]
              · rw [← HE7.out, HPAR.out, List.append_assoc]
            case measure => simp [intOf]; omega
  
        · have hk0z : ((k : Int) == 0) = false := by simp; omega
          have hkp : (0 : Int) < (k : Int) := by omega
          have HPAR : Hid (L.par k1 k y = false) := hid (by simp [L.par, hk0])
          have hbl2 : (L.betw k1).length = Bt.size := by rw [← HBt.out]; simp
          rw [if_pos (by omega)] at hbnd
          have HE7 : Hid ((acc' ++ Bt.data.toList) ++ (L.prT (L.par k1 k y) y ks2 ++ L.prs r k1 (k + 1)) = acc ++ (L.lab ⟨k1, s1, n1⟩ ++ (L.opn true ⟨k1, s1, n1⟩ ++ L.prs ks k1 0))) := hid (by rw [← hE.out, L.prs_cons, if_pos (by omega), HBt.out, List.append_assoc])
          have HWB := hid (write_any HS6.out.bd Bt (by omega))
          go_wp2_with fail
          refine (HWB.out).mono ?_
          rintro e w6 ⟨rfl, hb6, hk6⟩
          have HS7 := hid (HS6.out.stay hk6 hb6)
          have HK7 := hid (HK6.out.trans (.of_kp hk6))
          have HN7 := hid (node_kept (.of_kp (A := A) hk6) HN6.out hneP hneA2)
          clear hb6 hk6
          go_wp2
          obtain ⟨wd, hwd⟩ : ∃ wd, wd = w6.drew := ⟨_, rfl⟩
          have hBd : Below w6.heap.size w6 wd := by rw [hwd]; exact (Below.refl _ _).drew
          refine wp_region_still_tail 16 (by kernel_rfl) (by kernel_rfl) ?_
          simp only [List.take_succ_cons, List.take_zero, List.drop_succ_cons, List.drop_zero]
          change wpStill _ _ (World.drew _) _ _ _
          rw [← hwd]
          have HS8 := hid (HS7.out.stay (Kp.of_below hBd (Nat.le_of_lt HS7.out.bd.lt)) (HS7.out.bd.below hBd))
          have HK8 := hid (HK7.out.trans (KA.of_below hBd (Nat.le_of_lt HS7.out.bd.lt)))
          have HN8 := hid ((hBd.block _ (heap_lt HN7.out)).trans HN7.out)
          have dT := cell_box HS8.out.t
          have dA := cell_box HS8.out.a
          have dV := cell_box HS8.out.f
          have dN : wd.cell? ⟨w.heap.size, 0, none⟩ = some (.int .i64 k1) := Lib.cell_of_heap HN8.out 0
          rw [hv] at dT
          obtain ⟨dy, -, -⟩ := (show Rd wd T (.slice (some ⟨b, o, none⟩) l.length cap) l from hv ▸ HS8.out.rd).at_slice (by rintro rfl; simp at hq) q hq
          rw [hyq] at dy
          have HI := hid (IH.out y ks2 (by omega) HOK2.out.1 false (r.flat ++ rest) q (acc' ++ Bt.data.toList) wd HDQ.out HS8.out (by rw [HPAR.out] at hbnd; rw [List.length_append, HBt.out]; omega))
          have HWD := hid hwd
          clear cT cA hBd hwd
          repeat still_step
          refine wpStill_nil ?_
          change wpList _ _ _ _ _ (World.drew _)
          rw [← HWD.out]
          clear dT dA dV dN dy
          go_wp2_with fail
          refine (HI.out).mono ?_
          rintro e w8 ⟨rfl, hS9, hK9⟩
          have HS9 := hid hS9
          have HK9 := hid (HK8.out.trans hK9)
          have HN9 := hid (node_kept hK9 HN8.out hneP hneA2)
          clear hS9 hK9
          go_wp2
          go_roundw
          case rel =>
            refine ⟨(k + 1), r, _, q + 1 + ks2.flat.length, by go_num, by omega, HOK2.out.2, ?_, by omega, by omega, HS9.out, HK9.out, HN9.out, hid ?_⟩
            · have h1 := congrArg (List.drop (1 + ks2.flat.length)) HDQ.out
              rw [List.drop_drop] at h1
              rw [show q + 1 + ks2.flat.length = q + (1 + ks2.flat.length) by omega, h1, show 1 + ks2.flat.length = ks2.flat.length + 1 by omega, List.drop_succ_cons, List.drop_left]
            · rw [← HE7.out, HPAR.out, List.append_assoc]
          case measure => simp [intOf]; omega
  
    · cases f with
      | cons y ks2 r => exact absurd hkf (by simp [L.Fo.count]; omega)
      | nil =>
        simp only [L.Fo.count, L.Fo.flat, List.length_nil, Nat.add_zero] at hkf hqf
        have hE1 : acc' = acc ++ (L.lab ⟨k1, s1, n1⟩ ++ (L.opn true ⟨k1, s1, n1⟩ ++ L.prs ks k1 0)) := by
          have := hE.out
          simpa [L.prs] using this
        have hacc : acc'.length ≤ 9000000 := by
          rw [hE1]
          simp only [L.prT, List.length_append] at hlen ⊢
          omega
        have HE1 := hid hE1
        have HQF := hid hqf
        have HWL := hid (write_any HS6.out.bd (L1 ++ ⟨#[41]⟩) (by omega))
        clear hE1 hqf
        go_wp2_with fail
        refine (HWL.out).mono ?_
        rintro e w7 ⟨rfl, hb7, hk7⟩
        go_wp2
        go_end0
        refine ⟨rfl, ?_, HK6.out.trans (.of_kp hk7)⟩
        have hfin := HS6.out.stay hk7 hb7
        rw [HE1.out, HQF.out, HLS.out] at hfin
        have e : acc ++ (L.lab ⟨k1, s1, n1⟩ ++ (L.opn true ⟨k1, s1, n1⟩ ++ L.prs ks k1 0)) ++ L.cls true k1 = acc ++ L.prT true ⟨k1, s1, n1⟩ ks := by simp [L.prT]
        rw [e] at hfin
        exact hfin

end Go.Proofs.YthbieinbpfjgkaaGreatDoor
end
