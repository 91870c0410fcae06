/-
  The texts AsJ, AsP, one behind the other. Conditions: those that each of them names.
-/
import Derived.Test.YthbieinbpfjgkaaGreatDoorMA5
import Derived.Test.YthbieinbpfjgkaaGreatDoorShelfS
import Derived.Shelf.Slices.In.SortNone
import Derived.Lib.OwnBridge
import Derived.Sort.OwnSorted
section
/-
  The walk of the closure of ast.Free, whole. Conditions: a row of trees each of whose parts has as many children as it says, at most 10000 parts.
-/
namespace Go.Proofs.YthbieinbpfjgkaaGreatDoor
open Go.RowKit Go.Sort

set_option maxHeartbeats 8000000 in
set_option maxRecDepth 100000 in
theorem fvisit_any (l : List E.Pt) (hmn : ∀ x ∈ l, -1000000 ≤ x.many ∧ x.many ≤ 1000000) (hln : l.length ≤ 10000) (v : Value) (T : Nat) (hT2 : 2 ≤ T) (M : Nat) :
    ∀ (x : E.Pt) (ks : E.Fo), ks.flat.length < M → (E.Fo.cons x ks .nil).fit → ∀ (rest : List E.Pt) (p : Nat) (vb vf : Value) (bs fs : List ByteArray) (w : World), l.drop p = x :: (ks.flat ++ rest) → KTab w → FSt l v T p vb vf bs fs w →
    bs.length + 2 * ks.flat.length ≤ 30000 → fs.length + 1 + ks.flat.length ≤ 20000 →
    Calls Tryz.prog 49 #[.pointer (some ⟨T, 0, none⟩), .pointer (some ⟨T + 3, 0, none⟩), .pointer (some ⟨T + 1, 0, none⟩), .pointer (some ⟨T + 2, 0, none⟩), .pointer (some ⟨T + 4, 0, none⟩)] w fun e w' =>
      e = .returned (.tuple #[]) ∧ (∃ vb' vf', FSt l v T (p + 1 + ks.flat.length) vb' vf' bs (fs ++ E.freeT x ks bs) w') ∧ KF T w w' := by
  induction M with
  | zero => intro x ks h; omega
  | succ M ih =>
    intro x ks hM hfit rest p vb vf bs fs w hdr hK hS hbn hfn
    have hp : p < l.length := by
      rcases Nat.lt_or_ge p l.length with h | h
      · exact h
      · rw [List.drop_eq_nil_of_le h] at hdr; cases hdr
    have hxp : l[p] = x := by
      have := List.drop_eq_getElem_cons hp
      rw [hdr] at this
      injection this with h1 _
      exact h1.symm
    have hdr1 : l.drop (p + 1) = ks.flat ++ rest := by
      have := List.drop_eq_getElem_cons hp
      rw [hdr] at this
      injection this with _ h2
      exact h2.symm
    obtain ⟨hmany, hfk, -⟩ := hfit
    have hlen : p + 1 + ks.flat.length ≤ l.length := by
      have := congrArg List.length hdr
      simp at this
      omega
    have IH := hid ih
    have HS := hid hS
    have HK := hid hK
    have HMN := hid hmn
    have HDR := hid hdr1
    have HFK := hid hfk
    obtain ⟨A0, cap, rfl, hl1, hl2, hcx⟩ := hS.rd
    obtain ⟨b, o, rfl, hb, hcy⟩ := hcx (by rintro rfl; simp at hp)
    clear hcx
    have hcx := hcy
    clear hcy
    obtain ⟨vt, vu, x0, x1, x2, x3, x4, x5, x6, x7, ht, hu⟩ := hcx p hp
    obtain ⟨A1, c1, rfl⟩ : ∃ A1 c1, vt = .slice A1 x.t.length c1 := by obtain ⟨A1, c1, h, -⟩ := ht; exact ⟨A1, c1, by rw [h, hxp]⟩
    obtain ⟨A2, c2, rfl⟩ : ∃ A2 c2, vu = .slice A2 x.u.length c2 := by obtain ⟨A2, c2, h, -⟩ := hu; exact ⟨A2, c2, by rw [h, hxp]⟩
    have cT := Lib.cell_of_heap hS.t 0
    have cA := Lib.cell_of_heap hS.a 0
    unfold maxLen at hl2
    have hAt := heap_lt hS.a
    have hVt := heap_lt hS.f
    have fA : w.frozen? ⟨T + 3, 0, none⟩ = false := Lib.frozen_of_heap hS.a 0
    have hmx := hmn _ (List.getElem_mem hp)
    rw [hxp] at x0 x1 x2 x3 x4 x5 hmx
    clear hS hcx ht hu hmn ih hK hdr hdr1 hxp hfk
    have HBD := hid (fun (k : Nat) (hk : k ≤ 1000000) (W : World) => binds_any x k hk (.slice A1 x.t.length c1) (.slice A2 x.u.length c2) W)
    have HM := hid (fun (w1 : World) (hT : KTab w1) => amany_any x (.slice A1 x.t.length c1) (.slice A2 x.u.length c2) hmx w1 hT)
    obtain ⟨c, hc⟩ : ∃ c : Nat, ks.count = c := ⟨_, rfl⟩
    rw [hmany, hc] at HM
    have HC := hid hc
    have hc' : c ≤ 10000 := by
      have := ks.count_le
      omega
    have HX : Hid (E.freeT x ks bs = E.ownN x bs ++ ks.free x 0 bs) := hid rfl
    have hnb := E.bindsL_length x
    have HNB := hid hnb
    clear hc hnb
    obtain ⟨k1, s1, s2, s3, n1, n2, t1, t2⟩ := x
    unfold partV at HBD HM
    simp only at *
    obtain ⟨O, hO⟩ : ∃ O : Array Value, O = #[.int .i64 k1, .string s1, .string s2, .string s3, .int .i64 n1, .int .i64 n2, .slice A1 t1.length c1, .slice A2 t2.length c2] := ⟨_, rfl⟩
    have h1S : Hid (FSt l (.slice (some ⟨b, o, none⟩) l.length cap) T (p + 1) vb vf bs fs ((w.setCell ⟨T + 3, 0, none⟩ (.int .i64 ((p : Int) + 1))).alloc (.cells O 39))) := hid ((HS.out.place (p + 1) _ (by push_cast; rfl)).low (below_new _))
    have h1K : Hid (KF T w ((w.setCell ⟨T + 3, 0, none⟩ (.int .i64 ((p : Int) + 1))).alloc (.cells O 39))) := hid ((KF.set _ _ (by omega)).trans (KF.of_below (below_new _) (by simp; omega)))
    have h1N : Hid (((w.setCell ⟨T + 3, 0, none⟩ (.int .i64 ((p : Int) + 1))).alloc (.cells O 39)).heap[w.heap.size]? = some (.cells O 39 (0, 0))) := hid (by have := heap_alloc_new (w.setCell ⟨T + 3, 0, none⟩ (.int .i64 ((p : Int) + 1))) (.cells O 39); simpa using this)
    have h1z : ((w.setCell ⟨T + 3, 0, none⟩ (.int .i64 ((p : Int) + 1))).alloc (.cells O 39)).heap.size = w.heap.size + 1 := by simp
    subst hO
    have hne : w.heap.size ≠ T + 3 := by omega
    have hne2 : T + 3 ≠ w.heap.size := by omega
    go_enter Tryz.func49, Tryz.ntmps49
    go_upto_region 2 with fail
    generalize ((w.setCell ⟨T + 3, 0, none⟩ (.int .i64 ((p : Int) + 1))).alloc (.cells #[.int .i64 k1, .string s1, .string s2, .string s3, .int .i64 n1, .int .i64 n2, .slice A1 t1.length c1, .slice A2 t2.length c2] 39)) = w1 at *
    go_cut [23] from 14 to 22 (fun s23 wx => ∃ bb : Bool, s23 = .bool bb ∧ Hid (E.ownN ⟨k1, s1, s2, s3, n1, n2, t1, t2⟩ bs = if bb then [s2] else []) ∧ wx = w1)
    case first =>
      have cB := Lib.cell_of_heap h1S.out.bn 0
      have cN := fun j => Lib.cell_of_heap h1N.out j
      have cN0 := cN 0
      have cN2 := cN 2
      simp only [List.getElem?_toArray] at cN0 cN2 cB
      clear cN
      by_cases h1 : k1 = 1
      · subst h1
        have HCO := hid (contains_any bs (by omega) s2 vb w1 _ h1S.out.ob.rd)
        have HOW : Hid (E.ownN ⟨1, s1, s2, s3, n1, n2, t1, t2⟩ bs = if !Lib.containsS bs s2 then [s2] else []) := hid (by cases h : Lib.containsS bs s2 <;> simp [E.ownN, h])
        generalize Lib.containsS bs s2 = bc at *
        go_wp2_with fail
        refine (HCO.out).mono ?_
        rintro e w2 ⟨rfl, rfl⟩
        go_wp2
        go_meet
        exact ⟨_, rfl, HOW, rfl⟩
      · have f1 : (k1 == 1) = false := beq_eq_false_iff_ne.2 h1
        have HOW : Hid (E.ownN ⟨k1, s1, s2, s3, n1, n2, t1, t2⟩ bs = []) := hid (by simp [E.ownN, h1])
        clear h1
        go_wp2
        go_meet
        exact ⟨false, rfl, HOW, rfl⟩
    case rest =>
    obtain ⟨bb, rfl, HOW, rfl⟩ := hcut
    go_upto_if 23 with fail
    go_cut [] from 24 to 28 (fun wx => FAt l (.slice (some ⟨b, o, none⟩) l.length cap) T (p + 1) w.heap.size vb bs (fs ++ E.ownN ⟨k1, s1, s2, s3, n1, n2, t1, t2⟩ bs) #[.int .i64 k1, .string s1, .string s2, .string s3, .int .i64 n1, .int .i64 n2, .slice A1 t1.length c1, .slice A2 t2.length c2] w wx)
    case first =>
      cases bb with
      | false =>
        go_wp2
        go_meet
        exact ⟨_, by rw [HOW.out]; simpa using h1S, h1K, h1N, by omega⟩
      | true =>
        obtain ⟨Af, cf, rfl⟩ := h1S.out.of.val
        have cF := Lib.cell_of_heap h1S.out.fr 0
        have cN2 := Lib.cell_of_heap h1N.out 2
        simp only [List.getElem?_toArray] at cN2 cF
        have hB := below_new (w := wc) (.cells #[.string s2] 9)
        have hS2 := h1S.out.low hB
        have OF2 := hid hS2.of
        have RD2 : Hid (RdS (wc.alloc (.cells #[.string s2] 9)) (wc.alloc (.cells #[.string s2] 9)).heap.size (.slice (some ⟨w.heap.size + 1, 0, none⟩) 1 1) [s2]) := hid (by rw [← h1z]; exact ⟨_, 1, rfl, fun _ => ⟨_, 0, rfl, by simp, fun i hi => by
          have : i = 0 := by simpa using hi
          subst this
          rw [Lib.cell_of_heap (heap_alloc_new wc _) 0]
          rfl⟩⟩)
        have HS2 := hid hS2
        have HB2 := hid hB
        clear hS2 hB
        go_wp2_with (at_builtin; refine wpList_appS rfl (.tmp 24) (.tmp 27) rfl rfl (T + 5) (.slice Af fs.length cf) (.slice (some ⟨w.heap.size + 1, 0, none⟩) 1 1) fs [s2] rfl OF2.out rfl RD2.out (fun h => nomatch h) (by simp; omega) (by simp; omega) ?_)
        intro v3 w3 ho hg hat
        obtain ⟨hS3, hK3⟩ := HS2.out.freed ho hg (by simpa [h1z] using hat)
        have hz3 : wc.heap.size + 1 ≤ w3.heap.size := by have := hg.size; simpa using this
        have hb3 := HS2.out.frBox hg
        have c3 := Lib.cell_of_heap hb3 0
        have f3 : w3.frozen? ⟨T + 2, 0, none⟩ = false := Lib.frozen_of_heap hb3 0
        obtain ⟨A3, e3, rfl⟩ := ho.val
        generalize (fs ++ [s2]).length = n3 at hS3 hK3
        have HS3 := hid hS3
        have hK3' := (KF.of_below (T := T) HB2.out (by omega)).trans hK3
        have HK3 := hid (h1K.out.trans hK3')
        have HN3 := hid (hK3'.part h1N.out (by omega))
        clear hS3 hK3 hK3' hb3 hat hg ho
        go_wp2
        go_meet
        exact ⟨_, by rw [HOW.out]; exact HS3, HK3, HN3, by simp; omega⟩
    case rest =>
      obtain ⟨vf1, S1, K1, N1, z1⟩ := hcut
      clear h1S h1K h1N h1z fA hne hne2
      obtain ⟨Ab, cb, rfl⟩ := S1.out.ob.val
      have cB := Lib.cell_of_heap S1.out.bn 0
      simp only [List.getElem?_toArray] at cB
      go_wp2
      go_loopw [7] (fun v7 wr => ∃ (k : Nat) (g : E.Fo) (q : Nat) (vb2 vf2 : Value) (fs2 : List ByteArray), v7 = .int .i64 k ∧ k + g.count = c ∧ q + g.flat.length = p + 1 + ks.flat.length ∧ g.flat.length ≤ ks.flat.length ∧ fs2.length + g.flat.length ≤ fs.length + 1 + ks.flat.length ∧ Hid (FSt l (.slice (some ⟨b, o, none⟩) l.length cap) T q vb2 vf2 bs fs2 wr) ∧ Hid (KF T w wr) ∧
        Hid (wr.heap[w.heap.size]? = some (.cells #[.int .i64 k1, .string s1, .string s2, .string s3, .int .i64 n1, .int .i64 n2, .slice A1 t1.length c1, .slice A2 t2.length c2] 39 (0, 0))) ∧ Hid (l.drop q = g.flat ++ rest) ∧ Hid g.fit ∧ Hid (fs2 ++ g.free ⟨k1, s1, s2, s3, n1, n2, t1, t2⟩ k bs = fs ++ E.freeT ⟨k1, s1, s2, s3, n1, n2, t1, t2⟩ ks bs)) (fun v7 _ => c - (intOf v7).toNat)
      case atStart =>
        have h1 : (E.ownN ⟨k1, s1, s2, s3, n1, n2, t1, t2⟩ bs).length ≤ 1 := by unfold E.ownN; split <;> simp
        have h2 : (fs ++ E.ownN ⟨k1, s1, s2, s3, n1, n2, t1, t2⟩ bs).length = fs.length + (E.ownN ⟨k1, s1, s2, s3, n1, n2, t1, t2⟩ bs).length := List.length_append
        exact ⟨0, ks, p + 1, _, vf1, _, rfl, by rw [HC.out]; omega, by omega, by omega, by omega, S1, K1, N1, HDR, HFK, hid (by rw [HX.out, List.append_assoc])⟩
      case round =>
        obtain ⟨k, g, q, vb2, vf2, fs2, rfl, hkc, hqg, hgl, hfl, S2, K2, N2, D2, F2, E2⟩ := hrel
        obtain ⟨z0', z1', z2', z3', z4'⟩ := S2.out.nest
        have hw2 := K2.out.1.size
        have cT := Lib.cell_of_heap S2.out.t 0
        have cA := Lib.cell_of_heap S2.out.a 0
        have cN0 := Lib.cell_of_heap N2.out 0
        have cN1 := Lib.cell_of_heap N2.out 1
        have cN2 := Lib.cell_of_heap N2.out 2
        have cN3 := Lib.cell_of_heap N2.out 3
        have cN4 := Lib.cell_of_heap N2.out 4
        have cN5 := Lib.cell_of_heap N2.out 5
        have cN6 := Lib.cell_of_heap N2.out 6
        have cN7 := Lib.cell_of_heap N2.out 7
        have hKT := hid (HM.out wr (HK.out.kf K2.out (by omega)))
        simp only [List.getElem?_toArray] at cT cA cN0 cN1 cN2 cN3 cN4 cN5 cN6 cN7
        cases g with
        | nil =>
          obtain rfl : k = c := by simpa [E.Fo.count] using hkc
          have hq : q = p + 1 + ks.flat.length := by simpa [E.Fo.flat] using hqg
          have HQ := hid hq
          clear hq hqg
          go_wp2_with fail
          refine (hKT.out).mono ?_
          rintro e w3 ⟨rfl, hb3⟩
          go_wp2
          go_end0
          refine ⟨rfl, ⟨vb2, vf2, ?_⟩, K2.out.trans (KF.of_below hb3 (by omega))⟩
          rw [← E2.out, E.Fo.free, List.append_nil, ← HQ.out]
          exact S2.out.low hb3
        | cons y kk r =>
          have hkc2 : k + (r.count + 1) = c := hkc
          have hflat : (E.Fo.cons y kk r).flat.length = kk.flat.length + r.flat.length + 1 := by simp [E.Fo.flat]
          rw [hflat] at hqg hgl hfl
          have hql : q < l.length := by omega
          have hkk : (k : Int) < (c : Int) := by omega
          have hk6 : k ≤ 1000000 := by omega
          have HB := hid (HBD.out k hk6)
          have hbi := HNB.out k
          obtain ⟨bi, hbi2⟩ : ∃ bi, E.bindsL ⟨k1, s1, s2, s3, n1, n2, t1, t2⟩ k = bi := ⟨_, rfl⟩
          rw [hbi2] at HB hbi
          have HBI := hid hbi2
          clear hbi2 hflat hkc
          go_wp2_with fail
          refine (hKT.out).mono ?_
          rintro e w3 ⟨rfl, hb3⟩
          have S3 := hid (S2.out.low hb3)
          have N3 := hid ((hb3.block _ (heap_lt N2.out)).trans N2.out)
          have K3 := hid (K2.out.trans (KF.of_below hb3 (by omega)))
          have hz3 := hb3.size
          obtain ⟨A2', c2', rfl⟩ := S3.out.ob.val
          have dT := Lib.cell_of_heap S3.out.t 0
          have dA := Lib.cell_of_heap S3.out.a 0
          have dB := Lib.cell_of_heap S3.out.bn 0
          have dN0 := Lib.cell_of_heap N3.out 0
          have dN1 := Lib.cell_of_heap N3.out 1
          have dN2 := Lib.cell_of_heap N3.out 2
          have dN3 := Lib.cell_of_heap N3.out 3
          have dN4 := Lib.cell_of_heap N3.out 4
          have dN5 := Lib.cell_of_heap N3.out 5
          have dN6 := Lib.cell_of_heap N3.out 6
          have dN7 := Lib.cell_of_heap N3.out 7
          simp only [List.getElem?_toArray] at dT dA dB dN0 dN1 dN2 dN3 dN4 dN5 dN6 dN7
          clear cT cA cN0 cN1 cN2 cN3 cN4 cN5 cN6 cN7 hb3 cB
          go_wp2_with fail
          go_cut [] from 31 to 52 (fun wx => ∃ v5, Hid (FSt l (.slice (some ⟨b, o, none⟩) l.length cap) T q v5 vf2 (bs ++ bi) fs2 wx) ∧ Hid (KF T w wx) ∧ Hid (wx.heap[w.heap.size]? = some (.cells #[.int .i64 k1, .string s1, .string s2, .string s3, .int .i64 n1, .int .i64 n2, .slice A1 t1.length c1, .slice A2 t2.length c2] 39 (0, 0))) ∧ w.heap.size ≤ wx.heap.size)
          case first =>
            go_region_law (first
              | (go_simp; go_at_call 51; refine (HB.out _).mono ?_; rintro e w4 ⟨vx, rfl, hrd, hnil, hb4⟩
                 have hbq := (below_drewN (Below.refl w3.heap.size w3) 1).trans hb4
                 have S4 := hid (S3.out.low hbq)
                 have K4 := hid (K3.out.trans (KF.of_below (T := T) hbq (by omega)))
                 have N4 := hid ((hbq.block _ (heap_lt N3.out)).trans N3.out)
                 have c4 := Lib.cell_of_heap S4.out.bn 0
                 simp only [List.getElem?_toArray] at c4
                 have hz4 := hbq.size
                 have RX := hid hrd
                 have NX := hid hnil
                 clear hrd hnil hb4 hbq)
              | (refine step_appS rfl (.tmp 43) (.tmp 46) rfl rfl (T + 5) (.slice A2' bs.length c2') vx bs bi rfl S4.out.ob rfl RX.out NX.out (by omega) (by omega) ?_
                 intro v5 w5 ho hg hat
                 obtain ⟨hS5, hK5⟩ := S4.out.bound ho hg hat
                 have hb5 := S4.out.bnBox hg
                 have c5 := Lib.cell_of_heap hb5 0
                 have f5 : w5.frozen? ⟨T + 1, 0, none⟩ = false := Lib.frozen_of_heap hb5 0
                 have hz5 := hg.size
                 obtain ⟨A5, e5, rfl⟩ := ho.val
                 generalize (bs ++ bi).length = n5 at hS5 hK5
                 have S5 := hid hS5
                 have K5 := hid (K4.out.trans hK5)
                 have N5 := hid (hK5.part N4.out (by omega))
                 clear hS5 hK5 hb5 hat hg ho))
            all_goals go_wp2_with fail
            all_goals go_meet
            all_goals exact ⟨_, S5, K5, N5, by simp; omega⟩
          case rest =>
            obtain ⟨v5, S5, K5, N5, z5⟩ := hcut
            clear dT dA dB dN0 dN1 dN2 dN3 dN4 dN5 dN6 dN7 S3 N3 K3 S2 K2 N2 hKT HB hz3
            have dV := Lib.cell_of_heap S5.out.f 0
            simp only [List.getElem?_toArray] at dV
            have hdq : l.drop q = y :: (kk.flat ++ (r.flat ++ rest)) := by rw [D2.out]; simp [E.Fo.flat]
            have hI := hid (IH.out y kk (by omega) ⟨F2.out.1, F2.out.2.1, trivial⟩ (r.flat ++ rest) q v5 vf2 (bs ++ bi) fs2 wc hdq (HK.out.kf K5.out (by omega)) S5.out (by rw [List.length_append]; omega) (by omega))
            have HDQ := hid hdq
            clear hdq
            go_wp2_with fail
            refine (hI.out).mono ?_
            rintro e w7 ⟨rfl, ⟨vb7, vf7, S7⟩, K7⟩
            have hS7 := hid S7
            have hK7 := hid (K5.out.trans K7)
            have hN7 := hid (K7.part N5.out (by omega))
            have hl7 : (bs ++ bi).length = bs.length + bi.length := List.length_append
            have hz7 := K7.1.size
            have e7 := Lib.cell_of_heap S7.bn 0
            have f7 : w7.frozen? ⟨T + 1, 0, none⟩ = false := Lib.frozen_of_heap S7.bn 0
            simp only [List.getElem?_toArray] at e7
            have hfr : (E.freeT y kk (bs ++ bi)).length ≤ 1 + kk.flat.length := by
              unfold E.freeT
              have h1 : (E.ownN y (bs ++ bi)).length ≤ 1 := by unfold E.ownN; split <;> simp
              have h2 := kk.free_length y 0 (bs ++ bi)
              rw [List.length_append]
              omega
            have HEQ : Hid ((fs2 ++ E.freeT y kk (bs ++ bi)) ++ r.free ⟨k1, s1, s2, s3, n1, n2, t1, t2⟩ (k + 1) bs = fs ++ E.freeT ⟨k1, s1, s2, s3, n1, n2, t1, t2⟩ ks bs) := hid (by rw [← E2.out, E.Fo.free_cons, HBI.out, List.append_assoc])
            have HR : Hid (l.drop (q + 1 + kk.flat.length) = r.flat ++ rest) := hid (by
              have h := congrArg (List.drop (1 + kk.flat.length)) HDQ.out
              rw [List.drop_drop] at h
              rw [show q + 1 + kk.flat.length = q + (1 + kk.flat.length) by omega, h, Nat.add_comm 1, List.drop_succ_cons, List.drop_left])
            have HFR : Hid r.fit := hid F2.out.2.2
            have hfl2 : Hid ((fs2 ++ E.freeT y kk (bs ++ bi)).length + r.flat.length ≤ fs.length + 1 + ks.flat.length) := hid (by rw [List.length_append]; omega)
            obtain ⟨A7, c7, hv, hn7, hm7⟩ : ∃ A7 c7, vb7 = .slice A7 (bs ++ bi).length c7 ∧ (bs ++ bi).length ≤ c7 ∧ c7 ≤ maxLen := by
              rcases S7.ob.2 with ⟨hv, h0⟩ | ⟨g7, c7, cur, hv, -, -, hn7, hm7, -⟩
              · exact ⟨none, 0, by rw [hv, h0], by omega, by decide⟩
              · exact ⟨_, c7, hv, hn7, hm7⟩
            have hc7 : bs.length ≤ c7 := by omega
            obtain ⟨hS8, hK8⟩ := S7.bound (S7.ob.cut A7 c7 bs.length hv (by omega)) (grown_refl _ _) (by rw [hv]; cases A7 <;> exact Or.inl rfl)
            rw [List.take_left] at hS8
            have S8 := hid hS8
            have K8 := hid (hK7.out.trans hK8)
            have N8 := hid (hK8.part hN7.out (by omega))
            rw [hv] at e7
            unfold maxLen at hm7
            clear S7 K7 hS8 hK8 hv hfr
            generalize (bs ++ bi).length = n7 at *
            go_wp2
            go_roundw
            case rel =>
              exact ⟨k + 1, r, q + 1 + kk.flat.length, _, vf7, _, by go_num, by omega, by omega, by omega, hfl2.out, S8, K8, N8, HR, HFR, HEQ⟩
            case measure => simp [intOf]; omega

end Go.Proofs.YthbieinbpfjgkaaGreatDoor
end

section
/-
  The walk of ast.Free. Conditions: a row of trees each of whose parts has as many children as it says, at most 10000 parts.
-/
namespace Go.Proofs.YthbieinbpfjgkaaGreatDoor
open Go.RowKit Go.Sort

theorem OwnS.enc {B : Nat} {v : Value} {ss : List ByteArray} {w : World} (h : OwnS B v ss w) : w.ownsRow B 9 1 v ss.length ((ss.map (·.data.toList)).map encStr) := by
  rw [Lib.map_encStr]; exact h

theorem OwnS.of_enc {B : Nat} {v : Value} {zs : List (List UInt8)} {w : World} (h : w.ownsRow B 9 1 v zs.length (zs.map encStr)) : OwnS B v (zs.map fun l => (⟨l.toArray⟩ : ByteArray)) w := by
  unfold OwnS
  rw [List.length_map, List.map_map]
  exact h

/-- Sorted, each once. -/
def freeS (fs : List ByteArray) : List ByteArray := (Lib.compact ((fs.map (·.data.toList)).mergeSort fun x y => decide (x ≤ y))).map fun l => (⟨l.toArray⟩ : ByteArray)

theorem freeS_asc (fs : List ByteArray) : E.Asc (freeS fs) := by
  unfold freeS E.Asc
  rw [List.pairwise_map]
  exact (E.compact_asc _ (E.sorted_cB _)).1.imp (fun {a b} h => by simpa using h)

theorem freeS_mem (fs : List ByteArray) (s : ByteArray) : s ∈ freeS fs ↔ s ∈ fs := by
  unfold freeS
  rw [List.mem_map]
  constructor
  · rintro ⟨l, hl, rfl⟩
    rw [(E.compact_asc _ (E.sorted_cB _)).2, List.mem_mergeSort, List.mem_map] at hl
    obtain ⟨t, ht, rfl⟩ := hl
    exact ht
  · intro h
    exact ⟨s.data.toList, by rw [(E.compact_asc _ (E.sorted_cB _)).2, List.mem_mergeSort]; exact List.mem_map.2 ⟨s, h, rfl⟩, by simp⟩

/-- slices.Sort, then slices.Compact, of a row of the call's own. -/
theorem sortS_any {B : Nat} {v : Value} {fs : List ByteArray} {w : World} (h : OwnS B v fs w) (hl : fs.length ≤ 1000000) (hB : B ≤ w.heap.size) :
    Calls Tryz.prog 52 #[v] w fun e w' => e = .returned (.tuple #[]) ∧ w.grownBy w' v.ownBlock ∧ ∃ zs : List (List UInt8), zs = (fs.map (·.data.toList)).mergeSort (fun x y => decide (x ≤ y)) ∧ w'.ownsRow B 9 1 v zs.length (zs.map encStr) := by
  rcases h.2 with ⟨hv, h0⟩ | ⟨g, cap, cur, hv, hg, hh, hn, hcap, hsz, htake⟩
  · have : fs = [] := List.eq_nil_of_length_eq_zero h0
    subst this
    subst hv
    refine (Any.slices_Sort_string_none Tryz.lays190 none 0 w).mono ?_
    rintro e w' ⟨rfl, rfl⟩
    exact ⟨rfl, grown_refl _ _, [], by simp, World.ownsRow_nil _ _ _ _⟩
  · have henc : cur.toList.take (fs.map (·.data.toList)).length = (fs.map (·.data.toList)).map encStr := by
      rw [Lib.map_encStr, List.length_map, ← htake, Nat.mul_one]
    have H := Tryz.slices_Sort_string g 0 cap (fs.map (·.data.toList)) w (holds_of_block hh henc) (heap_lt hh) (by rw [List.length_map]; omega)
    rw [List.length_map] at H
    subst hv
    refine H.mono ?_
    rintro e w' ⟨rfl, n, os, rfl⟩
    refine ⟨rfl, grownBy_sorted _, _, rfl, ?_⟩
    have := ownsRow_sorted (w := w) (base := B) (g := g) (cap := cap) (e := 9) (os := os) (n := n) (cur := cur) (ss := fs.map (·.data.toList)) (ts := (fs.map (·.data.toList)).mergeSort fun x y => decide (x ≤ y)) (by rw [List.length_mergeSort]) hg hh (by rw [List.length_map]; exact hn) hcap hsz
    rw [List.length_map] at this
    rw [List.length_mergeSort, List.length_map]
    exact this

theorem compactS_any {B : Nat} {v : Value} {zs : List (List UInt8)} {w : World} (h : w.ownsRow B 9 1 v zs.length (zs.map encStr)) (hl : zs.length ≤ 1000000) (hB : B ≤ w.heap.size) :
    Calls Tryz.prog 53 #[v] w fun e w' => ∃ v', e = .returned v' ∧ w.grownBy w' v.ownBlock ∧ w'.ownsRow B 9 1 v' (Lib.compact zs).length ((Lib.compact zs).map encStr) := by
  rcases h.2 with ⟨hv, h0⟩ | ⟨g, cap, cur, hv, hg, hh, hn, hcap, hsz, htake⟩
  · have : zs = [] := List.eq_nil_of_length_eq_zero h0
    subst this
    subst hv
    refine (Tryz.slices_Compact_string_empty none 0 w).mono ?_
    rintro e w' ⟨rfl, rfl⟩
    exact ⟨_, rfl, grown_refl _ _, World.ownsRow_nil _ _ _ _⟩
  · subst hv
    refine (Tryz.slices_Compact_string g 0 cap zs w (holds_of_block hh (by rw [← htake, Nat.mul_one])) (by omega) hn).mono ?_
    rintro e w' ⟨rfl, q, rfl⟩
    have hle := Lib.compact_length_le zs
    have h1 := Lib.ownsRow_putRow (enc := encStr) (q := q) (k := (Lib.compact zs).length) (ys := Lib.compact zs ++ List.replicate (zs.length - (Lib.compact zs).length) []) h (by rw [List.length_append, List.length_replicate]; omega) hle
    rw [List.take_left] at h1
    refine ⟨_, rfl, ?_, h1⟩
    have hb := Lib.below_putRow (enc := encStr) (q := q) (d := (Lib.compact zs ++ List.replicate (zs.length - (Lib.compact zs).length) []).toArray) (Below.refl g w) (Nat.le_refl g)
    refine ⟨hb.os, hb.tape, hb.output, hb.size, fun k hk hne => ?_⟩
    have : g ≠ k := fun e => hne (by rw [← e]; rfl)
    simp [putRow, mapBlock, Sort.ahead, Array.getElem?_modify, this]

theorem five_new (w : World) (a b c d e : Obj) : let W := ((((w.alloc a).alloc b).alloc c).alloc d).alloc e
    W.heap[w.heap.size]? = some a ∧ W.heap[w.heap.size + 1]? = some b ∧ W.heap[w.heap.size + 2]? = some c ∧ W.heap[w.heap.size + 3]? = some d ∧ W.heap[w.heap.size + 4]? = some e ∧ Below w.heap.size w W ∧ W.heap.size = w.heap.size + 5 := by
  have h0 := heap_alloc_new w a
  have h1 := heap_alloc_new (w.alloc a) b
  have h2 := heap_alloc_new ((w.alloc a).alloc b) c
  have h3 := heap_alloc_new (((w.alloc a).alloc b).alloc c) d
  have h4 := heap_alloc_new ((((w.alloc a).alloc b).alloc c).alloc d) e
  have s1 : (w.alloc a).heap.size = w.heap.size + 1 := by simp
  have s2 : ((w.alloc a).alloc b).heap.size = w.heap.size + 2 := by simp
  have s3 : (((w.alloc a).alloc b).alloc c).heap.size = w.heap.size + 3 := by simp
  have s4 : ((((w.alloc a).alloc b).alloc c).alloc d).heap.size = w.heap.size + 4 := by simp
  rw [s1] at h1
  rw [s2] at h2
  rw [s3] at h3
  rw [s4] at h4
  refine ⟨?_, ?_, ?_, ?_, h4, ?_, by simp⟩
  · rw [Lib.alloc_old _ _ _ (by omega), Lib.alloc_old _ _ _ (by omega), Lib.alloc_old _ _ _ (by omega), Lib.alloc_old _ _ _ (by omega)]; exact h0
  · rw [Lib.alloc_old _ _ _ (by omega), Lib.alloc_old _ _ _ (by omega), Lib.alloc_old _ _ _ (by omega)]; exact h1
  · rw [Lib.alloc_old _ _ _ (by omega), Lib.alloc_old _ _ _ (by omega)]; exact h2
  · rw [Lib.alloc_old _ _ _ (by omega)]; exact h3
  · exact (((((Below.refl w.heap.size w).alloc (Nat.le_refl _) a).alloc (by omega) b).alloc (by omega) c).alloc (by omega) d).alloc (by omega) e

set_option maxHeartbeats 8000000 in
set_option maxRecDepth 100000 in
theorem afree_any (x : E.Pt) (ks : E.Fo) (hfit : (E.Fo.cons x ks .nil).fit) (hmn : ∀ y ∈ x :: ks.flat, -1000000 ≤ y.many ∧ y.many ≤ 1000000) (hln : ks.flat.length + 1 ≤ 10000) (v : Value) (w : World) (hx : RdP w w.heap.size v (x :: ks.flat)) (hK : KTab w) (h2 : 2 ≤ w.heap.size) :
    Calls Tryz.prog 24 #[v] w fun e w' => ∃ v', e = .returned v' ∧ OwnS w.heap.size v' (freeS (E.freeT x ks [])) w' ∧ Below w.heap.size w w' := by
  have HX := hid hx
  have HK := hid hK
  obtain ⟨l, hl⟩ : ∃ l, l = x :: ks.flat := ⟨_, rfl⟩
  rw [← hl] at hx HX hmn
  have hlen : l.length = ks.flat.length + 1 := by rw [hl]; rfl
  obtain ⟨A, cap, rfl, hl1, hl2, -⟩ := hx
  unfold maxLen at hl2
  have hfv := fvisit_any l hmn (by omega) (.slice A l.length cap) w.heap.size h2 (ks.flat.length + 1) x ks (by omega) hfit [] 0
  have HFV := hid hfv
  have HL := hid hl
  have hpos : 0 < l.length := by omega
  have hl10 : ks.flat.length ≤ l.length := by omega
  have hlB : l.length ≤ 10000 := by omega
  have hfl : (E.freeT x ks []).length ≤ 1 + ks.flat.length := by
    unfold E.freeT
    have h1 : (E.ownN x []).length ≤ 1 := by unfold E.ownN; split <;> simp
    have h2 := ks.free_length x 0 []
    rw [List.length_append]
    omega
  obtain ⟨F, hFe⟩ : ∃ F, F = E.freeT x ks [] := ⟨_, rfl⟩
  rw [← hFe] at hfl ⊢
  have hF : F.length ≤ 10000 := by omega
  have HFE := hid hFe
  clear hFe hfl
  obtain ⟨FN, hFN⟩ : ∃ FN, FN = Value.func (.func 49) #[] #[.pointer (some ⟨w.heap.size, 0, none⟩), .pointer (some ⟨w.heap.size + 3, 0, none⟩), .pointer (some ⟨w.heap.size + 1, 0, none⟩), .pointer (some ⟨w.heap.size + 2, 0, none⟩), .pointer (some ⟨w.heap.size + 4, 0, none⟩)] := ⟨_, rfl⟩
  have FIVE := five_new w (.cells #[.slice A l.length cap] 23) (.cells #[.slice none 0 0] 34) (.cells #[.slice none 0 0] 34) (.cells #[.int .i64 ((0 : Nat) : Int)] 3) (.cells #[FN] 1)
  obtain ⟨W, hW⟩ : ∃ W, W = ((((w.alloc (.cells #[.slice A l.length cap] 23)).alloc (.cells #[.slice none 0 0] 34)).alloc (.cells #[.slice none 0 0] 34)).alloc (.cells #[.int .i64 ((0 : Nat) : Int)] 3)).alloc (.cells #[FN] 1) := ⟨_, rfl⟩
  simp only at FIVE
  rw [← hW] at FIVE
  obtain ⟨g0, g1, g2, g3, g4, gB, gs⟩ := FIVE
  have HS : Hid (FSt l (.slice A l.length cap) w.heap.size 0 (.slice none 0 0) (.slice none 0 0) [] [] W) := hid
    ⟨g0, g1, g2, g3, by rw [g4, hFN], OwnS.nil _ _, OwnS.nil _ _, (fun g hg => nomatch hg), HX.out.low gB (fun h => h.low gB)⟩
  have HB := hid gB
  have HKW := hid (HK.out.grows gB)
  subst hFN
  subst hW
  clear g0 g1 g2 g3 g4 gB hfv hmn hl hfit hlen
  go_enter Tryz.func24, Tryz.ntmps24
  go_wp2_with fail
  refine (HFV.out (.slice none 0 0) (.slice none 0 0) [] [] _ (by rw [HL.out, List.drop_zero, List.append_nil]) HKW.out HS.out (by simp; omega) (by simp; omega)).mono ?_
  rintro e w6 ⟨rfl, ⟨vb6, vf6, S6⟩, K6⟩
  rw [List.nil_append, ← HFE.out] at S6
  have hz6 := S6.nest
  obtain ⟨A6, c6, hv6⟩ := S6.of.val
  have hz0 := K6.1.size
  have SO := hid (sortS_any S6.of (by omega) (by omega))
  have c6' := Lib.cell_of_heap S6.fr 0
  have OF := hid S6.of
  have FR := hid S6.fr
  have HB6 : Hid (Below w.heap.size w w6) := hid (HB.out.trans K6.1)
  subst hv6
  simp only [List.getElem?_toArray] at c6'
  clear S6 K6
  obtain ⟨h60, h61, h62, h63, h64⟩ := hz6
  go_wp2_with fail
  refine (SO.out).mono ?_
  rintro e w7 ⟨rfl, hg7, zs, hzs, ho7⟩
  have hne7 : ∀ k, k < w.heap.size + 5 → some k ≠ (Value.slice A6 F.length c6).ownBlock := fun k hk e => by have := (OF.out.row k e.symm).1; omega
  have FR7 := (hg7.block _ (heap_lt FR.out) (hne7 _ (by omega))).trans FR.out
  have c7' := Lib.cell_of_heap FR7 0
  simp only [List.getElem?_toArray] at c7'
  have hzl : zs.length = F.length := by rw [hzs, List.length_mergeSort, List.length_map]
  have hz7 := hg7.size
  have CO := hid (compactS_any ho7 (by omega) (by omega))
  have HB7 : Hid (Below w.heap.size w w7) := hid (HB6.out.grown hg7 (by omega) (fun k hk => by have := (OF.out.row k hk).1; omega))
  have HZ := hid hzs
  have HNE := hid hne7
  clear hzs ho7 hg7 hne7 FR7 hzl
  go_wp2_with fail
  refine (CO.out).mono ?_
  rintro e w8 ⟨v8, rfl, hg8, ho8⟩
  go_wp2
  go_ret
  refine ⟨v8, rfl, ?_, HB7.out.grown hg8 (by omega) (fun k hk => ?_)⟩
  · unfold freeS
    rw [← HZ.out]
    have h := OwnS.of_enc ho8
    exact ⟨h.1, h.2.imp id fun ⟨g, c, cur, a, b, r⟩ => ⟨g, c, cur, a, by omega, r⟩⟩
  · rcases Nat.lt_or_ge k (w.heap.size + 5) with h | h
    · exact absurd hk.symm (HNE.out k h)
    · omega

end Go.Proofs.YthbieinbpfjgkaaGreatDoor
end
