/-
  The texts AsW2, AsX2, one behind the other. Conditions: those that each of them names.
-/
import Derived.Test.YthbieinbpfjgkaaGreatDoorMA4
import Derived.Test.YthbieinbpfjgkaaGreatDoorMA8
section
/-
  The closure of ast.Right: the walk, whatever numbers the parts count. Conditions: Small parts, KTab, MCell.
-/
namespace Go.Proofs.YthbieinbpfjgkaaGreatDoor
open Go.RowKit Go.Sort

set_option maxHeartbeats 4000000 in
set_option maxRecDepth 100000 in
theorem avisit_all (l : List E.Pt) (hnm : ∀ x ∈ l, Small x) (hln : l.length ≤ 10000) (v : Value) (T A V : Nat) (hA2 : 2 ≤ A) (m : Nat) : ∀ (d p : Nat) (w : World), d + m = 101 → 1 ≤ d → p < l.length → KTab w → MCell w → VStP l v 29 T A V p w →
    Calls Tryz.prog 29 #[.int .i64 d, .pointer (some ⟨T, 0, none⟩), .pointer (some ⟨A, 0, none⟩), .pointer (some ⟨V, 0, none⟩)] w fun e w' =>
      e = .returned (.bool (E.visitF m (l.drop p)).isSome) ∧ w.grownBy w' (some A) ∧ ∀ r, E.visitF m (l.drop p) = some r → ∃ q : Nat, w'.heap[A]? = some (.cells #[.int .i64 q] 3 (0, 0)) ∧ q ≤ l.length ∧ l.drop q = r := by
  obtain ⟨is, his, hzs0, hzs1, hzs2⟩ := info_parts infoStr
  induction m with
  | zero =>
    intro d p w hd h1 hp _ _ hS
    obtain rfl : d = 101 := by omega
    refine (avisit_deep l v T A V p w hp hS).mono ?_
    rintro e w1 ⟨rfl, hg⟩
    exact ⟨rfl, hg, fun r hr => by cases hr⟩
  | succ m ih =>
    intro d p w hd h1 hp hK hMC hS
    have hdr : Hid (l.drop p = l[p] :: l.drop (p + 1)) := hid (List.drop_eq_getElem_cons hp)
    cases hsd : E.sound l[p] with
    | false =>
      have hV : E.visitF (m + 1) (l.drop p) = none := by rw [hdr.out, E.visitF, if_neg (by rw [hsd]; simp)]
      refine (avisit_unsound l v T A V p d w (by omega) hMC hp (hnm _ (List.getElem_mem hp)) hsd hS).mono ?_
      rintro e w1 ⟨rfl, hg⟩
      exact ⟨by rw [hV]; rfl, hg, fun r hr => by rw [hV] at hr; cases hr⟩
    | true =>
      have IH := hid ih
      have HS := hid hS
      have HK := hid hK
      have HMC := hid hMC
      have HNM := hid hnm
      obtain ⟨A0, cap, rfl, hl1, hl2, hcx⟩ := hS.rd
      obtain ⟨b, o, rfl, hb, hcx⟩ := hcx (by rintro rfl; simp at hp)
      obtain ⟨vt, vu, x0, x1, x2, x3, x4, x5, x6, x7, ht, hu⟩ := hcx p hp
      obtain ⟨A1, c1, rfl⟩ : ∃ A1 c1, vt = .slice A1 l[p].t.length c1 := by obtain ⟨A1, c1, h, -⟩ := ht; exact ⟨A1, c1, h⟩
      obtain ⟨A2, c2, rfl⟩ : ∃ A2 c2, vu = .slice A2 l[p].u.length c2 := by obtain ⟨A2, c2, h, -⟩ := hu; exact ⟨A2, c2, h⟩
      have HC := hid hcx
      have cT := Lib.cell_of_heap hS.t 0
      have cA := Lib.cell_of_heap hS.a 0
      unfold maxLen at hl2
      have hAt := heap_lt hS.a
      have fA : w.frozen? ⟨A, 0, none⟩ = false := Lib.frozen_of_heap hS.a 0
      have hn := hnm _ (List.getElem_mem hp)
      have hmx := E.many_bound hsd
      clear hS hcx hnm ih hK hMC
      generalize l[p] = X at *
      obtain ⟨k1, s1, s2, s3, n1, n2, t1, t2⟩ := X
      have hd2 : d ≤ 100 := by omega
      obtain ⟨O, hO⟩ : ∃ O : Obj, O = (.cells #[.int .i64 k1, .string s1, .string s2, .string s3, .int .i64 n1, .int .i64 n2, .slice A1 t1.length c1, .slice A2 t2.length c2] 39) := ⟨_, rfl⟩
      have hnew : Hid (∀ w1 : World, Below (w.alloc O).heap.size (w.alloc O) w1 →
          w.grownBy w1 (some A) ∧ w1.heap[w.heap.size]? = some (.cells #[.int .i64 k1, .string s1, .string s2, .string s3, .int .i64 n1, .int .i64 n2, .slice A1 t1.length c1, .slice A2 t2.length c2] 39 (0, 0)) ∧ w1.heap[A]? = some (.cells #[.int .i64 p] 3 (0, 0)) ∧ w.heap.size < w1.heap.size) := hid fun w1 hb1 =>
        ⟨grown_below (World.grownBy_alloc w _ _) hb1, (hb1.block _ (by simp)).trans (by rw [hO]; exact heap_alloc_new w _), (hb1.block _ (by simp; omega)).trans ((heap_alloc_old w _ hAt).trans HS.out.a), by have := hb1.size; simp at this; omega⟩
      have HSD := hid (isSound_any ⟨k1, s1, s2, s3, n1, n2, t1, t2⟩ hn.1 hn.2.1 hn.2.2.2.1 hn.2.2.2.2 A1 A2 c1 c2 (w.alloc O) (HMC.out.grows (below_new _)) ((ht.alloc _).mono (by simp; omega)) ((hu.alloc _).mono (by simp; omega)))
      rw [hsd] at HSD
      have hV : Hid (E.visitF (m + 1) (l.drop p) = E.kidsF (E.visitF m) ⟨k1, s1, s2, s3, n1, n2, t1, t2⟩ (E.many ⟨k1, s1, s2, s3, n1, n2, t1, t2⟩).toNat 0 [] (l.drop (p + 1))) := hid (by rw [hdr.out, E.visitF, if_pos hsd])
      have hmany := E.many_of_sound hsd
      have HM := hid (fun (w1 : World) (hT : KTab w1) => amany_any ⟨k1, s1, s2, s3, n1, n2, t1, t2⟩ (.slice A1 t1.length c1) (.slice A2 t2.length c2) hmx w1 hT)
      obtain ⟨c, hc⟩ : ∃ c : Nat, E.many ⟨k1, s1, s2, s3, n1, n2, t1, t2⟩ = c := ⟨(E.many ⟨k1, s1, s2, s3, n1, n2, t1, t2⟩).toNat, by omega⟩
      rw [hc] at HM hV hmany
      unfold partV at HSD HM
      subst hO
      clear ht hu hn hmx hsd
      simp only at *
      go_enter Tryz.func29, Tryz.ntmps29
      go_wp2_with fail
      refine (HSD.out).mono ?_
      rintro e w1 ⟨rfl, hb1⟩
      obtain ⟨hg1, hN1, hA1, hz1⟩ := hnew.out w1 hb1
      have cA1 := Lib.cell_of_heap hA1 0
      have fA1 : w1.frozen? ⟨A, 0, none⟩ = false := Lib.frozen_of_heap hA1 0
      have cN := fun j => Lib.cell_of_heap hN1 j
      have hne : A ≠ w.heap.size := by omega
      have hne2 : w.heap.size ≠ A := by omega
      clear fA cA cT x0 x1 x2 x3 x4 x5 x6 x7
      go_wp2_with fail
      have hg1s : w.grownBy (w1.setCell ⟨A, 0, none⟩ (.int .i64 ((p : Int) + 1))) (some A) := grown_trans hg1 ⟨rfl, rfl, rfl, by simp, fun i hi hn => heap_setCell_other w1 ⟨A, 0, none⟩ i _ (fun h => hn (by rw [h]))⟩
      refine (HM.out _ (HK.out.grown hg1s hA2)).mono ?_
      rintro e w2 ⟨rfl, hb2⟩
      have hg2 : w.grownBy w2 (some A) := grown_below hg1s hb2
      have hA2b : w2.heap[A]? = some (.cells #[.int .i64 ((p + 1 : Nat) : Int)] 3 (0, 0)) := (hb2.block A (by simp; omega)).trans (heap_setCell_same w1 A 0 _ _ _ hA1)
      have hN2 : w2.heap[w.heap.size]? = some (.cells #[.int .i64 k1, .string s1, .string s2, .string s3, .int .i64 n1, .int .i64 n2, .slice A1 t1.length c1, .slice A2 t2.length c2] 39 (0, 0)) := (hb2.block _ (by simp; omega)).trans ((heap_setCell_other w1 _ _ _ (by simp; omega)).trans hN1)
      have HS2 : Hid (VStP l (.slice (some ⟨b, o, none⟩) l.length cap) 29 T A V (p + 1) w2) := hid (HS.out.keep hg2 hA2b)
      clear hb2 hb1 hg1 hg1s hN1 hA1 cA1 fA1 cN
      go_wp2
      go_loopw [7, 24] (fun v7 v24 wr => ∃ (k q : Nat) (bf : List ByteArray), v24 = .int .i64 k ∧ k ≤ c ∧ q ≤ l.length ∧ bf.length = k ∧ OwnS (w.heap.size + 1) v7 bf wr ∧ VStP l (.slice (some ⟨b, o, none⟩) l.length cap) 29 T A V q wr ∧ w.grownBy wr (some A) ∧ wr.heap[w.heap.size]? = some (.cells #[.int .i64 k1, .string s1, .string s2, .string s3, .int .i64 n1, .int .i64 n2, .slice A1 t1.length c1, .slice A2 t2.length c2] 39 (0, 0)) ∧
        Hid (E.kidsF (E.visitF m) ⟨k1, s1, s2, s3, n1, n2, t1, t2⟩ (c - k) k bf (l.drop q) = E.visitF (m + 1) (l.drop p))) (fun _ v24 _ => c - (intOf v24).toNat)
      case atStart => exact ⟨0, p + 1, [], rfl, by omega, by omega, rfl, OwnS.nil _ _, HS2.out, hg2, hN2, hid (by rw [hV.out]; rfl)⟩
      case round =>
        obtain ⟨k, q, bf, rfl, hk, hq, hbl, hOS, hS, hg, hN, hKF⟩ := hrel
        have HN := hid hN
        have hNj := fun j => Lib.cell_of_heap hN j
        have cT := Lib.cell_of_heap hS.t 0
        have cA := Lib.cell_of_heap hS.a 0
        have cV := Lib.cell_of_heap hS.f 0
        have hza := heap_lt hS.a
        have HSR := hid hS
        have HOS := hid hOS
        have HBL := hid hbl
        have hbl2 : bf.length ≤ 1000000 := by omega
        clear hbl
        by_cases hkc : k < c
        · obtain ⟨c', hc'⟩ : ∃ c', c - k = c' + 1 := ⟨c - k - 1, by omega⟩
          rw [hc'] at hKF
          obtain ⟨Al, cl, hvl⟩ := hOS.val
          subst hvl
          by_cases hql : q = l.length
          · subst hql
            have hz : Hid (E.visitF (m + 1) (l.drop p) = none) := hid (by rw [← hKF.out, List.drop_length, E.kidsF])
            go_wp2
            have kT := cell_regrown cT
            have kA := cell_regrown cA
            clear cT cA cV hNj hS hKF hOS hN
            refine wp_region_quiet_below (by kernel_rfl) (by kernel_rfl) ?_
            repeat (go_big_quiet_step (fail))
            refine wpQuiet_nil ?_
            intro _ hw'
            obtain ⟨⟨nq, osq⟩, hw''⟩ := hw'
            subst hw''
            have hB3 := below_regrown wr nq osq
            go_wp2
            go_ret
            exact ⟨ret_bool (by rw [hz.out]; rfl), grown_below hg hB3, fun r hr => by rw [hz.out] at hr; cases hr⟩
          · have hq2 : q < l.length := by omega
            obtain ⟨A0', cap', hv', -, -, hcy⟩ := hS.rd
            simp only [Value.slice.injEq, true_and] at hv'
            obtain ⟨rfl, rfl⟩ := hv'
            obtain ⟨b', o', hbo, hb', hcy⟩ := hcy (by rintro rfl; simp at hq2)
            simp only [Option.some.injEq, Addr.mk.injEq, and_true] at hbo
            obtain ⟨rfl, rfl⟩ := hbo
            obtain ⟨wt, wu, y0, y1, y2, y3, y4, y5, y6, y7, yt, yu⟩ := hcy q hq2
            obtain ⟨B1, d1, rfl⟩ : ∃ A1 c1, wt = .slice A1 l[q].t.length c1 := by obtain ⟨A1, c1, h, -⟩ := yt; exact ⟨A1, c1, h⟩
            obtain ⟨B2, d2, rfl⟩ : ∃ A1 c1, wu = .slice A1 l[q].u.length c1 := by obtain ⟨A1, c1, h, -⟩ := yu; exact ⟨A1, c1, h⟩
            have hsy := (HNM.out _ (List.getElem_mem hq2)).2.2.1
            have hdq : Hid (l.drop q = l[q] :: l.drop (q + 1)) := hid (List.drop_eq_getElem_cons hq2)
            clear hcy yt yu
            generalize l[q] = Y at *
            have hql2 : ((q : Int) == (l.length : Int)) = false := by simp; omega
            have hms := fun (W : World) (hW : RdS W W.heap.size (.slice Al bf.length cl) bf) => amay_any ⟨k1, s1, s2, s3, n1, n2, t1, t2⟩ k bf Y hsy hbl2 (.slice A1 t1.length c1) (.slice A2 t2.length c2) (.slice B1 Y.t.length d1) (.slice B2 Y.u.length d2) (.slice Al bf.length cl) W hW
            obtain ⟨ke, lb, nm, bd, mm, nn, tt, uu⟩ := Y
            have hN0 := hNj 0
            have hN1 := hNj 1
            have hN2 := hNj 2
            have hN3 := hNj 3
            have hN4 := hNj 4
            have hN5 := hNj 5
            have hN6 := hNj 6
            have hN7 := hNj 7
            simp only [List.getElem?_toArray] at hN0 hN1 hN2 hN3 hN4 hN5 hN6 hN7
            unfold partV at hms
            simp only at hms y0 y1 y2 y3 y4 y5 y6 y7 hsy hdq
            cases hmay : E.may ⟨k1, s1, s2, s3, n1, n2, t1, t2⟩ k bf ⟨ke, lb, nm, bd, mm, nn, tt, uu⟩ with
            | false =>
              simp only [hmay] at hms
              have cM := fun d os => Calls.regrown_of (hms (grow (redrawn wr d) os) (hOS.rd.below (below_regrown wr d os)))
              have CM := hid cM
              have hz : Hid (E.visitF (m + 1) (l.drop p) = none) := hid (by rw [← hKF.out, hdq.out, E.kidsF, if_neg (by rw [hmay]; simp)])
              go_wp2
              have kT := cell_regrown cT
              have kA := cell_regrown cA
              have kN0 := cell_regrown hN0
              have kN1 := cell_regrown hN1
              have kN2 := cell_regrown hN2
              have kN3 := cell_regrown hN3
              have kN4 := cell_regrown hN4
              have kN5 := cell_regrown hN5
              have kN6 := cell_regrown hN6
              have kN7 := cell_regrown hN7
              have ky0 := cell_regrown y0
              have ky1 := cell_regrown y1
              have ky2 := cell_regrown y2
              have ky3 := cell_regrown y3
              have ky4 := cell_regrown y4
              have ky5 := cell_regrown y5
              have ky6 := cell_regrown y6
              have ky7 := cell_regrown y7
              clear cT cA cV hN0 hN1 hN2 hN3 hN4 hN5 hN6 hN7 hNj hN hS hKF hms cM y0 y1 y2 y3 y4 y5 y6 y7 hOS
              refine wp_region_quiet_below (by kernel_rfl) (by kernel_rfl) ?_
              repeat (go_big_quiet_step (exact CM.out _ _))
              refine wpQuiet_nil ?_
              intro _ hw'
              obtain ⟨⟨nq, osq⟩, hw''⟩ := hw'
              subst hw''
              have hB3 := below_regrown wr nq osq
              go_wp2
              go_ret
              exact ⟨ret_bool (by rw [hz.out]; rfl), grown_below hg hB3, fun r hr => by rw [hz.out] at hr; cases hr⟩
            | true =>
              simp only [hmay] at hms
              have cM := fun d os => Calls.regrown_of (hms (grow (redrawn wr d) os) (hOS.rd.below (below_regrown wr d os)))
              have CM := hid cM
              have hz : Hid (E.visitF (m + 1) (l.drop p) = (E.visitF m (l.drop q)).bind (E.kidsF (E.visitF m) ⟨k1, s1, s2, s3, n1, n2, t1, t2⟩ c' (k + 1) (bf ++ [lb]))) := hid (by rw [← hKF.out, hdq.out, E.kidsF, if_pos hmay])
              go_wp2
              have kT := cell_regrown cT
              have kA := cell_regrown cA
              have kN0 := cell_regrown hN0
              have kN1 := cell_regrown hN1
              have kN2 := cell_regrown hN2
              have kN3 := cell_regrown hN3
              have kN4 := cell_regrown hN4
              have kN5 := cell_regrown hN5
              have kN6 := cell_regrown hN6
              have kN7 := cell_regrown hN7
              have ky0 := cell_regrown y0
              have ky1 := cell_regrown y1
              have ky2 := cell_regrown y2
              have ky3 := cell_regrown y3
              have ky4 := cell_regrown y4
              have ky5 := cell_regrown y5
              have ky6 := cell_regrown y6
              have ky7 := cell_regrown y7
              clear cT cA cV hN0 hN1 hN2 hN3 hN4 hN5 hN6 hN7 hNj hN hS hKF hms cM y0 y1 y2 y3 y4 y5 y6 y7 hOS
              refine wp_region_quiet_below (by kernel_rfl) (by kernel_rfl) ?_
              repeat (go_big_quiet_step (exact CM.out _ _))
              refine wpQuiet_nil ?_
              intro _ hw'
              obtain ⟨⟨nq, osq⟩, hw''⟩ := hw'
              subst hw''
              have hB3 := below_regrown wr nq osq
              have hg3 := grown_below hg hB3
              have HO3 := hid (HOS.out.below hB3)
              have HN3 := hid ((hB3.block _ (heap_lt HN.out)).trans HN.out)
              have HA3 := hid ((hB3.block A hza).trans HSR.out.a)
              have hs3 := hB3.size
              have hwn := heap_lt HN.out
              have jT := kT nq osq
              have jA := kA nq osq
              have jy1 := ky1 nq osq
              clear kT kA kN0 kN1 kN2 kN3 kN4 kN5 kN6 kN7 ky0 ky1 ky2 ky3 ky4 ky5 ky6 ky7 hB3 CM
              generalize grow (redrawn wr nq) osq = w3 at *
              have hBl := below_new (w := w3) (.cells #[.string lb] 9)
              have HS5 := hid (HO3.out.below hBl)
              have hones : Hid (∀ u ∈ [Value.string lb], u.oneCell' = true) := hid (by intro u hu; simp at hu; subst hu; rfl)
              clear hBl
              go_wp2_with (at_builtin; refine wpList_append_own _ rfl _ _ 34 rfl (w.heap.size + 1) 9 is (.string ⟨#[]⟩) 1 16 Tryz.underlying34 his hzs0 hzs1 hzs2 rfl (by decide) _ _ _ rfl HS5.out ⟨w3.heap.size, 0, none⟩ 1 1 [.string lb] rfl rfl (str_oneP w3 _) hones.out ?c3 ?c4 ?c5 ?_)
              case c3 => unfold maxLen; omega
              case c4 => omega
              case c5 => first | omega | (simp; omega)
              intro v5 w5 hown hgrow _
              have hO5 := OwnS.snoc lb hown
              obtain ⟨hg5, hk5⟩ := grown_app (B := w.heap.size + 1) hg3 _ hgrow (fun k hk => (World.ownsRow.lt HS5.out k hk).1) (by omega)
              have hN5 := (hk5 w.heap.size (by omega) (by omega)).trans HN3.out
              have hA5 := (hk5 A (by omega) (by omega)).trans HA3.out
              have hS5 := HS.out.keep hg5 hA5
              have K5 := HK.out.grown hg5 hA2
              have M5 := HMC.out.grown hg5 hA2
              have hi := IH.out (d + 1) q w5 (by omega) (by omega) hq2 K5 M5 hS5
              have HG5 := hid hg5
              have HN5 := hid hN5
              have HV5 := hid hS5
              have HO5 := hid hO5
              have jV := Lib.cell_of_heap hS5.f 0
              have hz5 := heap_lt hN5
              clear hown hgrow hg5 hk5 hN5 hA5 hS5 K5 M5 hO5 jT jA jy1 HS5 HO3 hg3 HN3 HA3 hones
              cases hvis : E.visitF m (l.drop q) with
              | none =>
                rw [hvis] at hi
                have HI := hid hi
                have hz2 : Hid (E.visitF (m + 1) (l.drop p) = none) := hid (by rw [hz.out, hvis]; rfl)
                clear hi
                go_wp2_with fail
                refine (HI.out).mono ?_
                rintro e w6 ⟨rfl, hg6, -⟩
                go_wp2
                go_ret
                exact ⟨ret_bool (by rw [hz2.out]; rfl), grown_trans HG5.out hg6, fun r hr => by rw [hz2.out] at hr; cases hr⟩
              | some r =>
                rw [hvis] at hi
                have HI := hid hi
                have hz2 : Hid (E.visitF (m + 1) (l.drop p) = E.kidsF (E.visitF m) ⟨k1, s1, s2, s3, n1, n2, t1, t2⟩ c' (k + 1) (bf ++ [lb]) r) := hid (by rw [hz.out, hvis]; rfl)
                clear hi
                go_wp2_with fail
                refine (HI.out).mono ?_
                rintro e w6 ⟨rfl, hg6, hr6⟩
                obtain ⟨q', hA6, hq', hdr'⟩ := hr6 r rfl
                go_wp2
                go_roundw
                case rel =>
                  refine ⟨k + 1, q', bf ++ [lb], by go_num, by omega, hq', by rw [List.length_append, HBL.out]; rfl, HO5.out.grown hg6 (by omega), HV5.out.keep hg6 hA6, grown_trans HG5.out hg6, (hg6.block _ hz5 (by simp; omega)).trans HN5.out, hid ?_⟩
                  rw [hz2.out, show c - (k + 1) = c' by omega, hdr']
                case measure => simp [intOf]; omega
        · obtain rfl : k = c := by omega
          go_wp2
          go_ret
          rw [Nat.sub_self, E.kidsF] at hKF
          refine ⟨ret_bool (by rw [← hKF.out]; rfl), hg, fun r hr => ?_⟩
          rw [← hKF.out] at hr
          exact ⟨q, HSR.out.a, hq, Option.some.inj hr⟩

end Go.Proofs.YthbieinbpfjgkaaGreatDoor
end

section
/-
  The walk of ast.Right. Conditions: Small parts, KTab, MCell.
-/
namespace Go.Proofs.YthbieinbpfjgkaaGreatDoor
open Go.RowKit Go.Sort

set_option maxHeartbeats 4000000 in
set_option maxRecDepth 100000 in
theorem aright_all (l : List E.Pt) (hnm : ∀ x ∈ l, Small x) (v : Value) (w : World) (hx : RdP w w.heap.size v l) (hK : KTab w) (hMC : MCell w) :
    Calls Tryz.prog 12 #[v] w fun e w' => e = .returned (.bool (E.rightL l)) ∧ Below w.heap.size w w' := by
  have HK := hid hK
  have HMC := hid hMC
  have h2w : 2 ≤ w.heap.size := hMC.choose_spec.2
  clear hK hMC
  have HX := hid hx
  obtain ⟨A, cap, rfl, hl1, hl2, hcx⟩ := hx
  unfold maxLen at hl2
  have HCX := hid hcx
  have HNM := hid hnm
  clear hcx hnm
  by_cases h0 : l = []
  · subst h0
    go_enter Tryz.func12, Tryz.ntmps12
    go_wp2
    go_ret
    exact ⟨rfl, below_new _⟩
  have hpos : 0 < l.length := List.length_pos_iff.2 h0
  have e0 : ((l.length : Int) == 0) = false := by simp; omega
  by_cases hbig : 10000 < l.length
  · go_enter Tryz.func12, Tryz.ntmps12
    go_wp2
    go_ret
    refine ⟨ret_bool ?_, below_new _⟩
    cases l with
    | nil => exact absurd rfl h0
    | cons x r =>
      symm
      simp only [E.rightL, Bool.and_eq_false_iff]
      exact Or.inl (Or.inl (by simp at hbig ⊢; omega))
  obtain ⟨b, o, rfl, hb, hcx⟩ := HCX.out h0
  obtain ⟨vt, vu, x0, x1, x2, x3, x4, x5, x6, x7, ht, hu⟩ := hcx 0 hpos
  obtain ⟨A1, c1, rfl⟩ : ∃ A1 c1, vt = .slice A1 l[0].t.length c1 := by obtain ⟨A1, c1, h, -⟩ := ht; exact ⟨A1, c1, h⟩
  obtain ⟨A2, c2, rfl⟩ : ∃ A2 c2, vu = .slice A2 l[0].u.length c2 := by obtain ⟨A2, c2, h, -⟩ := hu; exact ⟨A2, c2, h⟩
  clear ht hu
  have hl0 : ∃ r, l = l[0] :: r := by
    cases l with
    | nil => exact absurd rfl h0
    | cons x r => exact ⟨r, rfl⟩
  have hbig2 : l.length ≤ 10000 := by omega
  clear hcx
  have HL0 := hid hl0
  clear hl0
  simp only [Nat.zero_mul, Nat.add_zero] at x0 x1 x2 x3 x4 x5 x6 x7
  generalize l[0] = X at *
  obtain ⟨k1, s1, s2, s3, n1, n2, t1, t2⟩ := X
  have hba := isBare_any ⟨k1, s1, s2, s3, n1, n2, t1, t2⟩ (.slice A1 t1.length c1) (.slice A2 t2.length c2)
  unfold partV at hba
  simp only at hba x0 x1 x2 x3 x4 x5 x6 x7
  cases hbare : E.bare ⟨k1, s1, s2, s3, n1, n2, t1, t2⟩ with
  | false =>
    simp only [hbare] at hba
    have HB := hid hba
    have hz : Hid (E.rightL l = false) := hid (by obtain ⟨r, hr⟩ := HL0.out; rw [hr, E.rightL, hbare]; simp)
    clear hba hbare
    go_enter Tryz.func12, Tryz.ntmps12
    go_wp2_with fail
    refine (HB.out _).mono ?_
    rintro e w1 ⟨rfl, hb1⟩
    go_wp2
    go_ret
    exact ⟨ret_bool hz.out.symm, (below_new _).trans (hb1.mono (by simp))⟩
  | true =>
    simp only [hbare] at hba
    have HB := hid hba
    have hz : Hid (E.rightL l = decide (E.visitF 100 (l.drop 0) = some [])) := hid (by
      obtain ⟨r, hr⟩ := HL0.out
      rw [hr] at hbig2 ⊢
      rw [E.rightL, hbare, List.drop_zero]
      simp only [hbig2, decide_true, Bool.true_and])
    clear hba hbare
    go_enter Tryz.func12, Tryz.ntmps12
    go_wp2_with fail
    refine (HB.out _).mono ?_
    rintro e w1 ⟨rfl, hb1⟩
    have hw1 : Below w.heap.size w w1 := (below_new _).trans (hb1.mono (by simp))
    have hT1 : w1.heap[w.heap.size]? = some (.cells #[.slice (some ⟨b, o, none⟩) l.length cap] 23 (0, 0)) := (hb1.block _ (by simp)).trans (heap_alloc_new w _)
    have HT1 := hid hT1
    have cc1 := Lib.cell_of_heap hT1 0
    have hz1 := heap_lt hT1
    clear hT1
    have hne : w.heap.size ≠ w1.heap.size := by omega
    have hne1 : w.heap.size ≠ w1.heap.size + 1 := by omega
    go_wp2_with fail
    have hS : VStP l (.slice (some ⟨b, o, none⟩) l.length cap) 29 w.heap.size w1.heap.size (w1.heap.size + 1) 0 ((w1.alloc (.cells #[.int .i64 ((0 : Nat) : Int)] 3)).alloc (.cells #[.func (.func 29) #[] #[.pointer (some ⟨w.heap.size, 0, none⟩), .pointer (some ⟨w1.heap.size, 0, none⟩), .pointer (some ⟨w1.heap.size + 1, 0, none⟩)]] 45)) := by
      refine ⟨?_, ?_, ?_, ?_, hz1, by omega⟩
      · rw [Lib.alloc_old _ _ _ (by simp; omega), Lib.alloc_old _ _ _ hz1]; exact HT1.out
      · rw [Lib.alloc_old _ _ _ (by simp)]; exact heap_alloc_new w1 _
      · have := heap_alloc_new (w1.alloc (.cells #[.int .i64 ((0 : Nat) : Int)] 3)) (.cells #[.func (.func 29) #[] #[.pointer (some ⟨w.heap.size, 0, none⟩), .pointer (some ⟨w1.heap.size, 0, none⟩), .pointer (some ⟨w1.heap.size + 1, 0, none⟩)]] 45)
        simpa using this
      · have hb2 := (below_new (w := w1) (.cells #[.int .i64 ((0 : Nat) : Int)] 3)).trans ((below_new (w := w1.alloc (.cells #[.int .i64 ((0 : Nat) : Int)] 3)) (.cells #[.func (.func 29) #[] #[.pointer (some ⟨w.heap.size, 0, none⟩), .pointer (some ⟨w1.heap.size, 0, none⟩), .pointer (some ⟨w1.heap.size + 1, 0, none⟩)]] 45)).mono (by simp))
        exact (HX.out.below hw1).low hb2 (fun h => h.low hb2)
    have hb4 : ∀ o1 o2 : Obj, Below w1.heap.size w1 ((w1.alloc o1).alloc o2) := fun o1 o2 => (below_new o1).trans ((below_new o2).mono (by simp))
    have h2w1 : 2 ≤ w1.heap.size := by have := hw1.size; omega
    refine (avisit_all l HNM.out hbig2 _ _ _ _ h2w1 100 1 0 _ (by omega) (by omega) hpos ((HK.out.grows hw1).below (hb4 _ _) (by omega)) ((HMC.out.grows hw1).below (hb4 _ _) (by omega)) hS).mono ?_
    rintro e w2 ⟨rfl, hg2, hr2⟩
    have hB2 : Below w.heap.size w w2 := by
      refine hw1.trans ⟨hg2.os, hg2.tape, hg2.output, by have := hg2.size; simp at this; omega, fun k hk => ?_⟩
      rw [hg2.block k (by simp; omega) (by simp; omega), Lib.alloc_old _ _ _ (by simp; omega), Lib.alloc_old _ _ _ (by omega)]
    have hT2 := (hg2.block w.heap.size (by simp; omega) (by simp; omega)).trans hS.t
    have cT2 := Lib.cell_of_heap hT2 0
    cases hv : E.visitF 100 (l.drop 0) with
    | none =>
      rw [hv] at hz
      go_wp2
      go_ret
      exact ⟨ret_bool (by rw [hz.out]; rfl), hB2⟩
    | some r =>
      rw [hv] at hz
      obtain ⟨q, hA2, hq, hdq⟩ := hr2 r hv
      have cA2 := Lib.cell_of_heap hA2 0
      go_wp2
      go_ret
      refine ⟨ret_bool ?_, hB2⟩
      rw [hz.out, ← hdq, Bool.eq_iff_iff]
      simp
      omega

end Go.Proofs.YthbieinbpfjgkaaGreatDoor
end
