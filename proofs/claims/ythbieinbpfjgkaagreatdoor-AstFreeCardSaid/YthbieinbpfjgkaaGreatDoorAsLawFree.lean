/-
  AstFree is true for any row of parts. No conditions but the card's own.
-/
import Derived.Test.YthbieinbpfjgkaaGreatDoorRows
import Derived.Test.YthbieinbpfjgkaaGreatDoorCards
import Derived.Test.YthbieinbpfjgkaaGreatDoorTie
import Derived.Test.YthbieinbpfjgkaaGreatDoorMA17
import Derived.Test.YthbieinbpfjgkaaGreatDoorMA16
import Derived.Test.YthbieinbpfjgkaaGreatDoorMA19
import Derived.Test.YthbieinbpfjgkaaGreatDoorAsFm
import Derived.Deep.RegionHeldLaw
import Derived.SevenTiedAt
namespace Go.Proofs.YthbieinbpfjgkaaGreatDoor.astFree
open Go.ChangeShapes Go.WideShapes Go.ChangeAt Go.RowKit


theorem own : ownKnob Tryz.prog.godebug = none := by kernel_rfl

theorem cells_sub {ys : List (E.Pt × Value × Value)} {q n : Nat} (hq : q + n ≤ ys.length) {j : Nat} {u : Value} (h : (cellsP ((ys.drop q).take n))[j]? = some u) : (cellsP ys)[q * 8 + j]? = some u := by
  have hl : ((ys.drop q).take n).length = n := by rw [List.length_take, List.length_drop]; omega
  have hj : j < n * 8 := by
    rcases Nat.lt_or_ge j (n * 8) with h1 | h1
    · exact h1
    · rw [List.getElem?_eq_none (by rw [cellsP_len, hl]; exact h1)] at h; cases h
  have e1 := cellsP_at ((ys.drop q).take n) (j / 8) (by rw [hl]; omega) (j % 8) (Nat.mod_lt _ (by omega))
  rw [show j / 8 * 8 + j % 8 = j by omega, h] at e1
  have e2 := cellsP_at ys (q + j / 8) (by omega) (j % 8) (Nat.mod_lt _ (by omega))
  rw [show (q + j / 8) * 8 + j % 8 = q * 8 + j by omega] at e2
  rw [e2, e1]
  congr 2
  simp

theorem step_append_ownD {P : Program} {ops : Array Oper} {w : World} {o : Oper} {a : Act} {K : Act → World → Prop} {Q : Exit → Act → World → Prop} {E : Prop} (hg : o.guard = none) (s x : Operand) (t : TypeId)
    (ho : o.op = .call { callee := .builtin .append, args := #[s, x], argTypes := #[t, t] })
    (base : Nat) (e : TypeId) (i : TypeInfo) (z : Value) (size bytes : Nat) (ht : P.underlying t = some (.slice e)) (hi : P.info? e = some i) (hz : i.zero = some z)
    (hsize : i.size = size) (hby : i.bytes = bytes) (hzs : z.cells.size = size) (hsz : 0 < size)
    (v : Value) (n : Nat) (xs : List Value) (hs : a.eval s = v) (hown : w.ownsRow base e size v n xs)
    (ad : Addr) (m c : Nat) (news : List Value) (hx : a.eval x = .slice (some ad) m c) (hl : news.length = m * size) (hnews : ∀ j u, news[j]? = some u → w.cell? (ad.add j) = some u) (h1 : ∀ u ∈ news, u.oneCell' = true)
    (h63 : n + m ≤ maxLen) (hbytes : (n + m) * bytes ≤ 140737488355328) (hbase : base ≤ w.heap.size) (d : Option Nat) (hd : o.dst = d)
    (h : ∀ v' w', w'.ownsRow base e size v' (n + m) (xs ++ news) → w.grownBy w' v.ownBlock → (v' = .slice none 0 0 ↔ v = .slice none 0 0 ∧ m = 0) → K (a.put d v') w') :
    if Region.wanted o (yielded ops a.tmps) = true then Oper.wp P o a w K Q else E := by
  subst hd
  have hw : Region.wanted o (yielded ops a.tmps) = true := by simp [Region.wanted, hg]
  rw [if_pos hw]
  exact wp_append_own w s x t ho base e i z size bytes ht hi hz hsize hby hzs hsz v n xs hs hown ad m c news hx hl hnews h1 h63 hbytes hbase h

theorem freeS_len {z : E.Pt} {zk : E.Fo} (h : zk.flat.length + 1 ≤ 1000) : (freeS (E.freeT z zk [])).length ≤ 1000 := by
  unfold freeS
  rw [List.length_map]
  have h1 := Lib.compact_length_le ((List.map (fun x => x.data.toList) (E.freeT z zk [])).mergeSort fun x y => decide (x ≤ y))
  rw [List.length_mergeSort, List.length_map] at h1
  have h2 := (E.Fo.cons z zk .nil).free_length (⟨3, ⟨#[]⟩, ⟨#[]⟩, ⟨#[]⟩, 0, 0, [], []⟩) 0 []
  have h3 : (E.freeT z zk []).length ≤ (E.Fo.cons z zk .nil).flat.length := by
    refine Nat.le_trans ?_ h2
    rw [E.Fo.free_cons]
    show (E.freeT z zk []).length ≤ (E.freeT z zk ([] ++ []) ++ []).length
    simp
  simp [E.Fo.flat] at h3
  omega
theorem own_of {B : Nat} {v : Value} {sb : List (E.Pt × Value × Value)} {w : World} {n : Nat} (h : sb.length = n) (ho : w.ownsRow B 39 8 v (0 + n) ([] ++ cellsP sb)) : OwnP B v sb w := by
  unfold OwnP
  subst h
  rw [Nat.zero_add, List.nil_append] at ho
  exact ho
theorem less_of {a b : ByteArray} (h : Lib.compareBytes a.data.toList b.data.toList < 0) : Op.bytesLess a.toList b.toList = true := by
  have := L.ltB_iff a b
  unfold L.ltB at this
  rw [this]
  simpa using h
theorem free_named {l : List E.Pt} {x : E.Pt} {ks : E.Fo} (hl : l = x :: ks.flat) {s : ByteArray} (h : s ∈ freeS (E.freeT x ks [])) : (l.any fun y => decide (y.kind = 1) && decide (y.name = s)) = true := by
  rw [freeS_mem] at h
  obtain ⟨y, hy, h1, h2⟩ := E.freeT_mem h
  rw [hl, List.any_eq_true]
  exact ⟨y, hy, by simp [h1, h2]⟩

set_option maxHeartbeats 8000000 in
set_option maxRecDepth 100000 in
theorem astFree_true {W : World} (va : Value) (la : List E.Pt) (ha : RdP W W.heap.size va la) (_ : ∀ y ∈ la, NumP y) (hT : Tab W) (hK : KTab W) (hM : MCell W) :
    Calls Tryz.prog 6 #[va] W fun e w' => e = .returned (.bool true) ∧ Below W.heap.size W w' := by
  have FA := hid (rfew_any la 120 (by decide) va W ha)
  have AL := hid (fun (W' : World) (hW : Below W.heap.size W W') => aalive_any W' (hT.grows hW) (hK.grows hW) (hM.grows hW))
  have HA := hid ha
  have HK := hid hK
  have HM := hid hM
  have h2W := hM.choose_spec.2
  obtain ⟨Aa, ca, hva, hl1, hl2, -⟩ := ha
  unfold maxLen at hl2
  clear hT hK hM
  cases hfa : E.fewL la 120 with
  | false =>
    rw [hfa] at FA
    subst hva
    clear hfa
    go_enter Tryz.func6, Tryz.ntmps6
    go_wp2_with fail
    refine (FA.out).mono ?_
    rintro e w1 ⟨rfl, hw1⟩
    have hw2 := hw1.symm
    subst hw2
    clear hw1
    go_wp2_with fail
    refine (AL.out _ (Below.refl _ _)).mono ?_
    rintro e w1 ⟨rfl, h1⟩
    go_wp2
    go_ret
    exact ⟨rfl, h1⟩
  | true =>
    rw [hfa] at FA
    have HSA : Hid (∀ x ∈ la, Small x) := hid fun x hx => E.small_of_few (List.all_eq_true.1 ((Bool.and_eq_true _ _).mp hfa).2 x hx)
    have h120 : la.length ≤ 120 := of_decide_eq_true ((Bool.and_eq_true _ _).mp hfa).1
    have RR := hid (raright_any la HSA.out va W HA.out)
    clear hfa
    cases hra : E.rightL la with
    | false =>
      rw [hra] at RR
      subst hva
      clear hra
      go_enter Tryz.func6, Tryz.ntmps6
      go_wp2_with fail
      refine (FA.out).mono ?_
      rintro e w1 ⟨rfl, hw1⟩
      have hw2 := hw1.symm
      subst hw2
      clear hw1
      go_wp2_with fail
      refine (RR.out).mono ?_
      rintro e w1 ⟨rfl, hr1⟩
      go_wp2_with fail
      refine (AL.out _ hr1).mono ?_
      rintro e w2 ⟨rfl, h1⟩
      go_wp2
      go_ret
      exact ⟨rfl, hr1.trans (h1.mono hr1.size)⟩
    | true =>
      rw [hra] at RR
      obtain ⟨x, ks, hlx, -, -, hok, -⟩ := (E.rightL_iff la).1 hra
      have hmany : ∀ y ∈ la, -1000000 ≤ y.many ∧ y.many ≤ 1000000 := fun y hy => E.many_bound (E.sound_flat (E.Fo.cons x ks .nil) hok y (by rw [hlx] at hy; simpa [E.Fo.flat] using hy))
      obtain ⟨ys, bl, o, cap, hys, hry, hvb, hb, hcap1, hcap2, hcells⟩ := HA.out.pick (by rw [hlx]; simp)
      have HYS := hid hys
      have HRY := hid hry
      have HCE := hid hcells
      unfold maxLen at hcap2
      have HYL : Hid (ys.length = la.length) := hid (by rw [← hys, List.length_map])
      have HLX := hid hlx
      have HOK := hid hok
      have hla0 : 0 < la.length := by rw [hlx]; simp
      have HFR := hid (fun (W' : World) (hW : Below W.heap.size W W') => afree_any x ks (E.ok_fit _ hok) (by rw [← hlx]; exact hmany) (by have := congrArg List.length hlx; simp at this; omega) va W' (by rw [← hlx]; exact HA.out.below hW) (HK.out.grows hW) (by have := hW.size; omega))
      obtain ⟨LS, hLS⟩ : ∃ LS, LS = freeS (E.freeT x ks []) := ⟨_, rfl⟩
      rw [← hLS] at HFR
      have HLS := hid hLS
      have HNM : Hid (∀ s ∈ LS, (la.any fun y => decide (y.kind = 1) && decide (y.name = s)) = true) := hid (fun s hs => free_named hlx (by rw [← hLS]; exact hs))
      have HAS : Hid (E.Asc LS) := hid (by rw [hLS]; exact freeS_asc _)
      have hLl2 : LS.length ≤ 1000 := by
        rw [hLS]
        unfold freeS
        rw [List.length_map]
        have h1 := Lib.compact_length_le ((List.map (fun x => x.data.toList) (E.freeT x ks [])).mergeSort fun x y => decide (x ≤ y))
        rw [List.length_mergeSort, List.length_map] at h1
        have h2 := (E.Fo.cons x ks .nil).free_length (⟨3, ⟨#[]⟩, ⟨#[]⟩, ⟨#[]⟩, 0, 0, [], []⟩) 0 []
        have h3 : (E.freeT x ks []).length ≤ (E.Fo.cons x ks .nil).flat.length := by
          refine Nat.le_trans ?_ h2
          rw [E.Fo.free_cons]
          show (E.freeT x ks []).length ≤ (E.freeT x ks ([] ++ []) ++ []).length
          simp
        have h4 := congrArg List.length hlx
        simp [E.Fo.flat] at h3 h4
        omega
      obtain ⟨y, ks2, r2, hdp, hok0, hdeep⟩ := E.tree_of_right hra hla0
      obtain ⟨gy1, -, gy3⟩ := E.getD_drop hdp
      have hsnd : la.all E.sound = true := List.all_eq_true.2 (fun z hz => E.sound_flat (E.Fo.cons x ks .nil) hok z (by rw [hlx] at hz; simpa [E.Fo.flat] using hz))
      have hkx : ks2 = ks ∧ y = x ∧ r2 = [] := by
        rw [List.drop_zero, hlx] at hdp
        injection hdp with h1 h2
        obtain ⟨b1, b2, b3, b4, -⟩ := E.ok_cons hok0
        obtain ⟨a1, a2, a3, a4, -⟩ := E.ok_cons hok
        subst h1
        have h3 := E.Fo.flat_inj ks2 ks r2 [] (E.ok_fit _ b4) (E.ok_fit _ a4) (by omega) (by rw [← h2]; simp)
        exact ⟨h3.1, rfl, h3.2⟩
      obtain ⟨rfl, rfl, rfl⟩ := hkx
      obtain ⟨k1, k2, k3, k4, -⟩ := E.ok_cons hok0
      have HFW := hid (afew_of (by omega) hsnd)
      have hc60 : ks2.count ≤ 60 := by have := (E.many_of_sound k1).2; omega
      have hyp : la[0] = y := by rw [← gy1]; simp [List.getD, hla0]
      have HY0 := hid hyp
      have HKD := hid (fun (W' : World) (hW : Below W.heap.size W W') => akids_any la HFW.out va 0 hla0 W' (HA.out.below hW) (HK.out.grows hW))
      rw [hyp, k2, Int.toNat_natCast] at HKD
      have HEN := hid (fun (q : Nat) (hq : q < la.length) (W' : World) (hW : Below W.heap.size W W') => aend_any la HFW.out va q hq W' (HA.out.below hW) (HK.out.grows hW))
      have HG := hid gy3
      have HK4 := hid k4
      have HDE := hid hdeep
      obtain ⟨kl, hkl⟩ : ∃ kl, kl = E.kidsL la ks2.count (0 + 1) := ⟨_, rfl⟩
      rw [← hkl] at HKD
      have hkc : kl.length = ks2.count := by rw [hkl]; exact (E.kids_flat la y ks2 (0 + 1) 0 [] [] k4 gy3).1
      have HKL := hid hkl
      have HKC := hid hkc
      obtain ⟨ip, hip, hz0, hz1, hz2⟩ := info_parts infoPart
      clear hra hlx hok hmany hys hry hcells hva hl1 hl2 hLS hdp gy1 gy3 hsnd k1 k2 k3 k4 hok0 hdeep hyp hkl hkc
      subst hvb
      go_enter Tryz.func6, Tryz.ntmps6
      go_wp2_with fail
      refine (FA.out).mono ?_
      rintro e w1 ⟨rfl, hw1⟩
      have hw2 := hw1.symm
      subst hw2
      clear hw1
      go_wp2_with fail
      refine (RR.out).mono ?_
      rintro e w1 ⟨rfl, hr1⟩
      have B1 := hid hr1
      clear hr1
      go_wp2_with fail
      refine (HFR.out _ B1.out).mono ?_
      rintro e w2 ⟨vl, rfl, ol, h6⟩
      have B6 := hid (B1.out.trans (h6.mono B1.out.size))
      have RL6 := hid ol.rd
      obtain ⟨Al, cl, rfl⟩ := ol.val
      clear h6 ol
      go_wp2
      go_loopw [4] (fun v4 wr => ∃ k : Nat, v4 = .int .i64 k ∧ k ≤ LS.length ∧ Hid (Below W.heap.size W wr) ∧ Hid (RdS wr wr.heap.size (.slice Al LS.length cl) LS)) (fun v4 _ => LS.length - (intOf v4).toNat)
      case atStart => exact ⟨0, rfl, by omega, B6, RL6⟩
      case round =>
        obtain ⟨k, rfl, hk, BW, RL⟩ := hrel
        by_cases hlt : k < LS.length
        · have hil : (k : Int) < (LS.length : Int) := by omega
          obtain ⟨A', c', hv', hcl⟩ := RL.out
          simp only [Value.slice.injEq, true_and] at hv'
          obtain ⟨rfl, rfl⟩ := hv'
          obtain ⟨bl', ol', rfl, hbl, hcl⟩ := hcl (by rintro rfl; simp at hlt)
          have cl1 := hcl k hlt
          have HCL := hid hcl
          have hsm : LS[k] ∈ LS := List.getElem_mem hlt
          obtain ⟨s, hs⟩ : ∃ s, s = LS[k] := ⟨_, rfl⟩
          rw [← hs] at cl1 hsm
          have HS := hid hs
          clear hcl hs
          go_wp2
          go_loopw [5, 6] (fun v5 v6 wq => ∃ (j : Nat) (p : Bool), v5 = .bool p ∧ v6 = .int .i64 j ∧ j ≤ la.length ∧ Hid ((p || (la.drop j).any fun y => decide (y.kind = 1) && decide (y.name = s)) = la.any fun y => decide (y.kind = 1) && decide (y.name = s)) ∧ Hid (Below wr.heap.size wr wq)) (fun _ v6 _ => la.length - (intOf v6).toNat)
          case atStart => exact ⟨0, false, rfl, rfl, by omega, hid (by rw [List.drop_zero, Bool.false_or]), hid (Below.refl _ _)⟩
          case round =>
            obtain ⟨j, p, rfl, rfl, hj, hD, BR⟩ := hrel
            have B6 := hid (BW.out.trans (BR.out.mono BW.out.size))
            have c6 := (BR.out.cell (p := ⟨bl', ol' + k, none⟩) hbl).trans cl1
            by_cases hlt2 : j < la.length
            · obtain ⟨b', o', vt, vu, hA, hb', x0, x1, x2, x3, x4, x5, x6, x7, -, -⟩ := HA.out.at B6.out hlt2
              simp only [Option.some.injEq, Addr.mk.injEq, and_true] at hA
              obtain ⟨rfl, rfl⟩ := hA
              have hil2 : (j : Int) < (la.length : Int) := by omega
              have hst : Hid ((p || ((decide (la[j].kind = 1) && decide (la[j].name = s)) || (la.drop (j + 1)).any fun y => decide (y.kind = 1) && decide (y.name = s))) = la.any fun y => decide (y.kind = 1) && decide (y.name = s)) := hid (by rw [← hD.out, List.drop_eq_getElem_cons hlt2, List.any_cons])
              obtain ⟨P, hPe⟩ : ∃ P, la[j] = P := ⟨_, rfl⟩
              rw [hPe] at x0 x2 hst
              obtain ⟨k1, s1, s2, s3, n1, n2, t1, t2⟩ := P
              simp only at x0 x2 hst
              have hse := eqS s2 s
              clear x1 x3 x4 x5 x6 x7 hPe hD
              cases p with
              | true =>
                have HD2 : Hid ((true || (la.drop (j + 1)).any fun y => decide (y.kind = 1) && decide (y.name = s)) = la.any fun y => decide (y.kind = 1) && decide (y.name = s)) := hid (by rw [← hst.out, Bool.true_or, Bool.true_or])
                clear hst hse
                go_wp2
                go_quiet (fail)
                go_wp2
                go_roundw
                case rel => first | exact ⟨j + 1, true, by go_num, by go_num, by omega, HD2, BR⟩ | ((repeat apply Exists.intro); exact ⟨⟨j + 1, true, by go_num, by go_num, by omega, HD2, BR⟩, rfl⟩) | exact ⟨j + 1, true, by go_num, by go_num, by omega, HD2, hid (below_drewN BR.out _)⟩ | ((repeat apply Exists.intro); exact ⟨⟨j + 1, true, by go_num, by go_num, by omega, HD2, hid (below_drewN BR.out _)⟩, rfl⟩)
                case measure => simp [intOf]; omega
              | false =>
                by_cases hk1 : k1 = 1
                · have k1' : (k1 == 1) = true := by simpa using hk1
                  by_cases hs : s2 = s
                  · rw [decide_eq_true hs] at hse
                    have HD2 : Hid ((true || (la.drop (j + 1)).any fun y => decide (y.kind = 1) && decide (y.name = s)) = la.any fun y => decide (y.kind = 1) && decide (y.name = s)) := hid (by rw [← hst.out, decide_eq_true hs, decide_eq_true hk1, Bool.true_and, Bool.false_or])
                    clear hst hs hk1
                    go_wp2
                    go_quiet (fail)
                    go_wp2
                    go_roundw
                    case rel => first | exact ⟨j + 1, true, by go_num, by go_num, by omega, HD2, BR⟩ | ((repeat apply Exists.intro); exact ⟨⟨j + 1, true, by go_num, by go_num, by omega, HD2, BR⟩, rfl⟩) | exact ⟨j + 1, true, by go_num, by go_num, by omega, HD2, hid (below_drewN BR.out _)⟩ | ((repeat apply Exists.intro); exact ⟨⟨j + 1, true, by go_num, by go_num, by omega, HD2, hid (below_drewN BR.out _)⟩, rfl⟩)
                    case measure => simp [intOf]; omega
                  · rw [decide_eq_false hs] at hse
                    have HD2 : Hid ((false || (la.drop (j + 1)).any fun y => decide (y.kind = 1) && decide (y.name = s)) = la.any fun y => decide (y.kind = 1) && decide (y.name = s)) := hid (by rw [← hst.out, decide_eq_false hs, decide_eq_true hk1, Bool.true_and, Bool.false_or, Bool.false_or])
                    clear hst hs hk1
                    go_wp2
                    go_quiet (fail)
                    go_wp2
                    go_roundw
                    case rel => first | exact ⟨j + 1, false, by go_num, by go_num, by omega, HD2, BR⟩ | ((repeat apply Exists.intro); exact ⟨⟨j + 1, false, by go_num, by go_num, by omega, HD2, BR⟩, rfl⟩) | exact ⟨j + 1, false, by go_num, by go_num, by omega, HD2, hid (below_drewN BR.out _)⟩ | ((repeat apply Exists.intro); exact ⟨⟨j + 1, false, by go_num, by go_num, by omega, HD2, hid (below_drewN BR.out _)⟩, rfl⟩)
                    case measure => simp [intOf]; omega
                · have k1' : (k1 == 1) = false := by simpa using hk1
                  have HD2 : Hid ((false || (la.drop (j + 1)).any fun y => decide (y.kind = 1) && decide (y.name = s)) = la.any fun y => decide (y.kind = 1) && decide (y.name = s)) := hid (by rw [← hst.out, decide_eq_false hk1, Bool.false_and, Bool.false_or, Bool.false_or])
                  clear hst hse hk1
                  go_wp2
                  go_quiet (fail)
                  go_wp2
                  go_roundw
                  case rel => first | exact ⟨j + 1, false, by go_num, by go_num, by omega, HD2, BR⟩ | ((repeat apply Exists.intro); exact ⟨⟨j + 1, false, by go_num, by go_num, by omega, HD2, BR⟩, rfl⟩) | exact ⟨j + 1, false, by go_num, by go_num, by omega, HD2, hid (below_drewN BR.out _)⟩ | ((repeat apply Exists.intro); exact ⟨⟨j + 1, false, by go_num, by go_num, by omega, HD2, hid (below_drewN BR.out _)⟩, rfl⟩)
                  case measure => simp [intOf]; omega
            · have hil2 : ¬ (j : Int) < (la.length : Int) := by omega
              have hp : p = true := by
                have h := hD.out
                rw [List.drop_eq_nil_of_le (by omega), List.any_nil, Bool.or_false] at h
                rw [h]
                exact HNM.out s hsm
              subst hp
              clear hD
              have RL7 := hid (RL.out.below BR.out)
              by_cases hk0 : k = 0
              · subst hk0
                go_wp2
                go_quiet (fail)
                go_wp2
                go_roundw
                case rel => first | exact ⟨1, by go_num, by omega, B6, RL7⟩ | ((repeat apply Exists.intro); exact ⟨⟨1, by go_num, by omega, B6, RL7⟩, rfl⟩) | ((repeat apply Exists.intro); exact ⟨⟨1, by go_num, by omega, hid (below_drewN B6.out _), hid (RL7.out.below (below_drewN (Below.refl _ _) _))⟩, rfl⟩) | exact ⟨1, by go_num, by omega, hid (below_drewN B6.out _), hid (RL7.out.below (below_drewN (Below.refl _ _) _))⟩
                case measure => simp [intOf]; omega
              · obtain ⟨k0, rfl⟩ : ∃ k0, k = k0 + 1 := ⟨k - 1, by omega⟩
                have c5 := (BR.out.cell (p := ⟨bl', ol' + k0, none⟩) hbl).trans (HCL.out k0 (by omega))
                have hkk : (0 : Int) < ((k0 + 1 : Nat) : Int) := by omega
                have hkm : ((k0 + 1 : Nat) : Int) - 1 = (k0 : Int) := by omega
                have hk0l : (k0 : Int) < (LS.length : Int) := by omega
                have hlt5 : Lib.compareBytes (LS[k0]'(by omega)).data.toList s.data.toList < 0 := by
                  rw [HS.out]
                  exact List.pairwise_iff_getElem.1 HAS.out k0 (k0 + 1) (by omega) hlt (by omega)
                obtain ⟨s5, hs5⟩ : ∃ s5, s5 = LS[k0]'(by omega) := ⟨_, rfl⟩
                rw [← hs5] at c5 hlt5
                have hbl5 : Op.bytesLess s5.toList s.toList = true := less_of hlt5
                clear hs5 hlt5
                go_wp2
                go_quiet (fail)
                go_wp2
                go_roundw
                case rel => first | exact ⟨k0 + 1 + 1, by go_num, by omega, B6, RL7⟩ | ((repeat apply Exists.intro); exact ⟨⟨k0 + 1 + 1, by go_num, by omega, B6, RL7⟩, rfl⟩) | ((repeat apply Exists.intro); exact ⟨⟨k0 + 1 + 1, by go_num, by omega, hid (below_drewN B6.out _), hid (RL7.out.below (below_drewN (Below.refl _ _) _))⟩, rfl⟩) | exact ⟨k0 + 1 + 1, by go_num, by omega, hid (below_drewN B6.out _), hid (RL7.out.below (below_drewN (Below.refl _ _) _))⟩
                case measure => simp [intOf]; omega
        · have hil : ¬ (k : Int) < (LS.length : Int) := by omega
          have HK0 := hid (HKD.out _ BW.out)
          go_wp2_with fail
          refine (HK0.out).mono ?_
          rintro e w3 ⟨v5, rfl, hO, hk2⟩
          obtain ⟨A5, c5, hv5, -⟩ := hO.rd
          have B2 := hid (BW.out.trans (hk2.mono BW.out.size))
          have RL2 := hid (RL.out.below hk2)
          have RI2 := hid hO.rd
          subst hv5
          clear hk2 hO
          go_wp2
          go_loopw [8] (fun v8 wz => ∃ (k q : Nat) (g : E.Fo), v8 = .int .i64 k ∧ k + g.count = kl.length ∧ q + g.flat.length = 0 + 1 + ks2.flat.length ∧ Hid (g.ok = true) ∧ g.deep ≤ 99 ∧ Hid (la.drop q = g.flat ++ []) ∧ Hid (kl.drop k = E.kidsL la g.count q) ∧ Hid (∀ s, s ∈ g.free y k [] → s ∈ LS) ∧ Hid (Below W.heap.size W wz) ∧ Hid (RdI wz (.slice A5 kl.length c5) kl) ∧ Hid (RdS wz wz.heap.size (.slice Al LS.length cl) LS)) (fun v8 _ => kl.length - (intOf v8).toNat)
          case atStart => exact ⟨0, 0 + 1, ks2, rfl, by rw [HKC.out]; omega, rfl, HK4, by have := HDE.out; omega, HG, hid (by rw [List.drop_zero]; exact HKL.out), hid (fun s hs => by rw [HLS.out, freeS_mem]; exact E.free_kids hs), B2, RI2, RL2⟩
          case round =>
            obtain ⟨k, q, g, rfl, hkc, hqg, gok, gd, hdq, hkq, hfr, BW3, RI, RL3⟩ := hrel
            obtain ⟨w3r, hw3r⟩ : ∃ w3r, w3r = wr := ⟨_, rfl⟩
            subst hw3r
            cases g with
            | nil =>
              have hk : k = kl.length := by simpa [E.Fo.count] using hkc
              have hkl : ¬ (k : Int) < (kl.length : Int) := by omega
              clear hk hqg hkc
              go_wp2_with fail
              refine (AL.out _ BW3.out).mono ?_
              rintro e w4 ⟨rfl, h4⟩
              go_wp2
              go_ret
              exact ⟨rfl, BW3.out.trans (h4.mono BW3.out.size)⟩
            | cons z zk g2 =>
              obtain ⟨m1, m2, m3, m4, m5⟩ := E.ok_cons gok.out
              have hfl : (E.Fo.cons z zk g2).flat.length = zk.flat.length + g2.flat.length + 1 := by simp [E.Fo.flat]
              rw [hfl] at hqg
              have hkc2 : k + (g2.count + 1) = kl.length := hkc
              have hdq' : la.drop q = z :: (zk.flat ++ (g2.flat ++ [])) := by rw [hdq.out]; simp [E.Fo.flat]
              obtain ⟨hs1, hs2⟩ := E.kidsL_step gok.out hdq'
              obtain ⟨-, hql, hdr⟩ := E.getD_drop hdq'
              have hklt : k < kl.length := by omega
              have hkd := List.drop_eq_getElem_cons hklt
              rw [hkq.out, hs1] at hkd
              injection hkd with hkk hkr
              have hdeepz : zk.deep + 1 ≤ 100 ∧ g2.deep ≤ 99 := by simp only [E.Fo.deep] at gd; omega
              obtain ⟨te, hte⟩ : ∃ te, te = q + (zk.flat.length + 1) := ⟨_, rfl⟩
              have hdte : la.drop te = g2.flat ++ [] := by
                rw [hte, show q + (zk.flat.length + 1) = q + 1 + zk.flat.length by omega]
                exact E.drop_more hdr
              have HE := hid (fun (W' : World) (hW : Below W.heap.size W W') => HEN.out q hql W' hW)
              rw [hs2, ← hte] at HE
              have htl : te ≤ la.length := by
                have := congrArg List.length hdq'
                simp at this
                omega
              have hqt : q < te := by omega
              have HTE := hid hte
              have HDT := hid hdte
              have HKR : Hid (kl.drop (k + 1) = E.kidsL la g2.count te) := hid (by rw [← hkr, hte, show q + (zk.flat.length + 1) = q + 1 + zk.flat.length by omega])
              have M5 := hid m5
              have HFR2 : Hid (∀ s, s ∈ g2.free y (k + 1) [] → s ∈ LS) := hid (fun s hs => hfr.out s (E.free_behind hs))
              have HCH : Hid (∀ s, s ∈ E.freeT z zk [] → s ∈ LS ∨ s = y.bind ∨ (y.kind = 5 ∧ s = y.name)) := hid (fun s hs => by
                rcases E.free_child (x := y) (r := g2) (k := k) hs with h | h
                · exact Or.inr (E.binds_are h)
                · exact Or.inl (hfr.out s h))
              have hsubl : ((ys.drop q).take (te - q)).length = te - q := by rw [List.length_take, List.length_drop]; have := HYL.out; omega
              have hsubm : ((ys.drop q).take (te - q)).map (·.1) = z :: zk.flat := by
                rw [List.map_take, List.map_drop, HYS.out, hdq', show te - q = zk.flat.length + 1 by omega, List.take_succ_cons, List.take_left]
              obtain ⟨sb, hsb⟩ : ∃ sb, sb = (ys.drop q).take (te - q) := ⟨_, rfl⟩
              have HSRC : Hid (∀ (W' : World), Below W.heap.size W W' → ∀ j u, (cellsP sb)[j]? = some u → W'.cell? ((⟨bl, o + q * 8, none⟩ : Addr).add j) = some u) := hid fun W' hW' j u hu => by
                rw [hsb] at hu
                have h1 := cells_sub (by have := HYL.out; omega) hu
                have h2 := HCE.out _ _ h1
                have e : ((⟨bl, o + q * 8, none⟩ : Addr).add j) = ⟨bl, o + (q * 8 + j), none⟩ := by simp [Addr.add, Nat.add_assoc]
                rw [e, hW'.cell (p := ⟨bl, o + (q * 8 + j), none⟩) hb]
                exact h2
              have HSBY : Hid (RdY W W.heap.size sb) := hid fun y' hy' => HRY.out y' (by rw [hsb] at hy'; exact List.mem_of_mem_drop (List.mem_of_mem_take hy'))
              rw [← hsb] at hsubl hsubm
              have HSM := hid hsubm
              have HSL := hid hsubl
              have HOKZ : Hid ((E.Fo.cons z zk .nil).ok = true) := hid (by
                have h := gok.out
                simp only [E.Fo.ok, Bool.and_eq_true, Bool.and_true] at h ⊢
                exact h.1)
              obtain ⟨g5, c6, hv6, hg5, hcell5⟩ := RI.out.cell (by omega)
              simp only [Value.slice.injEq, true_and] at hv6
              obtain ⟨rfl, rfl⟩ := hv6
              have ck := hcell5 k hklt
              rw [← hkk] at ck
              have hgd2 := hdeepz.2
              have htq : te - q ≤ 120 := by omega
              have hil : (k : Int) < (kl.length : Int) := by omega
              have hmx : max (te : Int) (q : Int) = te := by omega
              have hmn : min (te : Int) (la.length : Int) = te := by omega
              have hkl60 : kl.length ≤ 60 := by rw [HKC.out]; exact hc60
              have HQG := hid hqg
              have HKC2 := hid hkc2
              have HONE := hid (cellsP_one HSBY.out)
              have HLN : Hid ((cellsP sb).length = (te - q) * 8) := hid (by rw [cellsP_len, HSL.out])
              clear hs1 hs2 hdr hkk hkr hte hdte m1 m2 m3 m4 m5 hsubl hsubm hsb hfl hkc hdq' hcell5 gd hdeepz hqg
              go_wp2_with fail
              go_cut [9] from 85 to 178 (fun v9 wx => ∃ v4, v9 = v4 ∧ Hid (OwnP w3r.heap.size v4 sb wx) ∧ Hid (Below w3r.heap.size w3r wx))
              case first =>
                have BA := hid (BW3.out.alloc BW3.out.size (.cells #[] 39))
                have HMK : Hid ((w3r.alloc (.cells #[] 39)).ownsRow w3r.heap.size 39 8 (.slice (some ⟨w3r.heap.size, 0, none⟩) 0 0) 0 []) := hid (World.ownsRow_made w3r #[] 0 (Nat.le_refl _) (Nat.zero_le _) (by simp))
                have BRA := hid ((Below.refl w3r.heap.size w3r).alloc (Nat.le_refl _) (.cells #[] 39))
                have hec : te ≤ cap := by omega
                have hje : q ≤ te := by omega
                have hcj : ¬ cap = q := by omega
                have hwb1 : Hid (∀ k', (Value.slice (some ⟨w3r.heap.size, 0, none⟩) 0 0).ownBlock = some k' → w3r.heap.size ≤ k') := hid fun k' hk' => Nat.le_of_eq (Option.some.inj (show some w3r.heap.size = some k' from hk'))
                have h63 : Hid (0 + (te - q) ≤ maxLen) := hid (by unfold maxLen; omega)
                have hby : Hid ((0 + (te - q)) * 120 ≤ 140737488355328) := hid (by omega)
                have HCK := hid (fun (w' : World) (h : Below w3r.heap.size w3r w') => (h.cell (p := ⟨g5, k, none⟩) hg5).trans ck)
                go_region_held_law (fun w' => w'.cell? ⟨g5, k, none⟩ = some (.int .i64 q)) (first | exact HCK.out _ BR5.out | exact HCK.out _ BR4.out | exact HCK.out _ BR40.out | exact HCK.out _ (below_drewN BRA.out 1) | exact HCK.out _ (below_drewN (Below.refl _ _) 1) | exact HCK.out _ BRA.out | exact HCK.out _ (Below.refl _ _)) (first
                  | (refine step_append_ownD rfl (.tmp 85) (.tmp 105) 23 rfl w3r.heap.size 39 ip (.agg #[.int .i64 0, .string ⟨#[]⟩, .string ⟨#[]⟩, .string ⟨#[]⟩, .int .i64 0, .int .i64 0, .slice none 0 0, .slice none 0 0]) 8 120 Tryz.underlying23 hip hz0 hz1 hz2 rfl (by decide) (.slice (some ⟨_, 0, none⟩) 0 0) 0 [] rfl HOW4.out ⟨bl, o + q * 8, none⟩ (te - q) (cap - q) (cellsP sb) rfl HLN.out HS4.out HONE.out h63.out hby.out hz4.out (some 106) rfl (fun v5 w5 hown hgrow hnil => ?_)
                     have hO5 : OwnP w3r.heap.size v5 sb w5 := own_of HSL.out hown
                     have O5 := hid hO5
                     have BR5 := hid (BR4.out.grown hgrow BR4.out.size HKB.out)
                     clear hown hgrow hnil hO5)
                  | (first | go_at_call 16 | (go_simp; go_at_call 16)
                     refine (HE.out _ (below_drewN BA.out 1)).mono ?_
                     rintro e w4 ⟨rfl, hb4⟩
                     have B4 := hid ((below_drewN BA.out 1).trans (hb4.mono (below_drewN BA.out 1).size))
                     have BR4 := hid ((below_drewN BRA.out 1).trans (hb4.mono (below_drewN BRA.out 1).size))
                     have HOW4 := hid (row_below HMK.out ((below_drewN (Below.refl _ _) 1).trans hb4))
                     have HS4 := hid (HSRC.out _ B4.out)
                     have ck4 := (BR4.out.cell (p := ⟨g5, k, none⟩) hg5).trans ck
                     have hz4 := hid BR4.out.size
                     have HKB := hwb1
                     clear hb4)
                  | (first | go_at_call 16 | (go_simp; go_at_call 16)
                     refine (HE.out _ (below_drewN BW3.out 1)).mono ?_
                     rintro e w4 ⟨rfl, hb4⟩
                     have B40 := hid ((below_drewN BW3.out 1).trans (hb4.mono (below_drewN BW3.out 1).size))
                     have BR40 := hid ((below_drewN (Below.refl w3r.heap.size w3r) 1).trans (hb4.mono (below_drewN (Below.refl w3r.heap.size w3r) 1).size))
                     have B4 := hid (B40.out.alloc B40.out.size (.cells #[] 39))
                     have BR4 := hid (BR40.out.alloc BR40.out.size (.cells #[] 39))
                     have HOW4 : Hid ((w4.alloc (.cells #[] 39)).ownsRow w3r.heap.size 39 8 (.slice (some ⟨w4.heap.size, 0, none⟩) 0 0) 0 []) := hid (World.ownsRow_made w4 #[] 0 BR40.out.size (Nat.zero_le _) (by simp))
                     have HS4 := hid (HSRC.out _ B4.out)
                     have ck4 := (BR40.out.cell (p := ⟨g5, k, none⟩) hg5).trans ck
                     have ck5 := (BR4.out.cell (p := ⟨g5, k, none⟩) hg5).trans ck
                     have hz4 := hid BR4.out.size
                     have HKB : Hid (∀ k', (Value.slice (some ⟨w4.heap.size, 0, none⟩) 0 0).ownBlock = some k' → w3r.heap.size ≤ k') := hid fun k' hk' => Nat.le_trans BR40.out.size (Nat.le_of_eq (Option.some.inj (show some w4.heap.size = some k' from hk')))
                     clear hb4))
                all_goals go_wp2_with fail
                all_goals go_meet
                all_goals exact ⟨_, rfl, O5, BR5⟩
              case rest =>
                obtain ⟨v4, rfl, O5, BR5⟩ := hcut
                obtain ⟨w4, hw4⟩ : ∃ w4, w4 = wc := ⟨_, rfl⟩
                subst hw4
                have B5 := hid (BW3.out.trans (BR5.out.mono BW3.out.size))
                have RI5 := hid (RI.out.below BR5.out)
                have RL5 := hid (RL3.out.below BR5.out)
                obtain ⟨y0, yr, rfl⟩ : ∃ y0 yr, sb = y0 :: yr := by
                  cases sb with
                  | nil => have := HSM.out; simp at this
                  | cons a b => exact ⟨a, b, rfl⟩
                have hy0 : y0.1 = z ∧ yr.map (·.1) = zk.flat := by have := HSM.out; simpa using this
                obtain ⟨n4, hn4⟩ : ∃ n, n = (y0 :: yr).length := ⟨_, rfl⟩
                have hO4 := O5.out
                obtain ⟨g4, c4, hv4, hg4, hg4l, hc41, hc42, fz4, cc4⟩ := hO4.form (by simp)
                rw [hv4] at hO4
                have OU := hO4.unlabel
                have c0 : w4.cell? ⟨g4, 0, none⟩ = some (.int .i64 z.kind) := by
                  rw [cc4 0 (by simp), ← hy0.1]; rfl
                have c1 : w4.cell? ⟨g4, 1, none⟩ = some (.string z.label) := by
                  rw [cc4 1 (by simp; omega), ← hy0.1]; rfl
                have f1 := fz4 1
                have BS5 : Below w3r.heap.size w3r (w4.setCell ⟨g4, 1, none⟩ (.string ⟨#[]⟩)) := BR5.out.setCell (p := ⟨g4, 1, none⟩) (by show w3r.heap.size ≤ g4; exact hg4) _
                have B6 : Below W.heap.size W (w4.setCell ⟨g4, 1, none⟩ (.string ⟨#[]⟩)) := BW3.out.trans (BS5.mono BW3.out.size)
                have R6 : RdP (w4.setCell ⟨g4, 1, none⟩ (.string ⟨#[]⟩)) (w4.setCell ⟨g4, 1, none⟩ (.string ⟨#[]⟩)).heap.size (.slice (some ⟨g4, 0, none⟩) (y0 :: yr).length c4) (E.unl z :: zk.flat) := by
                  have h := OU.rdp (by simp [bareY]) (fun y' hy' => by
                    simp only [bareY, List.mem_cons] at hy'
                    rcases hy' with rfl | h
                    · have := HSBY.out y0 (by simp)
                      exact ⟨((this.1.low B6).mono B6.size), ((this.2.low B6).mono B6.size)⟩
                    · have := HSBY.out y' (by simp [h])
                      exact ⟨((this.1.low B6).mono B6.size), ((this.2.low B6).mono B6.size)⟩)
                  have e : (bareY (y0 :: yr)).map (·.1) = E.unl z :: zk.flat := by
                    simp only [bareY, List.map_cons, hy0.2]
                    rw [← hy0.1]
                    rfl
                  rw [e] at h
                  exact h
                rw [← hn4] at hv4 R6 hc41
                subst hv4
                have BH6 := hid B6
                have RI6 := hid (RI.out.below BS5)
                have RL6' := hid (RL3.out.below BS5)
                have HOKU := E.ok_unl HOKZ.out
                have hmnz : ∀ y' ∈ E.unl z :: zk.flat, -1000000 ≤ y'.many ∧ y'.many ≤ 1000000 := fun y' hy' => E.many_bound (E.sound_flat (E.Fo.cons (E.unl z) zk .nil) HOKU y' (by simpa [E.Fo.flat] using hy'))
                have hlnz : zk.flat.length + 1 ≤ 10000 := by have := congrArg List.length hy0.2; rw [List.length_map] at this; have := HSL.out; simp only [List.length_cons] at this; omega
                have HF2 := hid (afree_any (E.unl z) zk (E.ok_fit _ HOKU) hmnz hlnz _ _ R6 (HK.out.grows B6) (by have := B6.size; omega))
                obtain ⟨MS, hMS⟩ : ∃ MS, MS = freeS (E.freeT (E.unl z) zk []) := ⟨_, rfl⟩
                rw [← hMS] at HF2
                have HMS : Hid (∀ s ∈ MS, s ∈ LS ∨ s = y.bind ∨ (y.kind = 5 ∧ s = y.name)) := hid fun s hs => HCH.out s (by rw [hMS, freeS_mem, E.freeT_unl] at hs; exact hs)
                have hn4p : 0 < n4 := by rw [hn4]; simp
                have hMl : MS.length ≤ 1000 := by
                  rw [hMS]
                  exact freeS_len (by have := congrArg List.length hy0.2; rw [List.length_map] at this; have := HSL.out; simp only [List.length_cons] at this; omega)
                unfold maxLen at hc42
                clear hn4 hO4 OU B6 R6 BS5 cc4 fz4 hy0 hMS HOKU hmnz hlnz
                by_cases h8 : z.kind = 8
                · have z8 : (z.kind == 8) = true := by simp [h8]
                  clear h8
                  go_wp2
                  go_roundw
                  case rel => first | exact ⟨k + 1, te, g2, by go_num, by have := HKC2.out; omega, by have := HTE.out; have := HQG.out; omega, M5, hgd2, HDT, HKR, HFR2, B5, RI5, RL5⟩ | ((repeat apply Exists.intro); exact ⟨⟨k + 1, te, g2, by go_num, by have := HKC2.out; omega, by have := HTE.out; have := HQG.out; omega, M5, hgd2, HDT, HKR, HFR2, B5, RI5, RL5⟩, rfl⟩)
                  case measure => simp [intOf]; omega
                · have z8 : (z.kind == 8) = false := by simpa using h8
                  clear h8
                  go_wp2_with fail
                  refine (HF2.out).mono ?_
                  rintro e w7 ⟨vm, rfl, om, h7⟩
                  have B7 := hid (BH6.out.trans (h7.mono BH6.out.size))
                  have RI7 := hid (RI6.out.below h7)
                  have RL7 := hid (RL6'.out.below h7)
                  have RM7 := hid om.rd
                  obtain ⟨Am, cm, rfl⟩ := om.val
                  obtain ⟨by_, oy_, vty, vuy, hAy, hby_, y0c, y1c, y2c, y3c, -, -, -, -, -, -⟩ := HA.out.at B7.out hla0
                  simp only [Option.some.injEq, Addr.mk.injEq, and_true] at hAy
                  obtain ⟨rfl, rfl⟩ := hAy
                  rw [HY0.out] at y0c y2c y3c
                  simp only [Nat.zero_mul, Nat.add_zero] at y0c y2c y3c
                  obtain ⟨yk, hyk⟩ : ∃ yk, yk = y.kind := ⟨_, rfl⟩
                  obtain ⟨yn, hyn⟩ : ∃ yn, yn = y.name := ⟨_, rfl⟩
                  obtain ⟨yb, hyb⟩ : ∃ yb, yb = y.bind := ⟨_, rfl⟩
                  rw [← hyk] at y0c HMS
                  rw [← hyn] at y2c HMS
                  rw [← hyb] at y3c HMS
                  have HY0C := hid y0c
                  have HY2C := hid y2c
                  have HY3C := hid y3c
                  have hbl7 : bl < w7.heap.size := by have := B7.out.size; omega
                  clear h7 om y0c y1c y2c y3c hyk hyn hyb c0 c1 f1
                  go_wp2
                  go_loopw [11] (fun v11 wj => ∃ j : Nat, v11 = .int .i64 j ∧ j ≤ MS.length ∧ Hid (Below w7.heap.size w7 wj)) (fun v11 _ => MS.length - (intOf v11).toNat)
                  case atStart => exact ⟨0, rfl, by omega, hid (Below.refl _ _)⟩
                  case round =>
                    obtain ⟨j, rfl, hj, BJ⟩ := hrel
                    obtain ⟨wj, hwj⟩ : ∃ wj, wj = wr := ⟨_, rfl⟩
                    subst hwj
                    by_cases hjl : j < MS.length
                    · have hjz : (j : Int) < (MS.length : Int) := by omega
                      have RMj := hid (RM7.out.below BJ.out)
                      obtain ⟨A8, c8, hv8, hcm⟩ := RMj.out
                      simp only [Value.slice.injEq, true_and] at hv8
                      obtain ⟨rfl, rfl⟩ := hv8
                      obtain ⟨bm, omm, rfl, hbm, hcm⟩ := hcm (by rintro rfl; simp at hjl)
                      have cj := hcm j hjl
                      have hsm := HMS.out _ (List.getElem_mem hjl)
                      obtain ⟨s, hs⟩ : ∃ s, s = MS[j] := ⟨_, rfl⟩
                      rw [← hs] at cj hsm
                      have HSM8 := hid hsm
                      have k0c := (BJ.out.cell (p := ⟨bl, o, none⟩) hbl7).trans HY0C.out
                      have k2c := (BJ.out.cell (p := ⟨bl, o + 2, none⟩) hbl7).trans HY2C.out
                      have k3c := (BJ.out.cell (p := ⟨bl, o + 3, none⟩) hbl7).trans HY3C.out
                      have CJ := hid cj
                      clear hcm hs hsm
                      go_wp2_with fail
                      go_cut [12] from 128 to 154 (fun v12 wx => ∃ bb : Bool, v12 = .bool bb ∧ Hid (bb = true ∨ s ∈ LS) ∧ Hid (Below wj.heap.size wj wx))
                      case first =>
                        have e1 := eqS s yb
                        have e2 := eqS s yn
                        by_cases g1 : s = yb
                        · rw [decide_eq_true g1] at e1
                          clear g1 e2
                          go_wp2_with fail
                          go_quiet (fail)
                          go_wp2_with fail
                          go_meet
                          first | exact ⟨true, rfl, hid (Or.inl rfl), hid (Below.refl _ _)⟩ | exact ⟨true, rfl, hid (Or.inl rfl), hid (below_drewN (Below.refl _ _) _)⟩
                        · rw [decide_eq_false g1] at e1
                          by_cases g2' : yk = 5
                          · have e5 : (yk == 5) = true := by simpa using g2'
                            by_cases g3 : s = yn
                            · rw [decide_eq_true g3] at e2
                              clear g1 g2' g3
                              go_wp2_with fail
                              go_quiet (fail)
                              go_wp2_with fail
                              go_meet
                              first | exact ⟨true, rfl, hid (Or.inl rfl), hid (Below.refl _ _)⟩ | exact ⟨true, rfl, hid (Or.inl rfl), hid (below_drewN (Below.refl _ _) _)⟩
                            · rw [decide_eq_false g3] at e2
                              have HIN : Hid (s ∈ LS) := hid (by rcases HSM8.out with h | h | h; exact h; exact absurd h g1; exact absurd h.2 g3)
                              clear g1 g2' g3
                              go_wp2_with fail
                              go_quiet (fail)
                              go_wp2_with fail
                              go_meet
                              first | exact ⟨false, rfl, hid (Or.inr HIN.out), hid (Below.refl _ _)⟩ | exact ⟨false, rfl, hid (Or.inr HIN.out), hid (below_drewN (Below.refl _ _) _)⟩
                          · have e5 : (yk == 5) = false := by simpa using g2'
                            have HIN : Hid (s ∈ LS) := hid (by rcases HSM8.out with h | h | h; exact h; exact absurd h g1; exact absurd h.1 g2')
                            clear g1 g2' e2
                            go_wp2_with fail
                            go_quiet (fail)
                            go_wp2_with fail
                            go_meet
                            first | exact ⟨false, rfl, hid (Or.inr HIN.out), hid (Below.refl _ _)⟩ | exact ⟨false, rfl, hid (Or.inr HIN.out), hid (below_drewN (Below.refl _ _) _)⟩
                      case rest =>
                        obtain ⟨bb, rfl, HBB, BX⟩ := hcut
                        obtain ⟨wx, hwx⟩ : ∃ wx, wx = wc := ⟨_, rfl⟩
                        subst hwx
                        have B7x := hid (BJ.out.trans (BX.out.mono BJ.out.size))
                        have RLx := hid (RL7.out.below B7x.out)
                        clear cj k0c k2c k3c
                        go_wp2
                        go_loopw [13, 14] (fun v13 v14 wn => ∃ (n : Nat) (p : Bool), v13 = .bool p ∧ v14 = .int .i64 n ∧ n ≤ LS.length ∧ Hid ((p || (LS.drop n).any fun u => decide (u = s)) = LS.any fun u => decide (u = s)) ∧ Hid (Below wx.heap.size wx wn)) (fun _ v14 _ => LS.length - (intOf v14).toNat)
                        case atStart => exact ⟨0, false, rfl, rfl, by omega, hid (by rw [List.drop_zero, Bool.false_or]), hid (Below.refl _ _)⟩
                        case round =>
                          obtain ⟨n, p, rfl, rfl, hnl, hD, BN⟩ := hrel
                          have B7n := hid (B7x.out.trans (BN.out.mono B7x.out.size))
                          by_cases hlt5 : n < LS.length
                          · have hnz : (n : Int) < (LS.length : Int) := by omega
                            have RLn := hid (RLx.out.below BN.out)
                            obtain ⟨A9, c9, hv9, hcl9⟩ := RLn.out
                            simp only [Value.slice.injEq, true_and] at hv9
                            obtain ⟨rfl, rfl⟩ := hv9
                            obtain ⟨bl9, ol9, rfl, hbl9, hcl9⟩ := hcl9 (by rintro rfl; simp at hlt5)
                            have cn := hcl9 n hlt5
                            have cjn := (((BX.out.trans (BN.out.mono BX.out.size)).cell (p := ⟨bm, omm + j, none⟩) hbm)).trans CJ.out
                            have hst : Hid ((p || (decide (LS[n] = s) || (LS.drop (n + 1)).any fun u => decide (u = s))) = LS.any fun u => decide (u = s)) := hid (by rw [← hD.out, List.drop_eq_getElem_cons hlt5, List.any_cons])
                            obtain ⟨u5, hu5⟩ : ∃ u5, u5 = LS[n] := ⟨_, rfl⟩
                            rw [← hu5] at cn hst
                            have e9 := eqS u5 s
                            clear hcl9 hu5 hD
                            cases p with
                            | true =>
                              have HD2 : Hid ((true || (LS.drop (n + 1)).any fun u => decide (u = s)) = LS.any fun u => decide (u = s)) := hid (by rw [← hst.out, Bool.true_or, Bool.true_or])
                              clear hst e9
                              go_wp2
                              go_quiet (fail)
                              go_wp2
                              go_roundw
                              case rel => first | exact ⟨n + 1, true, by go_num, by go_num, by omega, HD2, BN⟩ | exact ⟨n + 1, true, by go_num, by go_num, by omega, HD2, hid (below_drewN BN.out _)⟩
                              case measure => simp [intOf]; omega
                            | false =>
                              by_cases g9 : u5 = s
                              · rw [decide_eq_true g9] at e9
                                have HD2 : Hid ((true || (LS.drop (n + 1)).any fun u => decide (u = s)) = LS.any fun u => decide (u = s)) := hid (by rw [← hst.out, decide_eq_true g9, Bool.false_or])
                                clear hst g9
                                go_wp2
                                go_quiet (fail)
                                go_wp2
                                go_roundw
                                case rel => first | exact ⟨n + 1, true, by go_num, by go_num, by omega, HD2, BN⟩ | exact ⟨n + 1, true, by go_num, by go_num, by omega, HD2, hid (below_drewN BN.out _)⟩
                                case measure => simp [intOf]; omega
                              · rw [decide_eq_false g9] at e9
                                have HD2 : Hid ((false || (LS.drop (n + 1)).any fun u => decide (u = s)) = LS.any fun u => decide (u = s)) := hid (by rw [← hst.out, decide_eq_false g9, Bool.false_or, Bool.false_or])
                                clear hst g9
                                go_wp2
                                go_quiet (fail)
                                go_wp2
                                go_roundw
                                case rel => first | exact ⟨n + 1, false, by go_num, by go_num, by omega, HD2, BN⟩ | exact ⟨n + 1, false, by go_num, by go_num, by omega, HD2, hid (below_drewN BN.out _)⟩
                                case measure => simp [intOf]; omega
                          · have hnz : ¬ (n : Int) < (LS.length : Int) := by omega
                            have B7f := hid (BJ.out.trans ((BX.out.trans (BN.out.mono BX.out.size)).mono BJ.out.size))
                            have hp : bb = true ∨ p = true := by
                              rcases HBB.out with h | h
                              · exact Or.inl h
                              · right
                                have h9 := hD.out
                                rw [List.drop_eq_nil_of_le (by omega), List.any_nil, Bool.or_false] at h9
                                rw [h9, List.any_eq_true]
                                exact ⟨s, h, by simp⟩
                            clear hD HBB
                            cases p with
                            | true =>
                              go_wp2
                              go_roundw
                              case rel => exact ⟨j + 1, by go_num, by omega, B7f⟩
                              case measure => simp [intOf]; omega
                            | false =>
                              have hbb : bb = true := by rcases hp with h | h; exact h; cases h
                              subst hbb
                              go_wp2
                              go_roundw
                              case rel => exact ⟨j + 1, by go_num, by omega, B7f⟩
                              case measure => simp [intOf]; omega
                    · have hjz : ¬ (j : Int) < (MS.length : Int) := by omega
                      have B9 := hid (B7.out.trans (BJ.out.mono B7.out.size))
                      have RI9 := hid (RI7.out.below BJ.out)
                      have RL9 := hid (RL7.out.below BJ.out)
                      go_wp2
                      go_roundw
                      case rel => first | exact ⟨k + 1, te, g2, by go_num, by have := HKC2.out; omega, by have := HTE.out; have := HQG.out; omega, M5, hgd2, HDT, HKR, HFR2, B9, RI9, RL9⟩ | ((repeat apply Exists.intro); exact ⟨⟨k + 1, te, g2, by go_num, by have := HKC2.out; omega, by have := HTE.out; have := HQG.out; omega, M5, hgd2, HDT, HKR, HFR2, B9, RI9, RL9⟩, rfl⟩)
                      case measure => simp [intOf]; omega

set_option maxRecDepth 100000 in
theorem astFree_lifted (os : Os) (started : os.Started) (H : Type) (enc : TypeId × Value → H) :
    ReturnsInHanded {} Tryz.checked os 6 .any (fun w args => (Rows.astFreeSpec.pre enc Tryz.prog Tryz.f6 [] false w args ∧ laidMetH Tryz.prog laidAll w) ∧ sizedMet enc Tryz.prog Tryz.f6 (OpenSpec.ofChange Rows.astFreeSpec) false w args)
      (Rows.astFreeSpec.post enc Tryz.prog Tryz.f6 false true false false) := by
  refine wrap_shaped (C := Tryz.checked) (X := fun w _ => laidMetH Tryz.prog laidAll w) (fun _ _ _ hh h => h.of_heap hh) own started (by kernel_rfl) Tryz.func6
    (ChangeSpec.witness_shaped (enc := enc) (C := Tryz.checked) (os := os) (X := fun w _ => laidMetH Tryz.prog laidAll w) false (World.doorLaid Tryz.prog 400 os) #[.slice none 0 0] 8 rfl (World.shaped_of_RefB (by kernel_rfl) (by kernel_rfl)) (by kernel_rfl) (by kernel_rfl) (by kernel_rfl) (door_met os _)) ?_
  intro W base args ds gs before hval0 hW hSh hL
  obtain ⟨hT, hK⟩ := tabs_of_laid hL
  have hM := mcell_of_shaped hSh (by have := hT.size; omega)
  have hlts := hW.lt
  have hval : ∀ (j : Nat) t v, Tryz.f6.params[j]? = some t → args[j]? = some v → Value.okWide Tryz.prog W .any base t v := hval0
  have hW' := hW
  obtain ⟨p, q, hA0, hV, rfl, hfz, hnd⟩ := hW
  have hA : DataW.TrodAll enc Tryz.prog W 0 (fun _ => true) true Tryz.f6.params.toList args.toList ds p := hA0
  rw [Tryz.params6] at hA hval
  obtain ⟨v0, vs0, d0, ds0, p0, q0, hargs, rfl, rfl, h0, r0⟩ := trodAll_cons hA
  obtain ⟨hn, rfl, rfl⟩ := trodAll_nil r0
  obtain rfl : args = #[v0] := by cases args; simp_all
  obtain ⟨rfl, rfl⟩ := trodVars_none hV
  obtain ⟨sa0, sl0, sc0, hsv0⟩ := okWide_slice Tryz.underlying23 (hval 0 23 v0 rfl rfl)
  obtain ⟨fuel0, hf0⟩ := h0
  obtain ⟨u0, l0, hu0, hR0, hn0⟩ := rdp_of_trod hf0
  obtain rfl : v0 = u0 := by
    rw [hsv0] at hu0
    rw [hsv0]
    simpa [Value.cells] using hu0
  clear hA0 hval0
  simp only [List.append_nil] at hW' hlts
  refine (astFree_true v0 l0 hR0 hn0 hT hK hM).mono fun e W' ⟨he, hB⟩ => ?_
  subst he
  refine ⟨_, rfl, _, _, _, [], (p0 ++ []), [], by simpa using hW', ?_, ?_, ?_, hB.frame _, fun h => by cases h⟩
  · exact trodAll_cons_mk (shut_bool Tryz.underlying4 _) trodAll_mk0
  · exact (trodAll_cons_mk (Below.trod (by kernel_rfl) (by kernel_rfl) (of_decide_eq_true (by kernel_rfl)) ⟨fuel0, hf0⟩ hB (fun x hx => hlts x (by simp [hx]))) trodAll_mk0)
  · rfl

/-- AstFree: the row. -/
theorem astFree_holds : Rows.AstFreeSaid :=
  OpenClaim.holds_of_wide 6 Tryz.f6 rfl rfl rfl rfl rfl rfl rfl ⟨rfl, rfl, rfl, rfl, rfl⟩ rfl rfl rfl rfl rfl (by kernel_rfl) Tryz.func6 (by kernel_rfl)
    (of_decide_eq_true (by kernel_rfl)) (by unfold Func.isWrapper; first | (rw [if_pos (by decide +kernel)]; kernel_rfl) | (rw [if_neg (by decide +kernel)]; exact ⟨rfl, rfl⟩))
    (fun os started H enc _ => astFree_lifted os started H enc)

/-- AstFree: the given statement, the card: the four tables are tied to the program's text. -/
theorem astFree_card : Rows.AstFreeCardSaid :=
  Claim7.holds_tied_plain_at .later [] [.data, .data, .data, .data] true Rows.astFreeCard.stood.harness false
    astFree_holds (fun _ h => by cases h) (by kernel_rfl) (fun _ h => by cases h) astFree_row_tie rfl ⟨rfl, rfl⟩ (by kernel_rfl) rfl
    (fun f fn hf hfn => by
      obtain rfl : f = 6 := Option.some.inj ((show Tryz.prog.funcNamed "leaven/leavenlaw05.AstFree" = some 6 by kernel_rfl).symm.trans hf) |>.symm
      obtain rfl : fn = Tryz.f6 := (Option.some.inj (Tryz.func6.symm.trans hfn)).symm
      exact ⟨by kernel_rfl, fun j t ht => by
        rw [Tryz.params6] at ht
        have hm : t ∈ [23] := by simpa using Array.mem_of_getElem? ht
        have hall : ([23].all fun u => !Tryz.prog.wantsStandIn u) = true := by kernel_rfl
        exact (show Tryz.prog.wantsStandIn t = false by simpa using List.all_eq_true.1 hall t hm)⟩)
    (by kernel_rfl)

end Go.Proofs.YthbieinbpfjgkaaGreatDoor.astFree
