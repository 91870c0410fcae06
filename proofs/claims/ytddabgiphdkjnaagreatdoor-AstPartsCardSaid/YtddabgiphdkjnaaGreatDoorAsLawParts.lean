/-
  AstParts is true for any row of parts and any place: a part's children stand one behind the other, and each, without its label, is an expression, but for branches. No conditions but the card's own.
-/
import Derived.Test.YtddabgiphdkjnaaGreatDoorRows
import Derived.Test.YtddabgiphdkjnaaGreatDoorCards
import Derived.Test.YtddabgiphdkjnaaGreatDoorTie
import Derived.Test.YtddabgiphdkjnaaGreatDoorMA17
import Derived.Test.YtddabgiphdkjnaaGreatDoorMA16
import Derived.Test.YtddabgiphdkjnaaGreatDoorMA19
import Derived.SevenTiedAt
namespace Go.Proofs.YtddabgiphdkjnaaGreatDoor.astParts
open Go.ChangeShapes Go.WideShapes Go.ChangeAt Go.RowKit

theorem own : ownKnob Tryz.prog.godebug = none := by kernel_rfl

theorem cells_sub {ys : List (E.Pt × Value × Value)} {q n : Nat} (hq : q + n ≤ ys.length) {j : Nat} {u : Value} (h : (cellsP ((ys.drop q).take n))[j]? = some u) : (cellsP ys)[q * 8 + j]? = some u := by
  have hl : ((ys.drop q).take n).length = n := by rw [List.length_take, List.length_drop]; omega
  have hj : j < n * 8 := by
    rcases Nat.lt_or_ge j (n * 8) with h1 | h1
    · exact h1
    · rw [List.getElem?_eq_none (by rw [cellsP_len, hl]; exact h1)] at h; cases h
  have e1 := cellsP_at ((ys.drop q).take n) (j / 8) (by rw [hl]; omega) (j % 8) (Nat.mod_lt _ (by omega))
  rw [show j / 8 * 8 + j % 8 = j by omega, h] at e1
  have e2 := cellsP_at ys (q + j / 8) (by omega) (j % 8) (Nat.mod_lt _ (by omega))
  rw [show (q + j / 8) * 8 + j % 8 = q * 8 + j by omega] at e2
  rw [e2, e1]
  congr 2
  simp

set_option maxHeartbeats 8000000 in
set_option maxRecDepth 100000 in
theorem astParts_true {W : World} (va : Value) (la : List E.Pt) (ha : RdP W W.heap.size va la) (_ : ∀ y ∈ la, NumP y) (i : Int) {p0 : Prop} (_ : p0) (hT : Tab W) (hK : KTab W) (hM : MCell W) :
    Calls Tryz.prog 7 #[va, .int .i64 i] W fun e w' => e = .returned (.bool true) ∧ Below W.heap.size W w' := by
  have FA := hid (rfew_any la 120 (by decide) va W ha)
  have AL := hid (fun (W' : World) (hW : Below W.heap.size W W') => aalive_any W' (hT.grows hW) (hK.grows hW) (hM.grows hW))
  have HA := hid ha
  have HK := hid hK
  have HM := hid hM
  obtain ⟨Aa, ca, hva, hl1, hl2, -⟩ := ha
  unfold maxLen at hl2
  clear hT hK hM
  cases hfa : E.fewL la 120 with
  | false =>
    rw [hfa] at FA
    subst hva
    clear hfa
    go_enter Tryz.func7, Tryz.ntmps7
    go_wp2_with fail
    refine (FA.out).mono ?_
    rintro e w1 ⟨rfl, hw1⟩
    have hw2 := hw1.symm
    subst hw2
    clear hw1
    go_wp2_with fail
    refine (AL.out _ (Below.refl _ _)).mono ?_
    rintro e w1 ⟨rfl, h1⟩
    go_wp2
    go_ret
    exact ⟨rfl, h1⟩
  | true =>
    rw [hfa] at FA
    have HSA : Hid (∀ x ∈ la, Small x) := hid fun x hx => E.small_of_few (List.all_eq_true.1 ((Bool.and_eq_true _ _).mp hfa).2 x hx)
    have h120 : la.length ≤ 120 := of_decide_eq_true ((Bool.and_eq_true _ _).mp hfa).1
    have RR := hid (raright_any la HSA.out va W HA.out)
    clear hfa
    cases hra : E.rightL la with
    | false =>
      rw [hra] at RR
      subst hva
      clear hra
      go_enter Tryz.func7, Tryz.ntmps7
      go_wp2_with fail
      refine (FA.out).mono ?_
      rintro e w1 ⟨rfl, hw1⟩
      have hw2 := hw1.symm
      subst hw2
      clear hw1
      go_wp2_with fail
      refine (RR.out).mono ?_
      rintro e w1 ⟨rfl, hr1⟩
      go_wp2_with fail
      refine (AL.out _ hr1).mono ?_
      rintro e w2 ⟨rfl, h1⟩
      go_wp2
      go_ret
      exact ⟨rfl, hr1.trans (h1.mono hr1.size)⟩
    | true =>
      rw [hra] at RR
      have HRA := hid hra
      by_cases hi0 : i < 0
      · subst hva
        clear hra
        go_enter Tryz.func7, Tryz.ntmps7
        go_wp2_with fail
        refine (FA.out).mono ?_
        rintro e w1 ⟨rfl, hw1⟩
        have hw2 := hw1.symm
        subst hw2
        clear hw1
        go_wp2_with fail
        refine (RR.out).mono ?_
        rintro e w1 ⟨rfl, hr1⟩
        go_wp2_with fail
        refine (AL.out _ hr1).mono ?_
        rintro e w2 ⟨rfl, h1⟩
        go_wp2
        go_ret
        exact ⟨rfl, hr1.trans (h1.mono hr1.size)⟩
      by_cases hil : (la.length : Int) ≤ i
      · subst hva
        clear hra
        go_enter Tryz.func7, Tryz.ntmps7
        go_wp2_with fail
        refine (FA.out).mono ?_
        rintro e w1 ⟨rfl, hw1⟩
        have hw2 := hw1.symm
        subst hw2
        clear hw1
        go_wp2_with fail
        refine (RR.out).mono ?_
        rintro e w1 ⟨rfl, hr1⟩
        go_wp2_with fail
        refine (AL.out _ hr1).mono ?_
        rintro e w2 ⟨rfl, h1⟩
        go_wp2
        go_ret
        exact ⟨rfl, hr1.trans (h1.mono hr1.size)⟩
      obtain ⟨p, rfl⟩ : ∃ p : Nat, i = p := ⟨i.toNat, by omega⟩
      have hp : p < la.length := by omega
      -- what is known of the expression
      obtain ⟨y, ks, r2, hdp, hok, hdeep⟩ := E.tree_of_right hra hp
      obtain ⟨gy1, -, gy3⟩ := E.getD_drop hdp
      have hyp : la[p] = y := by rw [← gy1]; simp [List.getD, hp]
      obtain ⟨k1, k2, k3, k4, -⟩ := E.ok_cons hok
      have hall : la.all E.sound = true := by
        obtain ⟨x, ks', hl', -, -, hok', -⟩ := (E.rightL_iff la).1 hra
        rw [List.all_eq_true]
        intro z hz
        rw [hl'] at hz
        exact E.sound_flat (E.Fo.cons x ks' .nil) hok' z (by simpa [E.Fo.flat] using hz)
      have HFW := hid (afew_of (by omega) hall)
      have hlen : p + 1 + ks.flat.length ≤ la.length := by
        have := congrArg List.length hdp
        simp at this
        omega
      have hc60 : ks.count ≤ 60 := by
        have := (E.many_of_sound k1).2
        omega
      have HKD := hid (fun (W' : World) (hW : Below W.heap.size W W') => akids_any la HFW.out va p hp W' (HA.out.below hW) (HK.out.grows hW))
      rw [hyp, k2, Int.toNat_natCast] at HKD
      have HEN := hid (fun (q : Nat) (hq : q < la.length) (W' : World) (hW : Below W.heap.size W W') => aend_any la HFW.out va q hq W' (HA.out.below hW) (HK.out.grows hW))
      have HEP : Hid (p + E.eat 1 (la.drop p) = p + 1 + ks.flat.length) := hid (by rw [hdp, E.eat_tree (E.ok_fit _ hok)]; omega)
      have HG := hid gy3
      have HOK := hid k4
      obtain ⟨kl, hkl⟩ : ∃ kl, kl = E.kidsL la ks.count (p + 1) := ⟨_, rfl⟩
      rw [← hkl] at HKD
      have hkc : kl.length = ks.count := by rw [hkl]; exact (E.kids_flat la y ks (p + 1) 0 [] r2 k4 gy3).1
      have HKL := hid hkl
      obtain ⟨c, hc⟩ : ∃ c, c = ks.count := ⟨_, rfl⟩
      rw [← hc] at hkc hc60
      have HKC := hid hkc
      have HCC := hid hc
      have hklc : kl.length ≤ 60 := by omega
      obtain ⟨ys, b, o, cap, hys, hry, hvb, hb, hcap1, hcap2, hcells⟩ := HA.out.pick (by rintro rfl; simp at hp)
      have HYS := hid hys
      have HRY := hid hry
      have HCE := hid hcells
      unfold maxLen at hcap2
      have hyl : ys.length = la.length := by rw [← hys, List.length_map]
      have HYL := hid hyl
      have hdeep2 := hid hdeep
      obtain ⟨ip, hip, hz0, hz1, hz2⟩ := info_parts infoPart
      clear hra hdp hok hdeep gy1 gy3 hyp k1 k2 k3 k4 hall hkl hkc hc hys hry hcells hyl hva hl1 hl2
      subst hvb
      go_enter Tryz.func7, Tryz.ntmps7
      go_wp2_with fail
      refine (FA.out).mono ?_
      rintro e w1 ⟨rfl, hw1⟩
      have hw2 := hw1.symm
      subst hw2
      clear hw1
      go_wp2_with fail
      refine (RR.out).mono ?_
      rintro e w1 ⟨rfl, hr1⟩
      go_wp2_with fail
      refine (HKD.out _ hr1).mono ?_
      rintro e w2 ⟨v5, rfl, hO, hk2⟩
      obtain ⟨A5, c5, hv5, -⟩ := hO.rd
      have B2 := hid (hr1.trans (hk2.mono hr1.size))
      have RI2 := hid hO.rd
      subst hv5
      clear hr1 hk2 hO
      go_wp2
      go_loopw [6, 7] (fun v6 v7 wr => ∃ (k q : Nat) (g : E.Fo), v6 = .int .i64 q ∧ v7 = .int .i64 k ∧ k + g.count = c ∧ q + g.flat.length = p + 1 + ks.flat.length ∧ Hid (g.ok = true) ∧ g.deep ≤ 99 ∧ Hid (la.drop q = g.flat ++ r2) ∧ Hid (kl.drop k = E.kidsL la g.count q) ∧ Hid (Below W.heap.size W wr) ∧ Hid (RdI wr (.slice A5 kl.length c5) kl)) (fun _ v7 _ => c - (intOf v7).toNat)
      case atStart => exact ⟨0, p + 1, ks, rfl, rfl, by rw [HCC.out]; omega, rfl, HOK, by have := hdeep2.out; omega, HG, hid (by rw [List.drop_zero]; exact HKL.out), B2, RI2⟩
      case round =>
        obtain ⟨k, q, g, rfl, rfl, hkc, hqg, gok, gd, hdq, hkq, BW, RI⟩ := hrel
        cases g with
        | nil =>
          have hk : k = c := by simpa [E.Fo.count] using hkc
          have hq : q = p + 1 + ks.flat.length := by simpa [E.Fo.flat] using hqg
          have hkl : ¬ (k : Int) < (kl.length : Int) := by have := HKC.out; omega
          have HQ := hid hq
          clear hq hqg hk hkc
          go_wp2_with fail
          refine (AL.out _ BW.out).mono ?_
          rintro e w3 ⟨rfl, h3⟩
          have B3 := hid (BW.out.trans (h3.mono BW.out.size))
          have HE1 := hid (HEN.out p hp _ B3.out)
          rw [HEP.out, ← HQ.out] at HE1
          clear h3
          go_wp2_with fail
          refine (HE1.out).mono ?_
          rintro e w4 ⟨rfl, h4⟩
          have B4 := hid (B3.out.trans (h4.mono B3.out.size))
          clear h4
          go_wp2
          go_ret
          exact ⟨ret_bool (by simp), B4.out⟩
        | cons z zk g2 =>
          obtain ⟨m1, m2, m3, m4, m5⟩ := E.ok_cons gok.out
          have hfl : (E.Fo.cons z zk g2).flat.length = zk.flat.length + g2.flat.length + 1 := by simp [E.Fo.flat]
          rw [hfl] at hqg
          have hkc2 : k + (g2.count + 1) = c := hkc
          have hdq' : la.drop q = z :: (zk.flat ++ (g2.flat ++ r2)) := by rw [hdq.out]; simp [E.Fo.flat]
          obtain ⟨hs1, hs2⟩ := E.kidsL_step gok.out hdq'
          obtain ⟨-, hql, hdr⟩ := E.getD_drop hdq'
          have hklt : k < kl.length := by have := HKC.out; omega
          have hkd := List.drop_eq_getElem_cons hklt
          rw [hkq.out, hs1] at hkd
          injection hkd with hkk hkr
          have hdeepz : zk.deep + 1 ≤ 100 ∧ g2.deep ≤ 99 := by simp only [E.Fo.deep] at gd; omega
          obtain ⟨te, hte⟩ : ∃ te, te = q + (zk.flat.length + 1) := ⟨_, rfl⟩
          have hdte : la.drop te = g2.flat ++ r2 := by
            rw [hte, show q + (zk.flat.length + 1) = q + 1 + zk.flat.length by omega]
            exact E.drop_more hdr
          have HE := hid (HEN.out q hql _ BW.out)
          rw [hs2, ← hte] at HE
          have htl : te ≤ la.length := by
            have := congrArg List.length hdq'
            simp at this
            omega
          have hqt : q < te := by omega
          have HTE := hid hte
          have HDT := hid hdte
          have HKR : Hid (kl.drop (k + 1) = E.kidsL la g2.count te) := hid (by rw [← hkr, hte, show q + (zk.flat.length + 1) = q + 1 + zk.flat.length by omega])
          have M5 := hid m5
          -- the part that is copied
          have hsubl : ((ys.drop q).take (te - q)).length = te - q := by rw [List.length_take, List.length_drop]; have := HYL.out; omega
          have hsubm : ((ys.drop q).take (te - q)).map (·.1) = z :: zk.flat := by
            rw [List.map_take, List.map_drop, HYS.out, hdq', show te - q = zk.flat.length + 1 by omega, List.take_succ_cons, List.take_left]
          obtain ⟨sb, hsb⟩ : ∃ sb, sb = (ys.drop q).take (te - q) := ⟨_, rfl⟩
          have HSRC : Hid (∀ (W' : World), Below W.heap.size W W' → ∀ j u, (cellsP sb)[j]? = some u → W'.cell? ((⟨b, o + q * 8, none⟩ : Addr).add j) = some u) := hid fun W' hW' j u hu => by
            rw [hsb] at hu
            have h1 := cells_sub (by have := HYL.out; omega) hu
            have h2 := HCE.out _ _ h1
            have e : ((⟨b, o + q * 8, none⟩ : Addr).add j) = ⟨b, o + (q * 8 + j), none⟩ := by simp [Addr.add, Nat.add_assoc]
            rw [e, hW'.cell (p := ⟨b, o + (q * 8 + j), none⟩) hb]
            exact h2
          have HSBY : Hid (RdY W W.heap.size sb) := hid fun y' hy' => HRY.out y' (by rw [hsb] at hy'; exact List.mem_of_mem_drop (List.mem_of_mem_take hy'))
          rw [← hsb] at hsubl hsubm
          have HSM := hid hsubm
          have HSL := hid hsubl
          have HZ8 : Hid (z.kind ≠ 8 → E.rightL (E.unl z :: zk.flat) = true) := hid fun h8 => E.right_unl gok.out h8 hdeepz.1 (by omega)
          have HSZ : Hid (∀ x ∈ E.unl z :: zk.flat, Small x) := hid fun x hx => by
            have hmem : ∀ x' ∈ z :: zk.flat, Small x' := fun x' hx' => HSA.out x' (by
              have : x' ∈ la.drop q := by rw [hdq']; simp only [List.mem_cons, List.mem_append] at hx' ⊢; rcases hx' with h | h; exact Or.inl h; exact Or.inr (Or.inl h)
              exact List.mem_of_mem_drop this)
            rcases List.mem_cons.1 hx with rfl | h
            · have := hmem z (by simp)
              exact ⟨this.1, this.2.1, by show (⟨#[]⟩ : ByteArray).size ≤ 2000000; decide, this.2.2.2.1, this.2.2.2.2⟩
            · exact hmem x (by simp [h])
          obtain ⟨g5, c6, hv6, hg5, hcell5⟩ := RI.out.cell (by omega)
          simp only [Value.slice.injEq, true_and] at hv6
          obtain ⟨rfl, rfl⟩ := hv6
          have ck := hcell5 k hklt
          rw [← hkk] at ck
          have hgd2 := hdeepz.2
          have htq : te - q ≤ 120 := by omega
          clear hs1 hs2 hdr hkk hkr hte hdte m1 m2 m3 m4 m5 hsubl hsubm hsb hfl hkc hdq' hcell5 gd hdeepz
          go_wp2_with fail
          refine (HE.out).mono ?_
          rintro e w3 ⟨rfl, h3⟩
          have B3 := hid (BW.out.trans (h3.mono BW.out.size))
          have RI3 := hid (RI.out.below h3)
          have ck3 := (h3.cell (p := ⟨g5, k, none⟩) hg5).trans ck
          have hz3 := B3.out.size
          have HOW : Hid ((w3.alloc (.cells #[] 39)).ownsRow w3.heap.size 39 8 (.slice (some ⟨w3.heap.size, 0, none⟩) 0 0) 0 []) := hid (OwnP.made w3)
          have B3a := hid (B3.out.alloc B3.out.size (.cells #[] 39))
          have HS3 := hid (HSRC.out _ B3a.out)
          have HONE := hid (cellsP_one HSBY.out)
          have HLN : Hid ((cellsP sb).length = (te - q) * 8) := hid (by rw [cellsP_len, HSL.out])
          clear h3 ck
          go_wp2_with (at_builtin; refine wpList_append_own _ rfl _ _ 23 rfl w3.heap.size 39 ip (.agg #[.int .i64 0, .string ⟨#[]⟩, .string ⟨#[]⟩, .string ⟨#[]⟩, .int .i64 0, .int .i64 0, .slice none 0 0, .slice none 0 0]) 8 120 Tryz.underlying23 hip hz0 hz1 hz2 rfl (by decide) _ _ _ rfl HOW.out ⟨b, o + q * 8, none⟩ (te - q) (cap - q) (cellsP sb) rfl HLN.out HS3.out HONE.out ?c3 ?c4 ?c5 ?_)
          case c3 => unfold maxLen; omega
          case c4 => omega
          case c5 => simp
          intro v4 w4 hown hgrow _
          have hO4 : OwnP w3.heap.size v4 sb w4 := by
            unfold OwnP
            rw [HSL.out]
            simpa using hown
          obtain ⟨y0, yr, rfl⟩ : ∃ y0 yr, sb = y0 :: yr := by
            cases sb with
            | nil => have := HSM.out; simp at this
            | cons a b => exact ⟨a, b, rfl⟩
          have hy0 : y0.1 = z ∧ yr.map (·.1) = zk.flat := by have := HSM.out; simpa using this
          have B4 : Below W.heap.size W w4 := B3a.out.grown hgrow (by simp; omega) (fun k' hk' => by
            have h := Option.some.inj (show some w3.heap.size = some k' from hk')
            omega)
          obtain ⟨n4, hn4⟩ : ∃ n, n = (y0 :: yr).length := ⟨_, rfl⟩
          obtain ⟨g4, c4, hv4, hg4, hg4l, hc41, hc42, fz4, cc4⟩ := hO4.form (by simp)
          rw [hv4] at hO4
          have O5 := hO4.unlabel
          have c0 : w4.cell? ⟨g4, 0, none⟩ = some (.int .i64 z.kind) := by
            rw [cc4 0 (by simp), ← hy0.1]; rfl
          have c1 : w4.cell? ⟨g4, 1, none⟩ = some (.string z.label) := by
            rw [cc4 1 (by simp; omega), ← hy0.1]; rfl
          have f1 := fz4 1
          have B5 : Below W.heap.size W (w4.setCell ⟨g4, 1, none⟩ (.string ⟨#[]⟩)) := B4.setCell (p := ⟨g4, 1, none⟩) (by show W.heap.size ≤ g4; omega) _
          have R5 : RdP (w4.setCell ⟨g4, 1, none⟩ (.string ⟨#[]⟩)) (w4.setCell ⟨g4, 1, none⟩ (.string ⟨#[]⟩)).heap.size (.slice (some ⟨g4, 0, none⟩) (y0 :: yr).length c4) (E.unl z :: zk.flat) := by
            have h := O5.rdp (by simp [bareY]) (fun y' hy' => by
              simp only [bareY, List.mem_cons] at hy'
              rcases hy' with rfl | h
              · have := HSBY.out y0 (by simp)
                exact ⟨((this.1.low B5).mono B5.size), ((this.2.low B5).mono B5.size)⟩
              · have := HSBY.out y' (by simp [h])
                exact ⟨((this.1.low B5).mono B5.size), ((this.2.low B5).mono B5.size)⟩)
            have e : (bareY (y0 :: yr)).map (·.1) = E.unl z :: zk.flat := by
              simp only [bareY, List.map_cons, hy0.2]
              rw [← hy0.1]
              rfl
            rw [e] at h
            exact h
          rw [← hn4] at hv4 R5 hc41
          subst hv4
          have BH5 := hid B5
          have RH5 := hid R5
          have RI5 : Hid (RdI (w4.setCell ⟨g4, 1, none⟩ (.string ⟨#[]⟩)) (.slice (some ⟨g5, 0, none⟩) kl.length c5) kl) := hid (RI3.out.below (((Below.refl w3.heap.size w3).alloc (Nat.le_refl _) (.cells #[] 39)).grown hgrow (by simp) (fun k' hk' => by
            have h := Option.some.inj (show some w3.heap.size = some k' from hk')
            omega) |>.setCell (p := ⟨g4, 1, none⟩) (by show w3.heap.size ≤ g4; exact hg4) _))
          have hn4p : 0 < n4 := by rw [hn4]; simp
          unfold maxLen at hc42
          clear hn4 hO4 O5 hgrow hown B4 B5 R5 cc4 fz4 hy0 ck3
          by_cases h8 : z.kind = 8
          · have z8 : (z.kind != 8) = false := by simp [h8]
            clear h8
            go_wp2
            go_roundw
            case rel => first | exact ⟨k + 1, te, g2, by go_num, by go_num, by omega, by have := HTE.out; omega, M5, hgd2, HDT, HKR, BH5, RI5⟩ | ((repeat apply Exists.intro); exact ⟨⟨k + 1, te, g2, by go_num, by go_num, by omega, by have := HTE.out; omega, M5, hgd2, HDT, HKR, BH5, RI5⟩, rfl⟩)
            case measure => simp [intOf]; omega
          · have z8 : (z.kind != 8) = true := by simpa using h8
            have HRT := hid (aright_all (E.unl z :: zk.flat) HSZ.out _ _ RH5.out (HK.out.grows BH5.out) (HM.out.grows BH5.out))
            rw [HZ8.out h8] at HRT
            clear h8
            go_wp2_with fail
            refine (HRT.out).mono ?_
            rintro e w6 ⟨rfl, h6⟩
            have B6 := hid (BH5.out.trans (h6.mono BH5.out.size))
            have RI6 := hid (RI5.out.below h6)
            clear h6
            go_wp2
            go_roundw
            case rel => first | exact ⟨k + 1, te, g2, by go_num, by go_num, by omega, by have := HTE.out; omega, M5, hgd2, HDT, HKR, B6, RI6⟩ | ((repeat apply Exists.intro); exact ⟨⟨k + 1, te, g2, by go_num, by go_num, by omega, by have := HTE.out; omega, M5, hgd2, HDT, HKR, B6, RI6⟩, rfl⟩)
            case measure => simp [intOf]; omega

set_option maxRecDepth 100000 in
theorem astParts_lifted (os : Os) (started : os.Started) (H : Type) (enc : TypeId × Value → H) :
    ReturnsInHanded {} Tryz.checked os 7 .any (fun w args => (Rows.astPartsSpec.pre enc Tryz.prog Tryz.f7 [] false w args ∧ laidMetH Tryz.prog laidAll w) ∧ sizedMet enc Tryz.prog Tryz.f7 (OpenSpec.ofChange Rows.astPartsSpec) false w args)
      (Rows.astPartsSpec.post enc Tryz.prog Tryz.f7 false true false false) := by
  refine wrap_shaped (C := Tryz.checked) (X := fun w _ => laidMetH Tryz.prog laidAll w) (fun _ _ _ hh h => h.of_heap hh) own started (by kernel_rfl) Tryz.func7
    (ChangeSpec.witness_shaped (enc := enc) (C := Tryz.checked) (os := os) (X := fun w _ => laidMetH Tryz.prog laidAll w) false (World.doorLaid Tryz.prog 400 os) #[.slice none 0 0, .int .i64 0] 8 rfl (World.shaped_of_RefB (by kernel_rfl) (by kernel_rfl)) (by kernel_rfl) (by kernel_rfl) (by kernel_rfl) (door_met os _)) ?_
  intro W base args ds gs before hval0 hW hSh hL
  obtain ⟨hT, hK⟩ := tabs_of_laid hL
  have hM := mcell_of_shaped hSh (by have := hT.size; omega)
  have hlts := hW.lt
  have hval : ∀ (j : Nat) t v, Tryz.f7.params[j]? = some t → args[j]? = some v → Value.okWide Tryz.prog W .any base t v := hval0
  have hW' := hW
  obtain ⟨p, q, hA0, hV, rfl, hfz, hnd⟩ := hW
  have hA : DataW.TrodAll enc Tryz.prog W 0 (fun _ => true) true Tryz.f7.params.toList args.toList ds p := hA0
  rw [Tryz.params7] at hA hval
  obtain ⟨v0, vs0, d0, ds0, p0, q0, hargs, rfl, rfl, h0, r0⟩ := trodAll_cons hA
  obtain ⟨v1, vs1, d1, ds1, p1, q1, hargs1, rfl, rfl, h1, r1⟩ := trodAll_cons r0
  obtain ⟨hn, rfl, rfl⟩ := trodAll_nil r1
  obtain rfl : args = #[v0, v1] := by cases args; simp_all
  obtain ⟨rfl, rfl⟩ := trodVars_none hV
  obtain ⟨sa0, sl0, sc0, hsv0⟩ := okWide_slice Tryz.underlying23 (hval 0 23 v0 rfl rfl)
  obtain ⟨a1, rfl, rfl, rfl, w1⟩ := open_int Tryz.underlying3 (hval 1 3 v1 rfl rfl) h1
  obtain ⟨fuel0, hf0⟩ := h0
  obtain ⟨u0, l0, hu0, hR0, hn0⟩ := rdp_of_trod hf0
  obtain rfl : v0 = u0 := by
    rw [hsv0] at hu0
    rw [hsv0]
    simpa [Value.cells] using hu0
  clear hA0 hval0
  simp only [List.append_nil] at hW' hlts
  refine (astParts_true v0 l0 hR0 hn0 a1 w1 hT hK hM).mono fun e W' ⟨he, hB⟩ => ?_
  subst he
  refine ⟨_, rfl, _, _, _, [], (p0 ++ ([] ++ [])), [], by simpa using hW', ?_, ?_, ?_, hB.frame _, fun h => by cases h⟩
  · exact trodAll_cons_mk (shut_bool Tryz.underlying4 _) trodAll_mk0
  · exact (trodAll_cons_mk (Below.trod (by kernel_rfl) (by kernel_rfl) (of_decide_eq_true (by kernel_rfl)) ⟨fuel0, hf0⟩ hB (fun x hx => hlts x (by simp [hx]))) (trodAll_cons_mk (shut_int Tryz.underlying3 w1) trodAll_mk0))
  · rfl

/-- AstParts: the row. -/
theorem astParts_holds : Rows.AstPartsSaid :=
  OpenClaim.holds_of_wide 7 Tryz.f7 rfl rfl rfl rfl rfl rfl rfl ⟨rfl, rfl, rfl, rfl, rfl⟩ rfl rfl rfl rfl rfl (by kernel_rfl) Tryz.func7 (by kernel_rfl)
    (of_decide_eq_true (by kernel_rfl)) (by unfold Func.isWrapper; first | (rw [if_pos (by decide +kernel)]; kernel_rfl) | (rw [if_neg (by decide +kernel)]; exact ⟨rfl, rfl⟩))
    (fun os started H enc _ => astParts_lifted os started H enc)

/-- AstParts: the given statement, the card: the four tables are tied to the program's text. -/
theorem astParts_card : Rows.AstPartsCardSaid :=
  Claim7.holds_tied_plain_at .later [] [.data, .data, .data, .data] true Rows.astPartsCard.stood.harness false
    astParts_holds (fun _ h => by cases h) (by kernel_rfl) (fun _ h => by cases h) astParts_row_tie rfl ⟨rfl, rfl⟩ (by kernel_rfl) rfl
    (fun f fn hf hfn => by
      obtain rfl : f = 7 := Option.some.inj ((show Tryz.prog.funcNamed "leaven/leavenlaw05.AstParts" = some 7 by kernel_rfl).symm.trans hf) |>.symm
      obtain rfl : fn = Tryz.f7 := (Option.some.inj (Tryz.func7.symm.trans hfn)).symm
      exact ⟨by kernel_rfl, fun j t ht => by
        rw [Tryz.params7] at ht
        have hm : t ∈ [23, 3] := by simpa using Array.mem_of_getElem? ht
        have hall : ([23, 3].all fun u => !Tryz.prog.wantsStandIn u) = true := by kernel_rfl
        exact (show Tryz.prog.wantsStandIn t = false by simpa using List.all_eq_true.1 hall t hm)⟩)
    (by kernel_rfl)

end Go.Proofs.YtddabgiphdkjnaaGreatDoor.astParts
