/-
  LexJoins is true for every slice of tokens: lex and the reference join them alike. No conditions but the card's own: the two tables read as the program's text lays them.
-/
import Derived.Test.YtfmmhmkaphbmpaaDoorRows
import Derived.Test.YtfmmhmkaphbmpaaDoorCards
import Derived.Test.YtfmmhmkaphbmpaaDoorTie
import Derived.Test.YtfmmhmkaphbmpaaDoorLexZ
import Derived.Test.YtfmmhmkaphbmpaaDoorLexD
import Derived.Test.YtfmmhmkaphbmpaaDoorLexQ
import Derived.Carry
import Derived.ProofKit
import Derived.LaidMore
import Derived.OpenShut
import Derived.Stop.Joined
import Derived.SevenTiedAt
namespace Go.Proofs.YtfmmhmkaphbmpaaDoor.lexJoins
open Go.ChangeShapes Go.WideShapes Go.ChangeAt Go.RowKit
open Go.ChangeMaps (open_string shut_string)

theorem own : ownKnob Tryd.prog.godebug = none := by kernel_rfl

set_option maxHeartbeats 1000000 in
set_option maxRecDepth 100000 in
theorem lexJoins_true (v : Value) (l : List (Int × List UInt8)) (w : World) (hR : Rd w w.heap.size v l) (hlen : l.length ≤ maxLen) (hT : Tab w) :
    Calls Tryd.prog 4 #[v] w fun e w' => e = .returned (.bool true) ∧ Below w.heap.size w w' := by
  have HR := hid hR
  obtain ⟨A, cap, rfl, hc⟩ := hR
  have HT := hid hT
  have HC := hid hc
  clear hT hc
  by_cases h : 200 < l.length
  · unfold maxLen at hlen
    clear HC
    go_enter Tryd.func4, Tryd.ntmps4
    go_wp2_with fail
    refine (alive_any _ HT.out).mono ?_
    rintro e w1 ⟨rfl, h1⟩
    go_wp2
    go_ret
    exact ⟨rfl, h1⟩
  have hl : l.length ≤ 200 := by omega
  clear hlen h
  go_enter Tryd.func4, Tryd.ntmps4
  go_wp2
  go_loop [3] (fun vi => ∃ k : Nat, k ≤ l.length ∧ vi = .int .i64 k ∧ Hid (∀ (j : Nat) (h : j < l.length), j < k → l[j].2.length ≤ 200)) (fun vi => l.length - (intOf vi).toNat)
  case atStart => exact ⟨0, by omega, rfl, hid fun j _ h => by omega⟩
  case round =>
    obtain ⟨k, hk, rfl, HS⟩ := hrel
    by_cases hlt : k < l.length
    · obtain ⟨a, hA, hab, hcell⟩ := HC.out (by omega)
      obtain ⟨c0, c1⟩ := hcell k hlt
      subst hA
      rw [addr_next] at c1
      obtain ⟨X, hX⟩ : ∃ X : ByteArray, (⟨l[k].2.toArray⟩ : ByteArray) = X := ⟨_, rfl⟩
      have hXs : X.size = l[k].2.length := by rw [← hX]; show l[k].2.toArray.size = _; simp
      unfold strV at c1
      rw [hX] at c1
      have HXS := hid hXs
      clear hcell c0 hX hXs
      by_cases h2 : 200 < X.size
      · go_wp2_with fail
        refine (alive_any _ HT.out).mono ?_
        rintro e w1 ⟨rfl, h1⟩
        go_wp2
        go_ret
        exact ⟨rfl, h1⟩
      · have hx2 : X.size ≤ 200 := by omega
        go_wp2
        go_round
        case rel => exact ⟨k + 1, by omega, by go_num, hid fun j hj hjk => by
          rcases Nat.lt_or_ge j k with hh | hh
          · exact HS.out j hj hh
          · have : j = k := by omega
            subst this
            rw [← HXS.out]
            exact hx2⟩
        case measure => simp [intOf]; omega
    · obtain rfl : k = l.length := by omega
      have hx : ∀ t ∈ l, t.2.length ≤ 200 := fun t ht => by
        obtain ⟨j, hj, rfl⟩ := List.getElem_of_mem ht
        exact HS.out j hj hj
      have hj : ∀ k, (joinT (l.take k)).length ≤ 1000000 := fun k => by
        have h1 := joinT_len (l.take k) (fun t ht => hx t (List.mem_of_mem_take ht))
        have h2 : (l.take k).length ≤ 200 := by rw [List.length_take]; omega
        omega
      have HX := hid fun t ht => Nat.le_trans (hx t ht) (show 200 ≤ 3000 by omega)
      have HJ := hid hj
      clear hx hj
      go_wp2_with fail
      refine (alive_any _ HT.out).mono ?_
      rintro e w1 ⟨rfl, h1⟩
      have HR1 : Hid (Rd w1 w1.heap.size (.slice A l.length cap) l) := hid ((HR.out.below h1).more h1.size)
      have HJ1 := hid (join_any _ l w1 HR1.out (by omega) HX.out HJ.out)
      go_wp2_with fail
      refine (HJ1.out).mono ?_
      rintro e w2 ⟨rfl, h2⟩
      have HR2 : Hid (Rd w2 w2.heap.size (.slice A l.length cap) l) := hid ((HR1.out.below h2).more h2.size)
      have HJ2 := hid (refJoin_any _ l w2 HR2.out (by omega) HX.out HJ.out)
      go_wp2_with fail
      refine (HJ2.out).mono ?_
      rintro e w3 ⟨rfl, rfl⟩
      go_wp2
      go_ret
      exact ⟨ret_bool (by simp), up h1 h2 (Nat.le_refl _)⟩

set_option maxRecDepth 100000 in
theorem lexJoins_lifted (os : Os) (started : os.Started) (H : Type) (enc : TypeId × Value → H) :
    ReturnsInHanded {} Tryd.checked os 4 .any (fun w args => (Rows.lexJoinsSpec.pre enc Tryd.prog Tryd.f4 [] false w args ∧ laidMetH Tryd.prog laidAll w) ∧ sizedMet enc Tryd.prog Tryd.f4 (OpenSpec.ofChange Rows.lexJoinsSpec) false w args)
      (Rows.lexJoinsSpec.post enc Tryd.prog Tryd.f4 false true false false) := by
  refine returnsInHanded_of_change_and (C := Tryd.checked) (X := fun w _ => laidMetH Tryd.prog laidAll w) (fun _ _ _ hh h => h.of_heap hh) own started (by kernel_rfl) Tryd.func4
    (ChangeSpec.witness_shaped (enc := enc) (C := Tryd.checked) (os := os) (X := fun w _ => laidMetH Tryd.prog laidAll w) false (World.doorLaid Tryd.prog 400 os) #[.slice none 0 0] 8 rfl (World.shaped_of_RefB (by kernel_rfl) (by kernel_rfl)) (by kernel_rfl) (by kernel_rfl) (by kernel_rfl) (door_met os _)) ?_
  intro W base args ds gs before hval0 hW _ _ hL _
  have hT := tab_of_laid hL
  have hlts := hW.lt
  have hW' := hW
  obtain ⟨p, q, hA0, hV, rfl, hfz, hnd⟩ := hW
  have hA : DataW.TrodAll enc Tryd.prog W 0 (fun _ => true) true Tryd.f4.params.toList args.toList ds p := hA0
  rw [Tryd.params4] at hA
  obtain ⟨v0, vs0, d0, ds0, p0, q0, hargs, rfl, rfl, h0, r0⟩ := trodAll_cons hA
  obtain ⟨hn, rfl, rfl⟩ := trodAll_nil r0
  obtain rfl : args = #[v0] := by cases args; simp_all
  obtain ⟨rfl, rfl⟩ := trodVars_none hV
  obtain ⟨sa, sl, sc, hsv⟩ := okWide_slice Tryd.underlying23 (hval0 0 23 v0 rfl rfl)
  clear hA0 hval0
  simp only [List.append_nil] at hW' hlts
  obtain ⟨fuel, hf⟩ := h0
  obtain ⟨v, l, hv, hR, hl⟩ := rd_of_trod hf
  have hvv : v0 = v := by
    rw [hsv] at hv
    rw [hsv]
    simpa [Value.cells] using hv
  subst hvv
  refine (lexJoins_true v0 l W hR hl hT).mono fun e W' ⟨he, hB⟩ => ?_
  subst he
  refine ⟨_, rfl, _, _, _, [], p0 ++ [], [], hW', ?_, ?_, ?_, hB.frame _, fun h => by cases h⟩
  · exact trodAll_cons_mk (shut_bool Tryd.underlying4 _) trodAll_mk0
  · exact trodAll_cons_mk (Below.trod (by kernel_rfl) (by kernel_rfl) (of_decide_eq_true (by kernel_rfl)) ⟨fuel, hf⟩ hB (fun x hx => hlts x hx)) trodAll_mk0
  · rfl

/-- LexJoins: the row. -/
theorem lexJoins_holds : Rows.LexJoinsSaid :=
  OpenClaim.holds_of_wide 4 Tryd.f4 rfl rfl rfl rfl rfl rfl rfl ⟨rfl, rfl, rfl, rfl, rfl⟩ rfl rfl rfl rfl rfl (by kernel_rfl) Tryd.func4 (by kernel_rfl)
    (of_decide_eq_true (by kernel_rfl)) (by unfold Func.isWrapper; first | (rw [if_pos (by decide +kernel)]; kernel_rfl) | (rw [if_neg (by decide +kernel)]; exact ⟨rfl, rfl⟩))
    (fun os started H enc _ => lexJoins_lifted os started H enc)

/-- LexJoins: the given statement, the card: the two tables are tied to the program's text. -/
theorem lexJoins_card : Rows.LexJoinsCardSaid :=
  Claim7.holds_tied_plain_at .later [] [.data, .data] true Rows.lexJoinsCard.stood.harness false
    lexJoins_holds (fun _ h => by cases h) (by kernel_rfl) (fun _ h => by cases h) lexJoins_row_tie rfl ⟨rfl, rfl⟩ (by kernel_rfl) rfl
    (fun f fn hf hfn => by
      obtain rfl : f = 4 := Option.some.inj ((show Tryd.prog.funcNamed "leaven/leavenlaw02.LexJoins" = some 4 by kernel_rfl).symm.trans hf) |>.symm
      obtain rfl : fn = Tryd.f4 := (Option.some.inj (Tryd.func4.symm.trans hfn)).symm
      exact ⟨by kernel_rfl, fun j t ht => by
        rw [Tryd.params4] at ht
        have hm : t ∈ [23] := by simpa using Array.mem_of_getElem? ht
        have hall : ([23].all fun u => !Tryd.prog.wantsStandIn u) = true := by kernel_rfl
        exact (show Tryd.prog.wantsStandIn t = false by simpa using List.all_eq_true.1 hall t hm)⟩)
    (by kernel_rfl)

end Go.Proofs.YtfmmhmkaphbmpaaDoor.lexJoins
