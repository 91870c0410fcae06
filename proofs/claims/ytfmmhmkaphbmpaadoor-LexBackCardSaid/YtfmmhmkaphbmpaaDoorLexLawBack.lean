/-
  LexBack is true for every text: its tokens, joined, are the same tokens, of the same kinds and texts. No conditions but the card's own: the two tables read as the program's text lays them.
-/
import Derived.Test.YtfmmhmkaphbmpaaDoorRows
import Derived.Test.YtfmmhmkaphbmpaaDoorCards
import Derived.Test.YtfmmhmkaphbmpaaDoorTie
import Derived.Test.YtfmmhmkaphbmpaaDoorLexZ
import Derived.Test.YtfmmhmkaphbmpaaDoorLexD
import Derived.Test.YtfmmhmkaphbmpaaDoorLexB
import Derived.ProofKit
import Derived.LaidMore
import Derived.OpenShut
import Derived.Stop.Joined
import Derived.SevenTiedAt
namespace Go.Proofs.YtfmmhmkaphbmpaaDoor.lexBack
open Go.ChangeShapes Go.WideShapes Go.ChangeAt Go.RowKit
open Go.ChangeMaps (open_string shut_string)

theorem own : ownKnob Tryd.prog.godebug = none := by kernel_rfl

set_option maxHeartbeats 1000000 in
set_option maxRecDepth 100000 in
theorem lexBack_true (s : ByteArray) (w0 : s.size ≤ maxLen) (w : World) (hT : Tab w) :
    Calls Tryd.prog 5 #[.string s] w fun e w' => e = .returned (.bool true) ∧ Below w.heap.size w w' := by
  have HT := hid hT
  clear hT
  by_cases h : 3000 < s.size
  · unfold maxLen at w0
    go_enter Tryd.func5, Tryd.ntmps5
    go_wp2_with fail
    refine (alive_any _ HT.out).mono ?_
    rintro e w1 ⟨rfl, h1⟩
    go_wp2
    go_ret
    exact ⟨rfl, h1⟩
  have hs : s.size ≤ 3000 := by omega
  clear w0 h
  have hlen : s.data.toList.length = s.size := by simp
  obtain ⟨x, hx⟩ : ∃ x, L.toksL s.data.toList = x := ⟨_, rfl⟩
  cases x with
  | ok r =>
    have hr := L.all_len (L.all_of hx)
    obtain ⟨hj, ht⟩ := L.join_all (L.all_of hx)
    obtain ⟨r2, hx2, hkt⟩ := L.back_all hx
    rw [hlen] at hr hj ht
    have hml : (r.map L.kt).length = r.length := by simp
    have hne := L.tk_ne (L.all_of hx)
    have hpos : 0 < r.length := List.length_pos_iff.2 hne
    rw [List.dropLast_eq_take, hml] at hx2
    have hJl := hj (r.length - 1)
    obtain ⟨J, hJ⟩ : ∃ J, joinT ((r.map L.kt).take (r.length - 1)) = J := ⟨_, rfl⟩
    obtain ⟨hl2, hg2⟩ := L.kt_get hkt
    have HJ : Hid (∀ (g cap : Nat) (w : World), TRow w g r → Calls Tryd.prog 16 #[.slice (some ⟨g, 0, none⟩) r.length cap] w fun e w' => e = .returned (.string ⟨J.toArray⟩) ∧ Below w.heap.size w w') := hid (by
      intro g cap w hrow
      have := join_any _ (r.map L.kt) w (hrow.rd (cap := cap) hrow.1) (by rw [hml]; omega) (fun t hm => Nat.le_trans (ht t hm) hs) (fun k => Nat.le_trans (hj k) (by omega))
      rw [hml, hJ] at this
      exact this)
    rw [hJ] at hx2 hJl
    have hJs : (⟨J.toArray⟩ : ByteArray).size ≤ 100000 := by show J.toArray.size ≤ 100000; simp; omega
    have HX := hid hx
    have HX2 : Hid (L.toksL (⟨J.toArray⟩ : ByteArray).data.toList = .ok r2) := hid hx2
    generalize (⟨J.toArray⟩ : ByteArray) = JB at *
    have HL2 := hid hl2
    have HG2 := hid hg2
    clear hx hlen hx2 hJ hJl hj ht hkt hl2 hg2 hne hml
    go_enter Tryd.func5, Tryd.ntmps5
    go_wp2_with fail
    refine (tokens_yes s (by omega) r HX.out _ HT.out).mono ?_
    rintro e w1 ⟨⟨g1, c1, rfl, hr1⟩, h1⟩
    have HR1 := hid hr1
    have HT1 := hid (HT.out.grows h1)
    clear hr1
    go_wp2_with fail
    refine (HJ.out _ _ _ HR1.out).mono ?_
    rintro e w2 ⟨rfl, h2⟩
    have HT2 := hid (HT1.out.grows h2)
    have HR12 := hid (HR1.out.below h2)
    go_wp2_with fail
    refine (tokens_yes JB hJs r2 HX2.out _ HT2.out).mono ?_
    rintro e w3 ⟨⟨g2, c2, rfl, hr2⟩, h3⟩
    have HR2 := hid hr2
    have HT3 := hid (HT2.out.grows h3)
    have HR13 := hid (HR12.out.below h3)
    clear hr2
    rw [HL2.out]
    have hb3 : Hid (Below w.heap.size w w3) := hid (up (up h1 h2 (Nat.le_refl _)) h3 (Nat.le_refl _))
    go_wp2
    go_loopw [9] (fun vi wr => ∃ k n : Nat, wr = w3.drewN n ∧ k ≤ r.length ∧ vi = .int .i64 k) (fun vi _ => r.length - (intOf vi).toNat)
    case atStart => exact ⟨0, 0, rfl, by omega, rfl⟩
    case round =>
      obtain ⟨k, n, rfl, hk, rfl⟩ := hrel
      by_cases hlt : k < r.length
      · obtain ⟨a0, a1, a2, a3⟩ := HR13.out.2 k hlt
        obtain ⟨b0, b1, b2, b3⟩ := HR2.out.2 k (by rw [HL2.out]; exact hlt)
        obtain ⟨e0, e1⟩ := HG2.out k hlt (by rw [HL2.out]; exact hlt)
        rw [e0] at b0
        rw [e1] at b1
        clear a2 a3 b2 b3 e0 e1
        unfold strV at a1 b1
        generalize r[k].kind = x0 at *
        generalize (⟨r[k].text.toArray⟩ : ByteArray) = x1 at *
        have hd : ((x0 : Int) != (x0 : Int)) = false := by simp
        go_wp2
        go_quiet (fail)
        go_wp2
        go_roundw
        case rel => exact ⟨k + 1, _, rfl, by omega, by go_num⟩
        case measure => simp [intOf]; omega
      · have HTn : Hid (Tab (w3.drewN n)) := hid HT3.out
        go_wp2_with fail
        refine (alive_any _ HTn.out).mono ?_
        rintro e w4 ⟨rfl, h4⟩
        go_wp2
        go_ret
        exact ⟨rfl, up (below_drewN hb3.out n) h4 (Nat.le_refl _)⟩
  | error q =>
    have HX := hid hx
    clear hx hlen
    go_enter Tryd.func5, Tryd.ntmps5
    go_wp2_with fail
    refine (tokens_no s (by omega) q HX.out _ HT.out).mono ?_
    rintro e w1 ⟨rfl, h1⟩
    go_wp2_with fail
    refine (alive_any _ (HT.out.grows h1)).mono ?_
    rintro e w2 ⟨rfl, h2⟩
    go_wp2
    go_ret
    exact ⟨ret_bool (by rfl), up h1 h2 (Nat.le_refl _)⟩

set_option maxRecDepth 100000 in
theorem lexBack_lifted (os : Os) (started : os.Started) (H : Type) (enc : TypeId × Value → H) :
    ReturnsInHanded {} Tryd.checked os 5 .any (fun w args => (Rows.lexBackSpec.pre enc Tryd.prog Tryd.f5 [] false w args ∧ laidMetH Tryd.prog laidAll w) ∧ sizedMet enc Tryd.prog Tryd.f5 (OpenSpec.ofChange Rows.lexBackSpec) false w args)
      (Rows.lexBackSpec.post enc Tryd.prog Tryd.f5 false true false false) := by
  refine returnsInHanded_of_change_and (C := Tryd.checked) (X := fun w _ => laidMetH Tryd.prog laidAll w) (fun _ _ _ hh h => h.of_heap hh) own started (by kernel_rfl) Tryd.func5
    (ChangeSpec.witness_shaped (enc := enc) (C := Tryd.checked) (os := os) (X := fun w _ => laidMetH Tryd.prog laidAll w) false (World.doorLaid Tryd.prog 400 os) #[.string ⟨#[]⟩] 8 rfl (World.shaped_of_RefB (by kernel_rfl) (by kernel_rfl)) (by kernel_rfl) (by kernel_rfl) (by kernel_rfl) (door_met os _)) ?_
  intro W base args ds gs before hval0 hW _ _ hL _
  have hT := tab_of_laid hL
  have hval : ∀ (j : Nat) t v, Tryd.f5.params[j]? = some t → args[j]? = some v → Value.okWide Tryd.prog W .any base t v := hval0
  have hW' := hW
  obtain ⟨p, q, hA0, hV, rfl, hfz, hnd⟩ := hW
  have hA : DataW.TrodAll enc Tryd.prog W 0 (fun _ => true) true Tryd.f5.params.toList args.toList ds p := hA0
  rw [Tryd.params5] at hA hval
  obtain ⟨v0, vs0, d0, ds0, p0, q0, hargs, rfl, rfl, h0, r0⟩ := trodAll_cons hA
  obtain ⟨hn, rfl, rfl⟩ := trodAll_nil r0
  obtain rfl : args = #[v0] := by cases args; simp_all
  obtain ⟨rfl, rfl⟩ := trodVars_none hV
  obtain ⟨a0, rfl, rfl, rfl, w0⟩ := open_string Tryd.underlying9 (hval 0 9 v0 rfl rfl) h0
  clear hA0 hval0
  simp only [List.append_nil] at hW'
  refine (lexBack_true a0 w0 W hT).mono fun e W' ⟨he, hB⟩ => ?_
  subst he
  refine ⟨_, rfl, _, _, _, [], [], [], hW', ?_, ?_, ?_, hB.frame _, fun h => by cases h⟩
  · exact trodAll_cons_mk (shut_bool Tryd.underlying4 _) trodAll_mk0
  · exact (trodAll_cons_mk (shut_string Tryd.underlying9 w0) trodAll_mk0)
  · rfl

/-- LexBack: the row. -/
theorem lexBack_holds : Rows.LexBackSaid :=
  OpenClaim.holds_of_wide 5 Tryd.f5 rfl rfl rfl rfl rfl rfl rfl ⟨rfl, rfl, rfl, rfl, rfl⟩ rfl rfl rfl rfl rfl (by kernel_rfl) Tryd.func5 (by kernel_rfl)
    (of_decide_eq_true (by kernel_rfl)) (by unfold Func.isWrapper; first | (rw [if_pos (by decide +kernel)]; kernel_rfl) | (rw [if_neg (by decide +kernel)]; exact ⟨rfl, rfl⟩))
    (fun os started H enc _ => lexBack_lifted os started H enc)

/-- LexBack: the given statement, the card: the two tables are tied to the program's text. -/
theorem lexBack_card : Rows.LexBackCardSaid :=
  Claim7.holds_tied_plain_at .later [] [.data, .data] true Rows.lexBackCard.stood.harness false
    lexBack_holds (fun _ h => by cases h) (by kernel_rfl) (fun _ h => by cases h) lexBack_row_tie rfl ⟨rfl, rfl⟩ (by kernel_rfl) rfl
    (fun f fn hf hfn => by
      obtain rfl : f = 5 := Option.some.inj ((show Tryd.prog.funcNamed "leaven/leavenlaw02.LexBack" = some 5 by kernel_rfl).symm.trans hf) |>.symm
      obtain rfl : fn = Tryd.f5 := (Option.some.inj (Tryd.func5.symm.trans hfn)).symm
      exact ⟨by kernel_rfl, fun j t ht => by
        rw [Tryd.params5] at ht
        have hm : t ∈ [9] := by simpa using Array.mem_of_getElem? ht
        have hall : ([9].all fun u => !Tryd.prog.wantsStandIn u) = true := by kernel_rfl
        exact (show Tryd.prog.wantsStandIn t = false by simpa using List.all_eq_true.1 hall t hm)⟩)
    (by kernel_rfl)

end Go.Proofs.YtfmmhmkaphbmpaaDoor.lexBack
