/-
  LexTokens is true for every two texts: lex and the reference tell the same tokens, or the same place where there is none, and the same of keys. No conditions but the card's own: the two tables read as the program's text lays them.
-/
import Derived.Test.YtfmmhmkaphbmpaaDoorRows
import Derived.Test.YtfmmhmkaphbmpaaDoorCards
import Derived.Test.YtfmmhmkaphbmpaaDoorTie
import Derived.Test.YtfmmhmkaphbmpaaDoorLexZ
import Derived.Test.YtfmmhmkaphbmpaaDoorLexD
import Derived.ProofKit
import Derived.LaidMore
import Derived.OpenShut
import Derived.Stop.Joined
import Derived.SevenTiedAt
namespace Go.Proofs.YtfmmhmkaphbmpaaDoor.lexTokens
open Go.ChangeShapes Go.WideShapes Go.ChangeAt Go.RowKit
open Go.ChangeMaps (open_string shut_string)

theorem own : ownKnob Tryd.prog.godebug = none := by kernel_rfl

set_option maxHeartbeats 1000000 in
set_option maxRecDepth 100000 in
theorem lexTokens_big (s word : ByteArray) (w0 : s.size ≤ maxLen) (w1 : word.size ≤ maxLen) (h : 3000 < s.size ∨ 3000 < word.size) (w : World) (hT : Tab w) :
    Calls Tryd.prog 3 #[.string s, .string word] w fun e w' => e = .returned (.bool true) ∧ Below w.heap.size w w' := by
  unfold maxLen at w0 w1
  have HT := hid hT
  clear hT
  by_cases h1 : 3000 < s.size
  · go_enter Tryd.func3, Tryd.ntmps3
    go_wp2_with fail
    refine (alive_any _ HT.out).mono ?_
    rintro e w1 ⟨rfl, h1⟩
    go_wp2
    go_ret
    exact ⟨rfl, h1⟩
  · have h2 : 3000 < word.size := by omega
    go_enter Tryd.func3, Tryd.ntmps3
    go_wp2_with fail
    refine (alive_any _ HT.out).mono ?_
    rintro e w1 ⟨rfl, h1⟩
    go_wp2
    go_ret
    exact ⟨rfl, h1⟩

theorem same_nil (w : World) : Calls Tryd.prog 13 #[.slice none 0 0, .slice none 0 0] w fun e w' => e = .returned (.bool true) ∧ w = w' := by
  go_enter Tryd.func13, Tryd.ntmps13
  go_wp2
  go_loop [5] (fun vi => vi = .int .i64 0) (fun _ => 0)
  case atStart => rfl
  case round =>
    subst hrel
    go_wp2
    go_ret
    exact ⟨rfl, rfl⟩

set_option maxHeartbeats 1000000 in
set_option maxRecDepth 100000 in
theorem lexTokens_true (s word : ByteArray) (w0 : s.size ≤ maxLen) (w1 : word.size ≤ maxLen) (w : World) (hT : Tab w) :
    Calls Tryd.prog 3 #[.string s, .string word] w fun e w' => e = .returned (.bool true) ∧ Below w.heap.size w w' := by
  by_cases h : 3000 < s.size ∨ 3000 < word.size
  · exact lexTokens_big s word w0 w1 h w hT
  have hs : s.size ≤ 3000 := by omega
  have hw : word.size ≤ 3000 := by omega
  clear w0 w1 h
  have hlen : s.data.toList.length = s.size := by simp
  have HT := hid hT
  clear hT
  obtain ⟨x, hx⟩ : ∃ x, L.toksL s.data.toList = x := ⟨_, rfl⟩
  cases x with
  | ok r =>
    have hr : r.length ≤ 1000000 := by have := L.all_len (L.all_of hx); omega
    have HX := hid hx
    clear hx hlen
    go_enter Tryd.func3, Tryd.ntmps3
    go_wp2_with fail
    refine (tokens_yes s (by omega) r HX.out _ HT.out).mono ?_
    rintro e w1 ⟨⟨g1, c1, rfl, hr1⟩, h1⟩
    have HR1 := hid hr1
    clear hr1
    go_wp2_with fail
    refine (refTokens_yes s (by omega) r HX.out _).mono ?_
    rintro e w2 ⟨⟨g2, c2, rfl, hr2⟩, h2⟩
    have HR2 := hid hr2
    have HT2 := hid ((HT.out.grows h1).grows h2)
    have HR12 := hid (HR1.out.below h2)
    clear hr2
    go_wp2_with fail
    refine (alive_any _ HT2.out).mono ?_
    rintro e w3 ⟨rfl, h3⟩
    have HS := hid (same_any r g1 g2 c1 c2 w3 (HR12.out.below h3) (HR2.out.below h3) hr)
    have HT3 := hid (HT2.out.grows h3)
    go_wp2_with fail
    refine (HS.out).mono ?_
    rintro e w4 ⟨rfl, n, rfl⟩
    have HK := hid (isKey_any word (w3.drewN n) HT3.out)
    have HRK := hid (refKey_any word (w3.drewN n))
    go_wp2_with fail
    refine (HK.out).mono ?_
    rintro e w5 ⟨rfl, rfl⟩
    go_wp2_with fail
    refine (HRK.out).mono ?_
    rintro e w6 ⟨rfl, h6⟩
    go_wp2
    go_ret
    have hl := Nat.le_refl w.heap.size
    exact ⟨ret_bool (by simp), up (up (up (up h1 h2 hl) h3 hl) (below_drewN (Below.refl _ w3) n) hl) h6 hl⟩
  | error q =>
    have HX := hid hx
    clear hx hlen
    go_enter Tryd.func3, Tryd.ntmps3
    go_wp2_with fail
    refine (tokens_no s (by omega) q HX.out _ HT.out).mono ?_
    rintro e w1 ⟨rfl, h1⟩
    go_wp2_with fail
    refine (refTokens_no s (by omega) q HX.out _).mono ?_
    rintro e w2 ⟨rfl, h2⟩
    have HT2 := hid ((HT.out.grows h1).grows h2)
    go_wp2_with fail
    refine (alive_any _ HT2.out).mono ?_
    rintro e w3 ⟨rfl, h3⟩
    have HT3 := hid (HT2.out.grows h3)
    go_wp2_with fail
    refine (same_nil _).mono ?_
    rintro e w4 ⟨rfl, rfl⟩
    have HK := hid (isKey_any word w3 HT3.out)
    have HRK := hid (refKey_any word w3)
    go_wp2_with fail
    refine (HK.out).mono ?_
    rintro e w5 ⟨rfl, rfl⟩
    go_wp2_with fail
    refine (HRK.out).mono ?_
    rintro e w6 ⟨rfl, h6⟩
    go_wp2
    go_ret
    have hl := Nat.le_refl w.heap.size
    exact ⟨ret_bool (by simp), up (up (up h1 h2 hl) h3 hl) h6 hl⟩

set_option maxRecDepth 100000 in
theorem lexTokens_lifted (os : Os) (started : os.Started) (H : Type) (enc : TypeId × Value → H) :
    ReturnsInHanded {} Tryd.checked os 3 .any (fun w args => (Rows.lexTokensSpec.pre enc Tryd.prog Tryd.f3 [] false w args ∧ laidMetH Tryd.prog laidAll w) ∧ sizedMet enc Tryd.prog Tryd.f3 (OpenSpec.ofChange Rows.lexTokensSpec) false w args)
      (Rows.lexTokensSpec.post enc Tryd.prog Tryd.f3 false true false false) := by
  refine returnsInHanded_of_change_and (C := Tryd.checked) (X := fun w _ => laidMetH Tryd.prog laidAll w) (fun _ _ _ hh h => h.of_heap hh) own started (by kernel_rfl) Tryd.func3
    (ChangeSpec.witness_shaped (enc := enc) (C := Tryd.checked) (os := os) (X := fun w _ => laidMetH Tryd.prog laidAll w) false (World.doorLaid Tryd.prog 400 os) #[.string ⟨#[]⟩, .string ⟨#[]⟩] 8 rfl (World.shaped_of_RefB (by kernel_rfl) (by kernel_rfl)) (by kernel_rfl) (by kernel_rfl) (by kernel_rfl) (door_met os _)) ?_
  intro W base args ds gs before hval0 hW _ _ hL _
  have hT := tab_of_laid hL
  have hval : ∀ (j : Nat) t v, Tryd.f3.params[j]? = some t → args[j]? = some v → Value.okWide Tryd.prog W .any base t v := hval0
  have hW' := hW
  obtain ⟨p, q, hA0, hV, rfl, hfz, hnd⟩ := hW
  have hA : DataW.TrodAll enc Tryd.prog W 0 (fun _ => true) true Tryd.f3.params.toList args.toList ds p := hA0
  rw [Tryd.params3] at hA hval
  obtain ⟨v0, vs0, d0, ds0, p0, q0, hargs, rfl, rfl, h0, r0⟩ := trodAll_cons hA
  obtain ⟨v1, vs1, d1, ds1, p1, q1, hargs1, rfl, rfl, h1, r1⟩ := trodAll_cons r0
  obtain ⟨hn, rfl, rfl⟩ := trodAll_nil r1
  obtain rfl : args = #[v0, v1] := by cases args; simp_all
  obtain ⟨rfl, rfl⟩ := trodVars_none hV
  obtain ⟨a0, rfl, rfl, rfl, w0⟩ := open_string Tryd.underlying9 (hval 0 9 v0 rfl rfl) h0
  obtain ⟨a1, rfl, rfl, rfl, w1⟩ := open_string Tryd.underlying9 (hval 1 9 v1 rfl rfl) h1
  clear hA0 hval0
  simp only [List.append_nil] at hW'
  refine (lexTokens_true a0 a1 w0 w1 W hT).mono fun e W' ⟨he, hB⟩ => ?_
  subst he
  refine ⟨_, rfl, _, _, _, [], [], [], hW', ?_, ?_, ?_, hB.frame _, fun h => by cases h⟩
  · exact trodAll_cons_mk (shut_bool Tryd.underlying4 _) trodAll_mk0
  · exact (trodAll_cons_mk (shut_string Tryd.underlying9 w0) (trodAll_cons_mk (shut_string Tryd.underlying9 w1) trodAll_mk0))
  · rfl

/-- LexTokens: the row. -/
theorem lexTokens_holds : Rows.LexTokensSaid :=
  OpenClaim.holds_of_wide 3 Tryd.f3 rfl rfl rfl rfl rfl rfl rfl ⟨rfl, rfl, rfl, rfl, rfl⟩ rfl rfl rfl rfl rfl (by kernel_rfl) Tryd.func3 (by kernel_rfl)
    (of_decide_eq_true (by kernel_rfl)) (by unfold Func.isWrapper; first | (rw [if_pos (by decide +kernel)]; kernel_rfl) | (rw [if_neg (by decide +kernel)]; exact ⟨rfl, rfl⟩))
    (fun os started H enc _ => lexTokens_lifted os started H enc)

/-- LexTokens: the given statement, the card: the two tables are tied to the program's text. -/
theorem lexTokens_card : Rows.LexTokensCardSaid :=
  Claim7.holds_tied_plain_at .later [] [.data, .data] true Rows.lexTokensCard.stood.harness false
    lexTokens_holds (fun _ h => by cases h) (by kernel_rfl) (fun _ h => by cases h) lexTokens_row_tie rfl ⟨rfl, rfl⟩ (by kernel_rfl) rfl
    (fun f fn hf hfn => by
      obtain rfl : f = 3 := Option.some.inj ((show Tryd.prog.funcNamed "leaven/leavenlaw02.LexTokens" = some 3 by kernel_rfl).symm.trans hf) |>.symm
      obtain rfl : fn = Tryd.f3 := (Option.some.inj (Tryd.func3.symm.trans hfn)).symm
      exact ⟨by kernel_rfl, fun j t ht => by
        rw [Tryd.params3] at ht
        have hm : t ∈ [9, 9] := by simpa using Array.mem_of_getElem? ht
        have hall : ([9, 9].all fun u => !Tryd.prog.wantsStandIn u) = true := by kernel_rfl
        exact (show Tryd.prog.wantsStandIn t = false by simpa using List.all_eq_true.1 hall t hm)⟩)
    (by kernel_rfl)

end Go.Proofs.YtfmmhmkaphbmpaaDoor.lexTokens
