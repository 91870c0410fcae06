/-
  LexQuoted is true for every two texts: a quoted text is one token, with all its bytes, and what stands behind it is read as alone. No conditions but the card's own: the two tables read as the program's text lays them.
-/
import Derived.Test.YtfmmhmkaphbmpaaDoorRows
import Derived.Test.YtfmmhmkaphbmpaaDoorCards
import Derived.Test.YtfmmhmkaphbmpaaDoorTie
import Derived.Test.YtfmmhmkaphbmpaaDoorLexZ
import Derived.Test.YtfmmhmkaphbmpaaDoorLexD
import Derived.Test.YtfmmhmkaphbmpaaDoorLexE3
import Derived.IntWalk
import Derived.ProofKit
import Derived.LaidMore
import Derived.OpenShut
import Derived.Stop.Joined
import Derived.SevenTiedAt
namespace Go.Proofs.YtfmmhmkaphbmpaaDoor.lexQuoted
open Go.ChangeShapes Go.WideShapes Go.ChangeAt Go.RowKit
open Go.ChangeMaps (open_string shut_string)

theorem own : ownKnob Tryd.prog.godebug = none := by kernel_rfl

theorem str_self (a : ByteArray) : strV a.data.toList = .string a := by
  unfold strV
  congr 1

set_option maxHeartbeats 4000000 in
set_option maxRecDepth 100000 in
theorem lexQuoted_true (a s : ByteArray) (w0 : a.size ≤ maxLen) (w1 : s.size ≤ maxLen) (w : World) (hT : Tab w) :
    Calls Tryd.prog 9 #[.string a, .string s] w fun e w' => e = .returned (.bool true) ∧ Below w.heap.size w w' := by
  have HT := hid hT
  clear hT
  by_cases h1 : 1000 < a.size
  · unfold maxLen at w0 w1
    go_enter Tryd.func9, Tryd.ntmps9
    go_wp2_with fail
    refine (alive_any _ HT.out).mono ?_
    rintro e w1 ⟨rfl, h1⟩
    go_wp2
    go_ret
    exact ⟨rfl, h1⟩
  by_cases h2 : 1000 < s.size
  · unfold maxLen at w0 w1
    go_enter Tryd.func9, Tryd.ntmps9
    go_wp2_with fail
    refine (alive_any _ HT.out).mono ?_
    rintro e w1 ⟨rfl, h1⟩
    go_wp2
    go_ret
    exact ⟨rfl, h1⟩
  have ha : a.size ≤ 1000 := by omega
  have hs : s.size ≤ 1000 := by omega
  clear w0 w1 h1 h2
  have hlen : s.data.toList.length = s.size := by simp
  have hal : a.data.toList.length = a.size := by simp
  have hql := quote_len a.data.toList
  obtain ⟨Q, hQ⟩ : ∃ Q : ByteArray, (⟨(G.quoteL a.data.toList).toArray⟩ : ByteArray) = Q := ⟨_, rfl⟩
  have hQl : Q.data.toList = G.quoteL a.data.toList := by rw [← hQ]
  have hQs : Q.size = (G.quoteL a.data.toList).length := by rw [← hQ]; show (G.quoteL a.data.toList).toArray.size = _; simp
  have HQ : Hid (∀ w, Calls Tryd.prog 20 #[.string a] w fun e w' => e = .returned (.string Q) ∧ w = w') := hid fun w => by
    have := refQuote_any a (by omega) w
    rw [hQ] at this
    exact this
  have hQ5 : Q.size ≤ 5000 := by omega
  have hsz : (Q ++ s).size ≤ 100000 := by rw [ByteArray.size_append]; omega
  have happ : (Q ++ s).data.toList = G.quoteL a.data.toList ++ s.data.toList := by rw [toList_app, hQl]
  obtain ⟨x, hx⟩ : ∃ x, L.toksL s.data.toList = x := ⟨_, rfl⟩
  cases x with
  | ok r =>
    have hx2 := L.quoted_ok (a := a.data.toList) hx
    rw [← happ, ← hQs] at hx2
    have hr := L.all_len (L.all_of hx)
    have hcov := L.cover_all (L.all_of hx)
    rw [hlen] at hr
    obtain ⟨R, hR⟩ : ∃ R, (⟨4, a.data.toList, 0, Q.size⟩ :: r.map (L.shift Q.size) : List L.Tok) = R := ⟨_, rfl⟩
    have hRl : R.length = r.length + 1 := by rw [← hR]; simp
    have hR0 : ∀ h : 0 < R.length, R[0].kind = 4 ∧ R[0].text = a.data.toList ∧ R[0].fr = 0 ∧ R[0].to = Q.size := by
      subst hR
      intro _
      exact ⟨rfl, rfl, rfl, rfl⟩
    have hRi : ∀ (i : Nat) (h : i < r.length) (h2 : i + 1 < R.length), R[i + 1].kind = r[i].kind ∧ R[i + 1].text = r[i].text ∧ R[i + 1].fr = r[i].fr + Q.size := by
      subst hR
      intro i h h2
      obtain ⟨e1, e2, e3, _⟩ := L.shift_get (t := ⟨4, a.data.toList, 0, Q.size⟩) (d := Q.size) i h h2
      exact ⟨e1, e2, e3⟩
    have hfr : ∀ (i : Nat) (h : i < r.length), r[i].fr ≤ s.size := fun i h => by
      obtain ⟨_, _, c3, c4, _⟩ := hcov i h
      rw [hlen] at c3
      omega
    rw [hR] at hx2
    have HX := hid hx
    have HX2 := hid hx2
    have HRL := hid hRl
    have HR0 := hid hR0
    have HRI := hid hRi
    have HFR := hid hfr
    have HLEN := hid hlen
    clear hx hx2 hRl hR0 hRi hfr hcov hlen hal hql hQ hQl hQs happ hR
    go_enter Tryd.func9, Tryd.ntmps9
    go_wp2_with fail
    refine (HQ.out _).mono ?_
    rintro e w1 ⟨rfl, rfl⟩
    go_wp2_with fail
    refine (tokens_yes (Q ++ s) hsz R HX2.out _ HT.out).mono ?_
    rintro e w1 ⟨⟨g1, c1, rfl, hr1⟩, h1⟩
    have HR1 := hid hr1
    have HT1 := hid (HT.out.grows h1)
    clear hr1
    go_wp2_with fail
    refine (tokens_yes s (by omega) r HX.out _ HT1.out).mono ?_
    rintro e w2 ⟨⟨g2, c2, rfl, hr2⟩, h2⟩
    have HR2 := hid hr2
    have HT2 := hid (HT1.out.grows h2)
    have HR12 := hid (HR1.out.below h2)
    have hB2 := up h1 h2 (Nat.le_refl _)
    obtain ⟨z0, z1, z2, z3⟩ := HR12.out.2 0 (by rw [HRL.out]; omega)
    obtain ⟨y0, y1, y2, y3⟩ := HR0.out (by rw [HRL.out]; omega)
    rw [Nat.zero_mul] at z0 z1 z2 z3
    rw [y0] at z0
    rw [y1, str_self] at z1
    rw [y2] at z2
    rw [y3] at z3
    rw [HRL.out]
    simp only [Nat.zero_add] at z1 z2 z3
    have zl : (((r.length + 1 : Nat) : Int) != (r.length : Int) + 1) = false := by simp
    clear hr2 y0 y1 y2 y3
    go_wp2
    go_loopw [12] (fun vi wr => ∃ k n : Nat, wr = w2.drewN n ∧ k ≤ r.length ∧ vi = .int .i64 k) (fun vi _ => r.length - (intOf vi).toNat)
    case atStart => exact ⟨0, 0, rfl, by omega, rfl⟩
    case round =>
      obtain ⟨k, n, rfl, hk, rfl⟩ := hrel
      by_cases hlt : k < r.length
      · obtain ⟨a0, a1, a2, a3⟩ := HR12.out.2 (k + 1) (by rw [HRL.out]; omega)
        obtain ⟨b0, b1, b2, b3⟩ := HR2.out.2 k hlt
        obtain ⟨e0, e1, e2⟩ := HRI.out k hlt (by rw [HRL.out]; omega)
        have hf := HFR.out k hlt
        rw [e0] at a0
        rw [e1] at a1
        rw [e2, show (((r[k].fr + Q.size : Nat) : Int)) = (r[k].fr : Int) + (Q.size : Int) by omega] at a2
        clear a3 b3 e0 e1 e2
        unfold strV at a1 b1
        generalize r[k].kind = x0 at *
        generalize (⟨r[k].text.toArray⟩ : ByteArray) = x1 at *
        generalize r[k].fr = x2 at *
        have hd0 : ((x0 : Int) != (x0 : Int)) = false := by simp
        have hd1 : (x1.toList != x1.toList) = false := by simp
        have hd1b : (x1.toList == x1.toList) = true := by simp
        have hd2 : (((x2 : Int) + (Q.size : Int)) != ((x2 : Int) + (Q.size : Int))) = false := by simp
        have s1 : IntKind.i64.wrap ((k : Int) + 1) = (k : Int) + 1 := IntWalk.i64_in _ (by omega)
        have s2 : (0 : Int) ≤ (k : Int) + 1 := by omega
        have s3 : ((k : Int) + 1).toNat = k + 1 := by omega
        have s4 : IntKind.i64.wrap ((x2 : Int) + (Q.size : Int)) = (x2 : Int) + (Q.size : Int) := IntWalk.i64_in _ (by omega)
        have s5 : (k : Int) + 1 < ((r.length + 1 : Nat) : Int) := by omega
        go_wp2
        go_quiet (fail)
        clear s1 s2 s3 s4
        go_wp2
        go_roundw
        case rel => exact ⟨k + 1, _, rfl, by omega, by go_num⟩
        case measure => simp [intOf]; omega
      · have HTn : Hid (Tab (w2.drewN n)) := hid HT2.out
        go_wp2_with fail
        refine (alive_any _ HTn.out).mono ?_
        rintro e w4 ⟨rfl, h4⟩
        go_wp2
        go_ret
        exact ⟨rfl, up (below_drewN hB2 n) h4 (Nat.le_refl _)⟩
  | error q =>
    have hx2 := L.quoted_bad (a := a.data.toList) hx
    rw [← happ, ← hQs] at hx2
    have hqb := L.bad_le hx
    rw [hlen] at hqb
    have HX := hid hx
    have HX2 := hid hx2
    have ec : ((q + Q.size : Nat) : Int) = (q : Int) + (Q.size : Int) := by omega
    have HEC := hid ec
    clear hx hx2 hlen hal hql hQ hQl hQs happ ec
    go_enter Tryd.func9, Tryd.ntmps9
    go_wp2_with fail
    refine (HQ.out _).mono ?_
    rintro e w1 ⟨rfl, rfl⟩
    go_wp2_with fail
    refine (tokens_no (Q ++ s) hsz (q + Q.size) HX2.out _ HT.out).mono ?_
    rintro e w1 ⟨rfl, h1⟩
    have HT1 := hid (HT.out.grows h1)
    rw [HEC.out]
    go_wp2_with fail
    refine (tokens_no s (by omega) q HX.out _ HT1.out).mono ?_
    rintro e w2 ⟨rfl, h2⟩
    have HT2 := hid (HT1.out.grows h2)
    have zd : (((q : Int) + (Q.size : Int)) != ((q : Int) + (Q.size : Int))) = false := by simp
    go_wp2_with fail
    refine (alive_any _ HT2.out).mono ?_
    rintro e w3 ⟨rfl, h3⟩
    go_wp2
    go_ret
    exact ⟨rfl, up (up h1 h2 (Nat.le_refl _)) h3 (Nat.le_refl _)⟩

set_option maxRecDepth 100000 in
theorem lexQuoted_lifted (os : Os) (started : os.Started) (H : Type) (enc : TypeId × Value → H) :
    ReturnsInHanded {} Tryd.checked os 9 .any (fun w args => (Rows.lexQuotedSpec.pre enc Tryd.prog Tryd.f9 [] false w args ∧ laidMetH Tryd.prog laidAll w) ∧ sizedMet enc Tryd.prog Tryd.f9 (OpenSpec.ofChange Rows.lexQuotedSpec) false w args)
      (Rows.lexQuotedSpec.post enc Tryd.prog Tryd.f9 false true false false) := by
  refine returnsInHanded_of_change_and (C := Tryd.checked) (X := fun w _ => laidMetH Tryd.prog laidAll w) (fun _ _ _ hh h => h.of_heap hh) own started (by kernel_rfl) Tryd.func9
    (ChangeSpec.witness_shaped (enc := enc) (C := Tryd.checked) (os := os) (X := fun w _ => laidMetH Tryd.prog laidAll w) false (World.doorLaid Tryd.prog 400 os) #[.string ⟨#[]⟩, .string ⟨#[]⟩] 8 rfl (World.shaped_of_RefB (by kernel_rfl) (by kernel_rfl)) (by kernel_rfl) (by kernel_rfl) (by kernel_rfl) (door_met os _)) ?_
  intro W base args ds gs before hval0 hW _ _ hL _
  have hT := tab_of_laid hL
  have hval : ∀ (j : Nat) t v, Tryd.f9.params[j]? = some t → args[j]? = some v → Value.okWide Tryd.prog W .any base t v := hval0
  have hW' := hW
  obtain ⟨p, q, hA0, hV, rfl, hfz, hnd⟩ := hW
  have hA : DataW.TrodAll enc Tryd.prog W 0 (fun _ => true) true Tryd.f9.params.toList args.toList ds p := hA0
  rw [Tryd.params9] at hA hval
  obtain ⟨v0, vs0, d0, ds0, p0, q0, hargs, rfl, rfl, h0, r0⟩ := trodAll_cons hA
  obtain ⟨v1, vs1, d1, ds1, p1, q1, hargs1, rfl, rfl, h1, r1⟩ := trodAll_cons r0
  obtain ⟨hn, rfl, rfl⟩ := trodAll_nil r1
  obtain rfl : args = #[v0, v1] := by cases args; simp_all
  obtain ⟨rfl, rfl⟩ := trodVars_none hV
  obtain ⟨a0, rfl, rfl, rfl, w0⟩ := open_string Tryd.underlying9 (hval 0 9 v0 rfl rfl) h0
  obtain ⟨a1, rfl, rfl, rfl, w1⟩ := open_string Tryd.underlying9 (hval 1 9 v1 rfl rfl) h1
  clear hA0 hval0
  simp only [List.append_nil] at hW'
  refine (lexQuoted_true a0 a1 w0 w1 W hT).mono fun e W' ⟨he, hB⟩ => ?_
  subst he
  refine ⟨_, rfl, _, _, _, [], [], [], hW', ?_, ?_, ?_, hB.frame _, fun h => by cases h⟩
  · exact trodAll_cons_mk (shut_bool Tryd.underlying4 _) trodAll_mk0
  · exact (trodAll_cons_mk (shut_string Tryd.underlying9 w0) (trodAll_cons_mk (shut_string Tryd.underlying9 w1) trodAll_mk0))
  · rfl

/-- LexQuoted: the row. -/
theorem lexQuoted_holds : Rows.LexQuotedSaid :=
  OpenClaim.holds_of_wide 9 Tryd.f9 rfl rfl rfl rfl rfl rfl rfl ⟨rfl, rfl, rfl, rfl, rfl⟩ rfl rfl rfl rfl rfl (by kernel_rfl) Tryd.func9 (by kernel_rfl)
    (of_decide_eq_true (by kernel_rfl)) (by unfold Func.isWrapper; first | (rw [if_pos (by decide +kernel)]; kernel_rfl) | (rw [if_neg (by decide +kernel)]; exact ⟨rfl, rfl⟩))
    (fun os started H enc _ => lexQuoted_lifted os started H enc)

/-- LexQuoted: the given statement, the card: the two tables are tied to the program's text. -/
theorem lexQuoted_card : Rows.LexQuotedCardSaid :=
  Claim7.holds_tied_plain_at .later [] [.data, .data] true Rows.lexQuotedCard.stood.harness false
    lexQuoted_holds (fun _ h => by cases h) (by kernel_rfl) (fun _ h => by cases h) lexQuoted_row_tie rfl ⟨rfl, rfl⟩ (by kernel_rfl) rfl
    (fun f fn hf hfn => by
      obtain rfl : f = 9 := Option.some.inj ((show Tryd.prog.funcNamed "leaven/leavenlaw02.LexQuoted" = some 9 by kernel_rfl).symm.trans hf) |>.symm
      obtain rfl : fn = Tryd.f9 := (Option.some.inj (Tryd.func9.symm.trans hfn)).symm
      exact ⟨by kernel_rfl, fun j t ht => by
        rw [Tryd.params9] at ht
        have hm : t ∈ [9, 9] := by simpa using Array.mem_of_getElem? ht
        have hall : ([9, 9].all fun u => !Tryd.prog.wantsStandIn u) = true := by kernel_rfl
        exact (show Tryd.prog.wantsStandIn t = false by simpa using List.all_eq_true.1 hall t hm)⟩)
    (by kernel_rfl)

end Go.Proofs.YtfmmhmkaphbmpaaDoor.lexQuoted
