/-
  LexKinds is true for every text: a token of each kind begins as it should, and keys are just the words that are keys. No conditions but the card's own: the two tables read as the program's text lays them.
-/
import Derived.Test.YtfmmhmkaphbmpaaDoorRows
import Derived.Test.YtfmmhmkaphbmpaaDoorCards
import Derived.Test.YtfmmhmkaphbmpaaDoorTie
import Derived.Test.YtfmmhmkaphbmpaaDoorLexZ
import Derived.Test.YtfmmhmkaphbmpaaDoorLexD
import Derived.Test.YtfmmhmkaphbmpaaDoorLexF
import Derived.ProofKit
import Derived.LaidMore
import Derived.OpenShut
import Derived.Stop.Joined
import Derived.SevenTiedAt
namespace Go.Proofs.YtfmmhmkaphbmpaaDoor.lexKinds
open Go.ChangeShapes Go.WideShapes Go.ChangeAt Go.RowKit
open Go.ChangeMaps (open_string shut_string)

theorem own : ownKnob Tryd.prog.godebug = none := by kernel_rfl

/-- What the round's head holds. -/
def KRel (r : List L.Tok) (g : Nat) (w : World) (vi : Value) (wr : World) : Prop :=
  ∃ k : Nat, k ≤ r.length ∧ vi = .int .i64 k ∧ TRow wr g r ∧ Below w.heap.size w wr

theorem calls_quiet {f : FuncId} {args : Array Value} {w : World} {n : Nat} {v : Value} (h : ∀ W : World, Calls Tryd.prog f args W fun e w' => e = .returned v ∧ W = w') :
    Calls Tryd.prog f args (w.drewN n) fun e w'' => e = .returned v ∧ ∃ m, w'' = w.drewN m := (h _).mono fun _ _ ⟨he, hm⟩ => ⟨he, n, hm.symm⟩
theorem calls_quietT {f : FuncId} {args : Array Value} {w : World} {n : Nat} {v : Value} (hT : Tab w) (h : ∀ W : World, Tab W → Calls Tryd.prog f args W fun e w' => e = .returned v ∧ W = w') :
    Calls Tryd.prog f args (w.drewN n) fun e w'' => e = .returned v ∧ ∃ m, w'' = w.drewN m := (h (w.drewN n) hT).mono fun _ _ ⟨he, hm⟩ => ⟨he, n, hm.symm⟩

set_option maxHeartbeats 8000000 in
set_option maxRecDepth 100000 in
theorem lexKinds_true (s : ByteArray) (w0 : s.size ≤ maxLen) (w : World) (hT : Tab w) :
    Calls Tryd.prog 8 #[.string s] w fun e w' => e = .returned (.bool true) ∧ Below w.heap.size w w' := by
  have HT := hid hT
  clear hT
  by_cases h : 3000 < s.size
  · unfold maxLen at w0
    go_enter Tryd.func8, Tryd.ntmps8
    go_wp2_with fail
    refine (alive_any _ HT.out).mono ?_
    rintro e w1 ⟨rfl, h1⟩
    go_wp2
    go_ret
    exact ⟨rfl, h1⟩
  have hs : s.size ≤ 3000 := by omega
  clear w0 h
  have hlen : s.data.toList.length = s.size := by simp
  obtain ⟨x, hx⟩ : ∃ x, L.toksL s.data.toList = x := ⟨_, rfl⟩
  cases x with
  | ok r =>
    have hr := L.all_len (L.all_of hx)
    have htok := L.tok_all (L.all_of hx)
    have hlt := (L.join_all (L.all_of hx)).2
    have hpos : 0 < r.length := List.length_pos_iff.2 (L.tk_ne (L.all_of hx))
    rw [hlen] at hr hlt
    have HX := hid hx
    have HC := hid htok
    have HTL : Hid (∀ (i : Nat) (hi : i < r.length), r[i].text.length ≤ s.size) := hid fun i hi => hlt (L.kt r[i]) (List.mem_map.2 ⟨_, List.getElem_mem hi, rfl⟩)
    have HLEN := hid hlen
    clear hx htok hlen hlt
    go_enter Tryd.func8, Tryd.ntmps8
    go_wp2_with fail
    refine (tokens_yes s (by omega) r HX.out _ HT.out).mono ?_
    rintro e w1 ⟨⟨g1, c1, rfl, hr1⟩, h1⟩
    have HR1 := hid hr1
    clear hr1
    go_wp2
    go_loopw [6] (fun vi wr => KRel r g1 w vi wr) (fun vi _ => r.length - (intOf vi).toNat)
    case atStart => exact ⟨0, by omega, rfl, HR1.out, h1⟩
    case round =>
      obtain ⟨k, hk, rfl, hRow, hB⟩ := hrel
      by_cases hlt : k < r.length
      · have htk := HC.out k hlt
        have hxt := HTL.out k hlt
        obtain ⟨a0, a1, a2, a3⟩ := hRow.2 k hlt
        have HTB : Hid (Tab wr) := hid (HT.out.below hB HT.out.size)
        rw [HLEN.out] at htk
        unfold strV at a1
        obtain ⟨X, hX⟩ : ∃ X : ByteArray, (⟨r[k].text.toArray⟩ : ByteArray) = X := ⟨_, rfl⟩
        have hXl : X.data.toList = r[k].text := by rw [← hX]
        have hXs : X.size = r[k].text.length := by rw [← hX]; show r[k].text.toArray.size = _; simp
        rw [hX] at a1
        clear hX
        generalize r[k].kind = x0 at *
        generalize r[k].text = xt at *
        generalize r[k].fr = x2 at *
        generalize r[k].to = x3 at *
        have HRow := hid hRow
        clear hRow
        rcases htk with ⟨hlast, hk0⟩ | ⟨hx2, hone⟩
        · subst hk0
          clear hXl hXs hxt
          go_wp2
          refine ⟨⟨k + 1, by omega, by go_num, ?_, ?_⟩, by simp [intOf]; omega⟩
          · exact HRow.out.below ((Below.refl _ _).alloc (Nat.le_refl _) _)
          · exact up hB ((Below.refl _ _).alloc (Nat.le_refl _) _) (Nat.le_refl _)
        · have hF := L.first_byte hone
          have hbt := byte_is s x2 hx2
          rw [← hbt] at hF
          clear hbt hone
          have hXm : X.size ≤ 3000 := by omega
          have HTA : Hid (Tab (wr.alloc (.cells #[.int .i64 x0, .string X, .int .i64 x2, .int .i64 x3] 31))) := hid (HTB.out.grows ((Below.refl _ _).alloc (Nat.le_refl _) _))
          unfold L.First at hF
          rw [L.low_two] at hF
          rcases hF with ⟨rfl, g1, g2, hn, hk6⟩ | ⟨rfl, g1, g2, hn, hk6⟩ | ⟨rfl, g1, g2, hn⟩ | ⟨rfl, g1, g2, h18⟩ | ⟨rfl, g1⟩ | ⟨rfl, g1 | g1 | g1 | g1⟩
          · have HNAME := hid hn
            have HKEY := hid hk6
            clear hn hk6
            have HK : Hid (∀ W, Tab W → Calls Tryd.prog 14 #[.string X] W fun e w' => e = .returned (.bool false) ∧ W = w') := hid fun W hT => (isKey_any X W hT).mono fun _ _ ⟨he, hw⟩ => ⟨he.trans (ret_bool (by rw [hXl]; exact HKEY.out)), hw⟩
            have HW : Hid (∀ W, Calls Tryd.prog 19 #[.string X] W fun e w' => e = .returned (.bool true) ∧ W = w') := hid fun W => (refWord_any X (by omega) W).mono fun _ _ ⟨he, hw⟩ => ⟨he.trans (ret_bool (by rw [nameB_L, hXl]; exact HNAME.out)), hw⟩
            have HXL := hid hXl
            clear hXl
            have d97 : decide ((97 : Int) ≤ ((s[x2]'hx2).toNat : Int)) = true := decide_eq_true (by omega)
            have d65 : decide ((65 : Int) ≤ ((s[x2]'hx2).toNat : Int)) = true := decide_eq_true (by omega)
            have d48 : decide ((48 : Int) ≤ ((s[x2]'hx2).toNat : Int)) = true := decide_eq_true (by omega)
            have d122 : decide (((s[x2]'hx2).toNat : Int) ≤ (122 : Int)) = true := decide_eq_true (by omega)
            have d90 : decide (((s[x2]'hx2).toNat : Int) ≤ (90 : Int)) = false := decide_eq_false (by omega)
            have d57 : decide (((s[x2]'hx2).toNat : Int) ≤ (57 : Int)) = false := decide_eq_false (by omega)
            have q34 : (((s[x2]'hx2).toNat : Int) == 34) = false := beq_eq_false_iff_ne.2 (by omega)
            go_wp2
            go_quiet ((first | (go_at_call 14; exact calls_quietT HTA.out HK.out) | (go_at_call 19; exact calls_quiet HW.out)))
            go_wp2
            refine ⟨⟨k + 1, by omega, by go_num, ?_, ?_⟩, by simp [intOf]; omega⟩
            · exact HRow.out.below (below_drewN ((Below.refl _ _).alloc (Nat.le_refl _) _) _)
            · exact up hB (below_drewN ((Below.refl _ _).alloc (Nat.le_refl _) _) _) (Nat.le_refl _)
          · have HNAME := hid hn
            have HKEY := hid hk6
            clear hn hk6
            have HK : Hid (∀ W, Tab W → Calls Tryd.prog 14 #[.string X] W fun e w' => e = .returned (.bool true) ∧ W = w') := hid fun W hT => (isKey_any X W hT).mono fun _ _ ⟨he, hw⟩ => ⟨he.trans (ret_bool (by rw [hXl]; exact HKEY.out)), hw⟩
            have HW : Hid (∀ W, Calls Tryd.prog 19 #[.string X] W fun e w' => e = .returned (.bool true) ∧ W = w') := hid fun W => (refWord_any X (by omega) W).mono fun _ _ ⟨he, hw⟩ => ⟨he.trans (ret_bool (by rw [nameB_L, hXl]; exact HNAME.out)), hw⟩
            have HXL := hid hXl
            clear hXl
            have d97 : decide ((97 : Int) ≤ ((s[x2]'hx2).toNat : Int)) = true := decide_eq_true (by omega)
            have d65 : decide ((65 : Int) ≤ ((s[x2]'hx2).toNat : Int)) = true := decide_eq_true (by omega)
            have d48 : decide ((48 : Int) ≤ ((s[x2]'hx2).toNat : Int)) = true := decide_eq_true (by omega)
            have d122 : decide (((s[x2]'hx2).toNat : Int) ≤ (122 : Int)) = true := decide_eq_true (by omega)
            have d90 : decide (((s[x2]'hx2).toNat : Int) ≤ (90 : Int)) = false := decide_eq_false (by omega)
            have d57 : decide (((s[x2]'hx2).toNat : Int) ≤ (57 : Int)) = false := decide_eq_false (by omega)
            have q34 : (((s[x2]'hx2).toNat : Int) == 34) = false := beq_eq_false_iff_ne.2 (by omega)
            go_wp2
            go_quiet ((first | (go_at_call 14; exact calls_quietT HTA.out HK.out) | (go_at_call 19; exact calls_quiet HW.out)))
            go_wp2
            refine ⟨⟨k + 1, by omega, by go_num, ?_, ?_⟩, by simp [intOf]; omega⟩
            · exact HRow.out.below (below_drewN ((Below.refl _ _).alloc (Nat.le_refl _) _) _)
            · exact up hB (below_drewN ((Below.refl _ _).alloc (Nat.le_refl _) _) _) (Nat.le_refl _)
          · have HNAME := hid hn
            clear hn
            have HG : Hid (∀ W, Calls Tryd.prog 18 #[.string X] W fun e w' => e = .returned (.bool true) ∧ W = w') := hid fun W => (refTag_any X (by omega) W).mono fun _ _ ⟨he, hw⟩ => ⟨he.trans (ret_bool (by rw [nameB_L, hXl]; exact HNAME.out)), hw⟩
            have HXL := hid hXl
            clear hXl
            have d97 : decide ((97 : Int) ≤ ((s[x2]'hx2).toNat : Int)) = false := decide_eq_false (by omega)
            have d65 : decide ((65 : Int) ≤ ((s[x2]'hx2).toNat : Int)) = true := decide_eq_true (by omega)
            have d48 : decide ((48 : Int) ≤ ((s[x2]'hx2).toNat : Int)) = true := decide_eq_true (by omega)
            have d122 : decide (((s[x2]'hx2).toNat : Int) ≤ (122 : Int)) = true := decide_eq_true (by omega)
            have d90 : decide (((s[x2]'hx2).toNat : Int) ≤ (90 : Int)) = true := decide_eq_true (by omega)
            have d57 : decide (((s[x2]'hx2).toNat : Int) ≤ (57 : Int)) = false := decide_eq_false (by omega)
            have q34 : (((s[x2]'hx2).toNat : Int) == 34) = false := beq_eq_false_iff_ne.2 (by omega)
            go_wp2
            go_quiet ((first | (go_at_call 18; exact calls_quiet HG.out)))
            go_wp2
            refine ⟨⟨k + 1, by omega, by go_num, ?_, ?_⟩, by simp [intOf]; omega⟩
            · exact HRow.out.below (below_drewN ((Below.refl _ _).alloc (Nat.le_refl _) _) _)
            · exact up hB (below_drewN ((Below.refl _ _).alloc (Nat.le_refl _) _) _) (Nat.le_refl _)
          · have h18x : X.size ≤ 18 := by omega
            clear hXl
            have d97 : decide ((97 : Int) ≤ ((s[x2]'hx2).toNat : Int)) = false := decide_eq_false (by omega)
            have d65 : decide ((65 : Int) ≤ ((s[x2]'hx2).toNat : Int)) = false := decide_eq_false (by omega)
            have d48 : decide ((48 : Int) ≤ ((s[x2]'hx2).toNat : Int)) = true := decide_eq_true (by omega)
            have d122 : decide (((s[x2]'hx2).toNat : Int) ≤ (122 : Int)) = true := decide_eq_true (by omega)
            have d90 : decide (((s[x2]'hx2).toNat : Int) ≤ (90 : Int)) = true := decide_eq_true (by omega)
            have d57 : decide (((s[x2]'hx2).toNat : Int) ≤ (57 : Int)) = true := decide_eq_true (by omega)
            have q34 : (((s[x2]'hx2).toNat : Int) == 34) = false := beq_eq_false_iff_ne.2 (by omega)
            go_wp2
            go_quiet ((fail))
            go_wp2
            refine ⟨⟨k + 1, by omega, by go_num, ?_, ?_⟩, by simp [intOf]; omega⟩
            · exact HRow.out.below (below_drewN ((Below.refl _ _).alloc (Nat.le_refl _) _) _)
            · exact up hB (below_drewN ((Below.refl _ _).alloc (Nat.le_refl _) _) _) (Nat.le_refl _)
          · clear hXl
            have d97 : decide ((97 : Int) ≤ ((s[x2]'hx2).toNat : Int)) = false := decide_eq_false (by omega)
            have d65 : decide ((65 : Int) ≤ ((s[x2]'hx2).toNat : Int)) = false := decide_eq_false (by omega)
            have d48 : decide ((48 : Int) ≤ ((s[x2]'hx2).toNat : Int)) = false := decide_eq_false (by omega)
            have d122 : decide (((s[x2]'hx2).toNat : Int) ≤ (122 : Int)) = true := decide_eq_true (by omega)
            have d90 : decide (((s[x2]'hx2).toNat : Int) ≤ (90 : Int)) = true := decide_eq_true (by omega)
            have d57 : decide (((s[x2]'hx2).toNat : Int) ≤ (57 : Int)) = true := decide_eq_true (by omega)
            have q34 : (((s[x2]'hx2).toNat : Int) == 34) = true := beq_iff_eq.2 (by omega)
            go_wp2
            go_quiet ((fail))
            go_wp2
            refine ⟨⟨k + 1, by omega, by go_num, ?_, ?_⟩, by simp [intOf]; omega⟩
            · exact HRow.out.below (below_drewN ((Below.refl _ _).alloc (Nat.le_refl _) _) _)
            · exact up hB (below_drewN ((Below.refl _ _).alloc (Nat.le_refl _) _) _) (Nat.le_refl _)
          · clear hXl
            obtain ⟨g1, g2⟩ := g1
            have d97 : decide ((97 : Int) ≤ ((s[x2]'hx2).toNat : Int)) = false := decide_eq_false (by omega)
            have d65 : decide ((65 : Int) ≤ ((s[x2]'hx2).toNat : Int)) = false := decide_eq_false (by omega)
            have d48 : decide ((48 : Int) ≤ ((s[x2]'hx2).toNat : Int)) = false := decide_eq_false (by omega)
            have d122 : decide (((s[x2]'hx2).toNat : Int) ≤ (122 : Int)) = true := decide_eq_true (by omega)
            have d90 : decide (((s[x2]'hx2).toNat : Int) ≤ (90 : Int)) = true := decide_eq_true (by omega)
            have d57 : decide (((s[x2]'hx2).toNat : Int) ≤ (57 : Int)) = true := decide_eq_true (by omega)
            have q34 : (((s[x2]'hx2).toNat : Int) == 34) = false := beq_eq_false_iff_ne.2 (by omega)
            go_wp2
            go_quiet ((fail))
            go_wp2
            refine ⟨⟨k + 1, by omega, by go_num, ?_, ?_⟩, by simp [intOf]; omega⟩
            · exact HRow.out.below (below_drewN ((Below.refl _ _).alloc (Nat.le_refl _) _) _)
            · exact up hB (below_drewN ((Below.refl _ _).alloc (Nat.le_refl _) _) _) (Nat.le_refl _)
          · clear hXl
            obtain ⟨g1, g2⟩ := g1
            have d97 : decide ((97 : Int) ≤ ((s[x2]'hx2).toNat : Int)) = false := decide_eq_false (by omega)
            have d65 : decide ((65 : Int) ≤ ((s[x2]'hx2).toNat : Int)) = false := decide_eq_false (by omega)
            have d48 : decide ((48 : Int) ≤ ((s[x2]'hx2).toNat : Int)) = true := decide_eq_true (by omega)
            have d122 : decide (((s[x2]'hx2).toNat : Int) ≤ (122 : Int)) = true := decide_eq_true (by omega)
            have d90 : decide (((s[x2]'hx2).toNat : Int) ≤ (90 : Int)) = true := decide_eq_true (by omega)
            have d57 : decide (((s[x2]'hx2).toNat : Int) ≤ (57 : Int)) = false := decide_eq_false (by omega)
            have q34 : (((s[x2]'hx2).toNat : Int) == 34) = false := beq_eq_false_iff_ne.2 (by omega)
            go_wp2
            go_quiet ((fail))
            go_wp2
            refine ⟨⟨k + 1, by omega, by go_num, ?_, ?_⟩, by simp [intOf]; omega⟩
            · exact HRow.out.below (below_drewN ((Below.refl _ _).alloc (Nat.le_refl _) _) _)
            · exact up hB (below_drewN ((Below.refl _ _).alloc (Nat.le_refl _) _) _) (Nat.le_refl _)
          · clear hXl
            obtain ⟨g1, g2⟩ := g1
            have d97 : decide ((97 : Int) ≤ ((s[x2]'hx2).toNat : Int)) = false := decide_eq_false (by omega)
            have d65 : decide ((65 : Int) ≤ ((s[x2]'hx2).toNat : Int)) = true := decide_eq_true (by omega)
            have d48 : decide ((48 : Int) ≤ ((s[x2]'hx2).toNat : Int)) = true := decide_eq_true (by omega)
            have d122 : decide (((s[x2]'hx2).toNat : Int) ≤ (122 : Int)) = true := decide_eq_true (by omega)
            have d90 : decide (((s[x2]'hx2).toNat : Int) ≤ (90 : Int)) = false := decide_eq_false (by omega)
            have d57 : decide (((s[x2]'hx2).toNat : Int) ≤ (57 : Int)) = false := decide_eq_false (by omega)
            have q34 : (((s[x2]'hx2).toNat : Int) == 34) = false := beq_eq_false_iff_ne.2 (by omega)
            go_wp2
            go_quiet ((fail))
            go_wp2
            refine ⟨⟨k + 1, by omega, by go_num, ?_, ?_⟩, by simp [intOf]; omega⟩
            · exact HRow.out.below (below_drewN ((Below.refl _ _).alloc (Nat.le_refl _) _) _)
            · exact up hB (below_drewN ((Below.refl _ _).alloc (Nat.le_refl _) _) _) (Nat.le_refl _)
          · clear hXl
            have d97 : decide ((97 : Int) ≤ ((s[x2]'hx2).toNat : Int)) = true := decide_eq_true (by omega)
            have d65 : decide ((65 : Int) ≤ ((s[x2]'hx2).toNat : Int)) = true := decide_eq_true (by omega)
            have d48 : decide ((48 : Int) ≤ ((s[x2]'hx2).toNat : Int)) = true := decide_eq_true (by omega)
            have d122 : decide (((s[x2]'hx2).toNat : Int) ≤ (122 : Int)) = false := decide_eq_false (by omega)
            have d90 : decide (((s[x2]'hx2).toNat : Int) ≤ (90 : Int)) = false := decide_eq_false (by omega)
            have d57 : decide (((s[x2]'hx2).toNat : Int) ≤ (57 : Int)) = false := decide_eq_false (by omega)
            have q34 : (((s[x2]'hx2).toNat : Int) == 34) = false := beq_eq_false_iff_ne.2 (by omega)
            go_wp2
            go_quiet ((fail))
            go_wp2
            refine ⟨⟨k + 1, by omega, by go_num, ?_, ?_⟩, by simp [intOf]; omega⟩
            · exact HRow.out.below (below_drewN ((Below.refl _ _).alloc (Nat.le_refl _) _) _)
            · exact up hB (below_drewN ((Below.refl _ _).alloc (Nat.le_refl _) _) _) (Nat.le_refl _)
      · obtain rfl : k = r.length := by omega
        have HTn := hid ((HT.out.below hB (HT.out.size)))
        go_wp2_with fail
        refine (alive_any _ HTn.out).mono ?_
        rintro e w2 ⟨rfl, h2⟩
        go_wp2
        go_ret
        exact ⟨ret_bool (by simp; try omega), up hB h2 (Nat.le_refl _)⟩
  | error q =>
    have HX := hid hx
    clear hx hlen
    go_enter Tryd.func8, Tryd.ntmps8
    go_wp2_with fail
    refine (tokens_no s (by omega) q HX.out _ HT.out).mono ?_
    rintro e w1 ⟨rfl, h1⟩
    go_wp2
    go_loopw [6] (fun vi wr => wr = w1 ∧ vi = .int .i64 0) (fun _ _ => 0)
    case atStart => exact ⟨rfl, rfl⟩
    case round =>
      obtain ⟨rfl, rfl⟩ := hrel
      go_wp2_with fail
      refine (alive_any _ (HT.out.grows h1)).mono ?_
      rintro e w2 ⟨rfl, h2⟩
      go_wp2
      go_ret
      exact ⟨ret_bool (by rfl), up h1 h2 (Nat.le_refl _)⟩

set_option maxRecDepth 100000 in
theorem lexKinds_lifted (os : Os) (started : os.Started) (H : Type) (enc : TypeId × Value → H) :
    ReturnsInHanded {} Tryd.checked os 8 .any (fun w args => (Rows.lexKindsSpec.pre enc Tryd.prog Tryd.f8 [] false w args ∧ laidMetH Tryd.prog laidAll w) ∧ sizedMet enc Tryd.prog Tryd.f8 (OpenSpec.ofChange Rows.lexKindsSpec) false w args)
      (Rows.lexKindsSpec.post enc Tryd.prog Tryd.f8 false true false false) := by
  refine returnsInHanded_of_change_and (C := Tryd.checked) (X := fun w _ => laidMetH Tryd.prog laidAll w) (fun _ _ _ hh h => h.of_heap hh) own started (by kernel_rfl) Tryd.func8
    (ChangeSpec.witness_shaped (enc := enc) (C := Tryd.checked) (os := os) (X := fun w _ => laidMetH Tryd.prog laidAll w) false (World.doorLaid Tryd.prog 400 os) #[.string ⟨#[]⟩] 8 rfl (World.shaped_of_RefB (by kernel_rfl) (by kernel_rfl)) (by kernel_rfl) (by kernel_rfl) (by kernel_rfl) (door_met os _)) ?_
  intro W base args ds gs before hval0 hW _ _ hL _
  have hT := tab_of_laid hL
  have hval : ∀ (j : Nat) t v, Tryd.f8.params[j]? = some t → args[j]? = some v → Value.okWide Tryd.prog W .any base t v := hval0
  have hW' := hW
  obtain ⟨p, q, hA0, hV, rfl, hfz, hnd⟩ := hW
  have hA : DataW.TrodAll enc Tryd.prog W 0 (fun _ => true) true Tryd.f8.params.toList args.toList ds p := hA0
  rw [Tryd.params8] at hA hval
  obtain ⟨v0, vs0, d0, ds0, p0, q0, hargs, rfl, rfl, h0, r0⟩ := trodAll_cons hA
  obtain ⟨hn, rfl, rfl⟩ := trodAll_nil r0
  obtain rfl : args = #[v0] := by cases args; simp_all
  obtain ⟨rfl, rfl⟩ := trodVars_none hV
  obtain ⟨a0, rfl, rfl, rfl, w0⟩ := open_string Tryd.underlying9 (hval 0 9 v0 rfl rfl) h0
  clear hA0 hval0
  simp only [List.append_nil] at hW'
  refine (lexKinds_true a0 w0 W hT).mono fun e W' ⟨he, hB⟩ => ?_
  subst he
  refine ⟨_, rfl, _, _, _, [], [], [], hW', ?_, ?_, ?_, hB.frame _, fun h => by cases h⟩
  · exact trodAll_cons_mk (shut_bool Tryd.underlying4 _) trodAll_mk0
  · exact (trodAll_cons_mk (shut_string Tryd.underlying9 w0) trodAll_mk0)
  · rfl

/-- LexKinds: the row. -/
theorem lexKinds_holds : Rows.LexKindsSaid :=
  OpenClaim.holds_of_wide 8 Tryd.f8 rfl rfl rfl rfl rfl rfl rfl ⟨rfl, rfl, rfl, rfl, rfl⟩ rfl rfl rfl rfl rfl (by kernel_rfl) Tryd.func8 (by kernel_rfl)
    (of_decide_eq_true (by kernel_rfl)) (by unfold Func.isWrapper; first | (rw [if_pos (by decide +kernel)]; kernel_rfl) | (rw [if_neg (by decide +kernel)]; exact ⟨rfl, rfl⟩))
    (fun os started H enc _ => lexKinds_lifted os started H enc)

/-- LexKinds: the given statement, the card: the two tables are tied to the program's text. -/
theorem lexKinds_card : Rows.LexKindsCardSaid :=
  Claim7.holds_tied_plain_at .later [] [.data, .data] true Rows.lexKindsCard.stood.harness false
    lexKinds_holds (fun _ h => by cases h) (by kernel_rfl) (fun _ h => by cases h) lexKinds_row_tie rfl ⟨rfl, rfl⟩ (by kernel_rfl) rfl
    (fun f fn hf hfn => by
      obtain rfl : f = 8 := Option.some.inj ((show Tryd.prog.funcNamed "leaven/leavenlaw02.LexKinds" = some 8 by kernel_rfl).symm.trans hf) |>.symm
      obtain rfl : fn = Tryd.f8 := (Option.some.inj (Tryd.func8.symm.trans hfn)).symm
      exact ⟨by kernel_rfl, fun j t ht => by
        rw [Tryd.params8] at ht
        have hm : t ∈ [9] := by simpa using Array.mem_of_getElem? ht
        have hall : ([9].all fun u => !Tryd.prog.wantsStandIn u) = true := by kernel_rfl
        exact (show Tryd.prog.wantsStandIn t = false by simpa using List.all_eq_true.1 hall t hm)⟩)
    (by kernel_rfl)

end Go.Proofs.YtfmmhmkaphbmpaaDoor.lexKinds
