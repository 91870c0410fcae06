/-
  LexCuts is true for every two texts: one behind the other with a line's end between they have the tokens of the first and then those of the second. No conditions but the card's own: the two tables read as the program's text lays them.
-/
import Derived.Test.YtfmmhmkaphbmpaaDoorRows
import Derived.Test.YtfmmhmkaphbmpaaDoorCards
import Derived.Test.YtfmmhmkaphbmpaaDoorTie
import Derived.Test.YtfmmhmkaphbmpaaDoorLexZ
import Derived.Test.YtfmmhmkaphbmpaaDoorLexD
import Derived.Test.YtfmmhmkaphbmpaaDoorLexE3
import Derived.IntWalk
import Derived.ProofKit
import Derived.LaidMore
import Derived.OpenShut
import Derived.Stop.Joined
import Derived.SevenTiedAt
namespace Go.Proofs.YtfmmhmkaphbmpaaDoor.lexCuts
open Go.ChangeShapes Go.WideShapes Go.ChangeAt Go.RowKit
open Go.ChangeMaps (open_string shut_string)

theorem own : ownKnob Tryd.prog.godebug = none := by kernel_rfl

/-- What the head of the second loop holds. -/
def CRel (m : List L.Tok) (g3 g2 : Nat) (r : List L.Tok) (w3 : World) (vi : Value) (wr : World) : Prop :=
  ∃ j : Nat, j ≤ m.length ∧ vi = .int .i64 j ∧ TRow wr g3 r ∧ TRow wr g2 m ∧ Below w3.heap.size w3 wr

set_option maxHeartbeats 4000000 in
set_option maxRecDepth 100000 in
theorem lexCuts_true (a b : ByteArray) (w0 : a.size ≤ maxLen) (w1 : b.size ≤ maxLen) (w : World) (hT : Tab w) :
    Calls Tryd.prog 7 #[.string a, .string b] w fun e w' => e = .returned (.bool true) ∧ Below w.heap.size w w' := by
  have HT := hid hT
  clear hT
  by_cases h1 : 1500 < a.size
  · unfold maxLen at w0 w1
    go_enter Tryd.func7, Tryd.ntmps7
    go_wp2_with fail
    refine (alive_any _ HT.out).mono ?_
    rintro e w1 ⟨rfl, h1⟩
    go_wp2
    go_ret
    exact ⟨rfl, h1⟩
  by_cases h2 : 1500 < b.size
  · unfold maxLen at w0 w1
    go_enter Tryd.func7, Tryd.ntmps7
    go_wp2_with fail
    refine (alive_any _ HT.out).mono ?_
    rintro e w1 ⟨rfl, h1⟩
    go_wp2
    go_ret
    exact ⟨rfl, h1⟩
  have ha : a.size ≤ 1500 := by omega
  have hb : b.size ≤ 1500 := by omega
  clear w0 w1 h1 h2
  have hal : a.data.toList.length = a.size := by simp
  have hbl : b.data.toList.length = b.size := by simp
  obtain ⟨S, hS⟩ : ∃ S : ByteArray, a ++ ⟨#[10]⟩ ++ b = S := ⟨_, rfl⟩
  have hsz : S.size ≤ 100000 := by
    rw [← hS, ByteArray.size_append, ByteArray.size_append]
    have : (⟨#[10]⟩ : ByteArray).size = 1 := rfl
    omega
  have happ : S.data.toList = a.data.toList ++ 10 :: b.data.toList := by
    rw [← hS, toList_app, toList_app, List.append_assoc]
    rfl
  have HS := hid hS
  clear hS
  obtain ⟨xa, hxa⟩ : ∃ x, L.toksL a.data.toList = x := ⟨_, rfl⟩
  obtain ⟨xb, hxb⟩ : ∃ x, L.toksL b.data.toList = x := ⟨_, rfl⟩
  have HXA := hid hxa
  have HXB := hid hxb
  clear hxa hxb
  cases xa with
  | ok l =>
    have HA : Hid (L.toksL a.data.toList = .ok l) := HXA
    clear HXA
    cases xb with
    | ok m =>
      have HB : Hid (L.toksL b.data.toList = .ok m) := HXB
      clear HXB
      have hx := L.cuts HA.out HB.out
      rw [← happ, hal] at hx
      have hl := L.all_len (L.all_of HA.out)
      have hm := L.all_len (L.all_of HB.out)
      have hlp : 0 < l.length := List.length_pos_iff.2 (L.tk_ne (L.all_of HA.out))
      have hmp : 0 < m.length := List.length_pos_iff.2 (L.tk_ne (L.all_of HB.out))
      have hcov := L.cover_all (L.all_of HB.out)
      rw [hal] at hl
      rw [hbl] at hm
      have hft : ∀ (i : Nat) (h : i < m.length), m[i].fr ≤ b.size ∧ m[i].to ≤ b.size := fun i h => by
        obtain ⟨_, _, c3, c4, _⟩ := hcov i h
        rw [hbl] at c3
        omega
      obtain ⟨r, hr⟩ : ∃ r, l.dropLast ++ m.map (L.shift (a.size + 1)) = r := ⟨_, rfl⟩
      have hrl : r.length = l.length + m.length - 1 := by rw [← hr]; simp; omega
      have hleft : ∀ (i : Nat) (h : i + 1 < l.length) (h2 : i < r.length), r[i] = l[i] := by
        subst hr
        exact fun i h h2 => L.app_left i h h2
      have hright : ∀ (i : Nat) (h : i < m.length) (h2 : l.length - 1 + i < r.length), r[l.length - 1 + i] = L.shift (a.size + 1) m[i] := by
        subst hr
        exact fun i h h2 => L.app_right i h h2
      rw [hr] at hx
      have HN := hid hx
      have HRL := hid hrl
      have HLF := hid hleft
      have HRT := hid hright
      have HFT := hid hft
      have ecl : ((l.length + m.length - 1 : Nat) : Int) = (l.length : Int) + (m.length : Int) - 1 := by omega
      have HECL := hid ecl
      clear hx hr hrl hleft hright hft hcov happ hal hbl ecl
      go_enter Tryd.func7, Tryd.ntmps7
      go_wp2_with fail
      skip
      refine (tokens_yes a (by omega) l HA.out _ HT.out).mono ?_
      rintro e w1 ⟨⟨g1, c1, rfl, hr1⟩, h1⟩
      have HR1 := hid hr1
      have HT1 := hid (HT.out.grows h1)
      clear hr1
      go_wp2_with fail
      skip
      refine (tokens_yes b (by omega) m HB.out _ HT1.out).mono ?_
      rintro e w2 ⟨⟨g2, c2, rfl, hr2⟩, h2⟩
      have HR2 := hid hr2
      have HT2 := hid (HT1.out.grows h2)
      clear hr2
      go_wp2_with fail
      rw [HS.out]
      refine (tokens_yes S hsz r HN.out _ HT2.out).mono ?_
      rintro e w3 ⟨⟨g3, c3, rfl, hr3⟩, h3⟩
      have HR3 := hid hr3
      have HT3 := hid (HT2.out.grows h3)
      clear hr3
      have HR13 := hid ((HR1.out.below h2).below h3)
      have HR23 := hid (HR2.out.below h3)
      have hB3 := up (up h1 h2 (Nat.le_refl _)) h3 (Nat.le_refl _)
      have zl : (((r.length : Int)) != ((l.length : Int) + (m.length : Int) - 1)) = false := by rw [HRL.out, HECL.out]; simp
      have hrl2 : l.length + m.length = r.length + 1 := by have := HRL.out; omega
      go_wp2
      go_loopw [14] (fun vi wr => ∃ k n : Nat, wr = w3.drewN n ∧ k + 1 ≤ l.length ∧ vi = .int .i64 k) (fun vi _ => l.length - (intOf vi).toNat)
      case atStart => exact ⟨0, 0, rfl, by omega, rfl⟩
      case round =>
        obtain ⟨k, n, rfl, hk, rfl⟩ := hrel
        by_cases hlt : k + 1 < l.length
        · obtain ⟨a0, a1, a2, a3⟩ := HR3.out.2 k (by rw [HRL.out]; omega)
          obtain ⟨b0, b1, b2, b3⟩ := HR13.out.2 k (by omega)
          have he := HLF.out k hlt (by rw [HRL.out]; omega)
          rw [he] at a0 a1 a2 a3
          clear he
          unfold strV at a1 b1
          generalize l[k].kind = x0 at *
          generalize (⟨l[k].text.toArray⟩ : ByteArray) = x1 at *
          generalize l[k].fr = x2 at *
          generalize l[k].to = x3 at *
          have s1 : (k : Int) < (l.length : Int) - 1 := by omega
          have s2 : (k : Int) < (r.length : Int) := by omega
          go_wp2
          go_quiet (fail)
          go_wp2
          go_roundw
          case rel => exact ⟨k + 1, _, rfl, by omega, by go_num⟩
          case measure => simp [intOf]; omega
        · go_wp2
          go_loopw [15] (fun vi wr => CRel m g3 g2 r w3 vi wr) (fun vi _ => m.length - (intOf vi).toNat)
          case atStart => exact ⟨0, by omega, rfl, HR3.out.below (below_drewN (Below.refl _ _) n), HR23.out.below (below_drewN (Below.refl _ _) n), below_drewN (Below.refl _ _) n⟩
          case round =>
            obtain ⟨j, hj, rfl, hRow3, hRow2, hBj⟩ := hrel
            by_cases hjl : j < m.length
            · obtain ⟨a0, a1, a2, a3⟩ := hRow3.2 (l.length - 1 + j) (by rw [HRL.out]; omega)
              obtain ⟨b0, b1, b2, b3⟩ := hRow2.2 j hjl
              have he := HRT.out j hjl (by rw [HRL.out]; omega)
              obtain ⟨f2, f3⟩ := HFT.out j hjl
              rw [he] at a0 a1 a2 a3
              simp only [L.shift] at a0 a1 a2 a3
              rw [show (((m[j].fr + (a.size + 1) : Nat) : Int)) = (m[j].fr : Int) + (a.size : Int) + 1 by omega] at a2
              rw [show (((m[j].to + (a.size + 1) : Nat) : Int)) = (m[j].to : Int) + (a.size : Int) + 1 by omega] at a3
              clear he
              have hg3 := hRow3.1
              have A0 := fun o => (World.cell?_alloc_lt wr o _ hg3).trans a0
              have A1 := fun o => (World.cell?_alloc_lt wr o _ hg3).trans a1
              have A2 := fun o => (World.cell?_alloc_lt wr o _ hg3).trans a2
              have A3 := fun o => (World.cell?_alloc_lt wr o _ hg3).trans a3
              have HRow3 := hid hRow3
              have HRow2 := hid hRow2
              clear hRow3 hRow2
              unfold strV at A1 b1
              clear a0 a1 a2 a3
              generalize m[j].kind = x0 at *
              generalize (⟨m[j].text.toArray⟩ : ByteArray) = x1 at *
              generalize m[j].fr = x2 at *
              generalize m[j].to = x3 at *
              have s1 : IntKind.i64.wrap ((l.length : Int) - 1) = (l.length : Int) - 1 := IntWalk.i64_in _ (by omega)
              have s2 : IntKind.i64.wrap ((l.length : Int) - 1 + (j : Int)) = (l.length : Int) - 1 + (j : Int) := IntWalk.i64_in _ (by omega)
              have s3 : (0 : Int) ≤ (l.length : Int) - 1 + (j : Int) := by omega
              have s4 : ((l.length : Int) - 1 + (j : Int)).toNat = l.length - 1 + j := by omega
              have s5 : (l.length : Int) - 1 + (j : Int) < (r.length : Int) := by omega
              go_wp2
              go_quiet (fail)
              clear s1 s2 s3 s4
              go_wp2
              refine ⟨⟨j + 1, by omega, by go_num, ?_, ?_, ?_⟩, by simp [intOf]; omega⟩
              · exact HRow3.out.below (below_drewN ((Below.refl _ _).alloc (Nat.le_refl _) _) _)
              · exact HRow2.out.below (below_drewN ((Below.refl _ _).alloc (Nat.le_refl _) _) _)
              · exact up hBj (below_drewN ((Below.refl _ _).alloc (Nat.le_refl _) _) _) (Nat.le_refl _)
            · have HT4 := hid (HT3.out.grows hBj)
              go_wp2_with fail
              refine (alive_any _ HT4.out).mono ?_
              rintro e w4 ⟨rfl, h4⟩
              go_wp2
              go_ret
              exact ⟨rfl, up (up hB3 hBj (Nat.le_refl _)) h4 (Nat.le_refl _)⟩
    | error qb =>
      have HB : Hid (L.toksL b.data.toList = .error qb) := HXB
      clear HXB hal hbl happ
      obtain ⟨x, hx⟩ : ∃ x, L.toksL S.data.toList = x := ⟨_, rfl⟩
      cases x with
      | ok r =>
        have hrp : 0 < r.length := List.length_pos_iff.2 (L.tk_ne (L.all_of hx))
        have HN := hid hx
        clear hx
        go_enter Tryd.func7, Tryd.ntmps7
        go_wp2_with fail
        skip
        refine (tokens_yes a (by omega) l HA.out _ HT.out).mono ?_
        rintro e w1 ⟨⟨g1, c1, rfl, hr1⟩, h1⟩
        have HR1 := hid hr1
        have HT1 := hid (HT.out.grows h1)
        clear hr1
        go_wp2_with fail
        skip
        refine (tokens_no b (by omega) qb HB.out _ HT1.out).mono ?_
        rintro e w2 ⟨rfl, h2⟩
        have HT2 := hid (HT1.out.grows h2)
        go_wp2_with fail
        rw [HS.out]
        refine (tokens_yes S hsz r HN.out _ HT2.out).mono ?_
        rintro e w3 ⟨⟨g3, c3, rfl, hr3⟩, h3⟩
        have HR3 := hid hr3
        have HT3 := hid (HT2.out.grows h3)
        clear hr3
        go_wp2_with fail
        refine (alive_any _ HT3.out).mono ?_
        rintro e w4 ⟨rfl, h4⟩
        go_wp2
        go_ret
        exact ⟨ret_bool (by simp; try omega), up (up (up h1 h2 (Nat.le_refl _)) h3 (Nat.le_refl _)) h4 (Nat.le_refl _)⟩
      | error qn =>
        have HN := hid hx
        clear hx
        go_enter Tryd.func7, Tryd.ntmps7
        go_wp2_with fail
        skip
        refine (tokens_yes a (by omega) l HA.out _ HT.out).mono ?_
        rintro e w1 ⟨⟨g1, c1, rfl, hr1⟩, h1⟩
        have HR1 := hid hr1
        have HT1 := hid (HT.out.grows h1)
        clear hr1
        go_wp2_with fail
        skip
        refine (tokens_no b (by omega) qb HB.out _ HT1.out).mono ?_
        rintro e w2 ⟨rfl, h2⟩
        have HT2 := hid (HT1.out.grows h2)
        go_wp2_with fail
        rw [HS.out]
        refine (tokens_no S hsz qn HN.out _ HT2.out).mono ?_
        rintro e w3 ⟨rfl, h3⟩
        have HT3 := hid (HT2.out.grows h3)
        go_wp2_with fail
        refine (alive_any _ HT3.out).mono ?_
        rintro e w4 ⟨rfl, h4⟩
        go_wp2
        go_ret
        exact ⟨ret_bool (by simp; try omega), up (up (up h1 h2 (Nat.le_refl _)) h3 (Nat.le_refl _)) h4 (Nat.le_refl _)⟩
  | error qa =>
    have HA : Hid (L.toksL a.data.toList = .error qa) := HXA
    clear HXA hal hbl happ
    cases xb with
    | ok m =>
      have HB : Hid (L.toksL b.data.toList = .ok m) := HXB
      clear HXB
      obtain ⟨x, hx⟩ : ∃ x, L.toksL S.data.toList = x := ⟨_, rfl⟩
      cases x with
      | ok r =>
        have hrp : 0 < r.length := List.length_pos_iff.2 (L.tk_ne (L.all_of hx))
        have HN := hid hx
        clear hx
        go_enter Tryd.func7, Tryd.ntmps7
        go_wp2_with fail
        skip
        refine (tokens_no a (by omega) qa HA.out _ HT.out).mono ?_
        rintro e w1 ⟨rfl, h1⟩
        have HT1 := hid (HT.out.grows h1)
        go_wp2_with fail
        skip
        refine (tokens_yes b (by omega) m HB.out _ HT1.out).mono ?_
        rintro e w2 ⟨⟨g2, c2, rfl, hr2⟩, h2⟩
        have HR2 := hid hr2
        have HT2 := hid (HT1.out.grows h2)
        clear hr2
        go_wp2_with fail
        rw [HS.out]
        refine (tokens_yes S hsz r HN.out _ HT2.out).mono ?_
        rintro e w3 ⟨⟨g3, c3, rfl, hr3⟩, h3⟩
        have HR3 := hid hr3
        have HT3 := hid (HT2.out.grows h3)
        clear hr3
        go_wp2_with fail
        refine (alive_any _ HT3.out).mono ?_
        rintro e w4 ⟨rfl, h4⟩
        go_wp2
        go_ret
        exact ⟨ret_bool (by simp; try omega), up (up (up h1 h2 (Nat.le_refl _)) h3 (Nat.le_refl _)) h4 (Nat.le_refl _)⟩
      | error qn =>
        have HN := hid hx
        clear hx
        go_enter Tryd.func7, Tryd.ntmps7
        go_wp2_with fail
        skip
        refine (tokens_no a (by omega) qa HA.out _ HT.out).mono ?_
        rintro e w1 ⟨rfl, h1⟩
        have HT1 := hid (HT.out.grows h1)
        go_wp2_with fail
        skip
        refine (tokens_yes b (by omega) m HB.out _ HT1.out).mono ?_
        rintro e w2 ⟨⟨g2, c2, rfl, hr2⟩, h2⟩
        have HR2 := hid hr2
        have HT2 := hid (HT1.out.grows h2)
        clear hr2
        go_wp2_with fail
        rw [HS.out]
        refine (tokens_no S hsz qn HN.out _ HT2.out).mono ?_
        rintro e w3 ⟨rfl, h3⟩
        have HT3 := hid (HT2.out.grows h3)
        go_wp2_with fail
        refine (alive_any _ HT3.out).mono ?_
        rintro e w4 ⟨rfl, h4⟩
        go_wp2
        go_ret
        exact ⟨ret_bool (by simp; try omega), up (up (up h1 h2 (Nat.le_refl _)) h3 (Nat.le_refl _)) h4 (Nat.le_refl _)⟩
    | error qb =>
      have HB : Hid (L.toksL b.data.toList = .error qb) := HXB
      clear HXB
      obtain ⟨x, hx⟩ : ∃ x, L.toksL S.data.toList = x := ⟨_, rfl⟩
      cases x with
      | ok r =>
        have hrp : 0 < r.length := List.length_pos_iff.2 (L.tk_ne (L.all_of hx))
        have HN := hid hx
        clear hx
        go_enter Tryd.func7, Tryd.ntmps7
        go_wp2_with fail
        skip
        refine (tokens_no a (by omega) qa HA.out _ HT.out).mono ?_
        rintro e w1 ⟨rfl, h1⟩
        have HT1 := hid (HT.out.grows h1)
        go_wp2_with fail
        skip
        refine (tokens_no b (by omega) qb HB.out _ HT1.out).mono ?_
        rintro e w2 ⟨rfl, h2⟩
        have HT2 := hid (HT1.out.grows h2)
        go_wp2_with fail
        rw [HS.out]
        refine (tokens_yes S hsz r HN.out _ HT2.out).mono ?_
        rintro e w3 ⟨⟨g3, c3, rfl, hr3⟩, h3⟩
        have HR3 := hid hr3
        have HT3 := hid (HT2.out.grows h3)
        clear hr3
        go_wp2_with fail
        refine (alive_any _ HT3.out).mono ?_
        rintro e w4 ⟨rfl, h4⟩
        go_wp2
        go_ret
        exact ⟨ret_bool (by simp; try omega), up (up (up h1 h2 (Nat.le_refl _)) h3 (Nat.le_refl _)) h4 (Nat.le_refl _)⟩
      | error qn =>
        have HN := hid hx
        clear hx
        go_enter Tryd.func7, Tryd.ntmps7
        go_wp2_with fail
        skip
        refine (tokens_no a (by omega) qa HA.out _ HT.out).mono ?_
        rintro e w1 ⟨rfl, h1⟩
        have HT1 := hid (HT.out.grows h1)
        go_wp2_with fail
        skip
        refine (tokens_no b (by omega) qb HB.out _ HT1.out).mono ?_
        rintro e w2 ⟨rfl, h2⟩
        have HT2 := hid (HT1.out.grows h2)
        go_wp2_with fail
        rw [HS.out]
        refine (tokens_no S hsz qn HN.out _ HT2.out).mono ?_
        rintro e w3 ⟨rfl, h3⟩
        have HT3 := hid (HT2.out.grows h3)
        go_wp2_with fail
        refine (alive_any _ HT3.out).mono ?_
        rintro e w4 ⟨rfl, h4⟩
        go_wp2
        go_ret
        exact ⟨ret_bool (by simp; try omega), up (up (up h1 h2 (Nat.le_refl _)) h3 (Nat.le_refl _)) h4 (Nat.le_refl _)⟩

set_option maxRecDepth 100000 in
theorem lexCuts_lifted (os : Os) (started : os.Started) (H : Type) (enc : TypeId × Value → H) :
    ReturnsInHanded {} Tryd.checked os 7 .any (fun w args => (Rows.lexCutsSpec.pre enc Tryd.prog Tryd.f7 [] false w args ∧ laidMetH Tryd.prog laidAll w) ∧ sizedMet enc Tryd.prog Tryd.f7 (OpenSpec.ofChange Rows.lexCutsSpec) false w args)
      (Rows.lexCutsSpec.post enc Tryd.prog Tryd.f7 false true false false) := by
  refine returnsInHanded_of_change_and (C := Tryd.checked) (X := fun w _ => laidMetH Tryd.prog laidAll w) (fun _ _ _ hh h => h.of_heap hh) own started (by kernel_rfl) Tryd.func7
    (ChangeSpec.witness_shaped (enc := enc) (C := Tryd.checked) (os := os) (X := fun w _ => laidMetH Tryd.prog laidAll w) false (World.doorLaid Tryd.prog 400 os) #[.string ⟨#[]⟩, .string ⟨#[]⟩] 8 rfl (World.shaped_of_RefB (by kernel_rfl) (by kernel_rfl)) (by kernel_rfl) (by kernel_rfl) (by kernel_rfl) (door_met os _)) ?_
  intro W base args ds gs before hval0 hW _ _ hL _
  have hT := tab_of_laid hL
  have hval : ∀ (j : Nat) t v, Tryd.f7.params[j]? = some t → args[j]? = some v → Value.okWide Tryd.prog W .any base t v := hval0
  have hW' := hW
  obtain ⟨p, q, hA0, hV, rfl, hfz, hnd⟩ := hW
  have hA : DataW.TrodAll enc Tryd.prog W 0 (fun _ => true) true Tryd.f7.params.toList args.toList ds p := hA0
  rw [Tryd.params7] at hA hval
  obtain ⟨v0, vs0, d0, ds0, p0, q0, hargs, rfl, rfl, h0, r0⟩ := trodAll_cons hA
  obtain ⟨v1, vs1, d1, ds1, p1, q1, hargs1, rfl, rfl, h1, r1⟩ := trodAll_cons r0
  obtain ⟨hn, rfl, rfl⟩ := trodAll_nil r1
  obtain rfl : args = #[v0, v1] := by cases args; simp_all
  obtain ⟨rfl, rfl⟩ := trodVars_none hV
  obtain ⟨a0, rfl, rfl, rfl, w0⟩ := open_string Tryd.underlying9 (hval 0 9 v0 rfl rfl) h0
  obtain ⟨a1, rfl, rfl, rfl, w1⟩ := open_string Tryd.underlying9 (hval 1 9 v1 rfl rfl) h1
  clear hA0 hval0
  simp only [List.append_nil] at hW'
  refine (lexCuts_true a0 a1 w0 w1 W hT).mono fun e W' ⟨he, hB⟩ => ?_
  subst he
  refine ⟨_, rfl, _, _, _, [], [], [], hW', ?_, ?_, ?_, hB.frame _, fun h => by cases h⟩
  · exact trodAll_cons_mk (shut_bool Tryd.underlying4 _) trodAll_mk0
  · exact (trodAll_cons_mk (shut_string Tryd.underlying9 w0) (trodAll_cons_mk (shut_string Tryd.underlying9 w1) trodAll_mk0))
  · rfl

/-- LexCuts: the row. -/
theorem lexCuts_holds : Rows.LexCutsSaid :=
  OpenClaim.holds_of_wide 7 Tryd.f7 rfl rfl rfl rfl rfl rfl rfl ⟨rfl, rfl, rfl, rfl, rfl⟩ rfl rfl rfl rfl rfl (by kernel_rfl) Tryd.func7 (by kernel_rfl)
    (of_decide_eq_true (by kernel_rfl)) (by unfold Func.isWrapper; first | (rw [if_pos (by decide +kernel)]; kernel_rfl) | (rw [if_neg (by decide +kernel)]; exact ⟨rfl, rfl⟩))
    (fun os started H enc _ => lexCuts_lifted os started H enc)

/-- LexCuts: the given statement, the card: the two tables are tied to the program's text. -/
theorem lexCuts_card : Rows.LexCutsCardSaid :=
  Claim7.holds_tied_plain_at .later [] [.data, .data] true Rows.lexCutsCard.stood.harness false
    lexCuts_holds (fun _ h => by cases h) (by kernel_rfl) (fun _ h => by cases h) lexCuts_row_tie rfl ⟨rfl, rfl⟩ (by kernel_rfl) rfl
    (fun f fn hf hfn => by
      obtain rfl : f = 7 := Option.some.inj ((show Tryd.prog.funcNamed "leaven/leavenlaw02.LexCuts" = some 7 by kernel_rfl).symm.trans hf) |>.symm
      obtain rfl : fn = Tryd.f7 := (Option.some.inj (Tryd.func7.symm.trans hfn)).symm
      exact ⟨by kernel_rfl, fun j t ht => by
        rw [Tryd.params7] at ht
        have hm : t ∈ [9, 9] := by simpa using Array.mem_of_getElem? ht
        have hall : ([9, 9].all fun u => !Tryd.prog.wantsStandIn u) = true := by kernel_rfl
        exact (show Tryd.prog.wantsStandIn t = false by simpa using List.all_eq_true.1 hall t hm)⟩)
    (by kernel_rfl)

end Go.Proofs.YtfmmhmkaphbmpaaDoor.lexCuts
