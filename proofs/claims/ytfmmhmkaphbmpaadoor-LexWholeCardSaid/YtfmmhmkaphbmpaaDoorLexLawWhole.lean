/-
  LexWhole is true for every text: tokens rise, none but the last is empty, between them stand blanks and remarks alone, and each one's text but a quoted one's is its bytes. No conditions but the card's own: the two tables read as the program's text lays them.
-/
import Derived.Test.YtfmmhmkaphbmpaaDoorRows
import Derived.Test.YtfmmhmkaphbmpaaDoorCards
import Derived.Test.YtfmmhmkaphbmpaaDoorTie
import Derived.Test.YtfmmhmkaphbmpaaDoorLexZ
import Derived.Test.YtfmmhmkaphbmpaaDoorLexD
import Derived.Test.YtfmmhmkaphbmpaaDoorLexE
import Derived.ProofKit
import Derived.LaidMore
import Derived.OpenShut
import Derived.Stop.Joined
import Derived.SevenTiedAt
namespace Go.Proofs.YtfmmhmkaphbmpaaDoor.lexWhole
open Go.ChangeShapes Go.WideShapes Go.ChangeAt Go.RowKit
open Go.ChangeMaps (open_string shut_string)

theorem own : ownKnob Tryd.prog.godebug = none := by kernel_rfl

/-- What the round's head holds. -/
def WRel (r : List L.Tok) (g : Nat) (w : World) (va vi : Value) (wr : World) : Prop :=
  ∃ k : Nat, k ≤ r.length ∧ vi = .int .i64 k ∧ va = .int .i64 (L.prevT 0 r k) ∧ TRow wr g r ∧ Below w.heap.size w wr

set_option maxHeartbeats 4000000 in
set_option maxRecDepth 100000 in
theorem lexWhole_true (s : ByteArray) (w0 : s.size ≤ maxLen) (w : World) (hT : Tab w) :
    Calls Tryd.prog 6 #[.string s] w fun e w' => e = .returned (.bool true) ∧ Below w.heap.size w w' := by
  have HT := hid hT
  clear hT
  by_cases h : 3000 < s.size
  · unfold maxLen at w0
    go_enter Tryd.func6, Tryd.ntmps6
    go_wp2_with fail
    refine (alive_any _ HT.out).mono ?_
    rintro e w1 ⟨rfl, h1⟩
    go_wp2
    go_ret
    exact ⟨rfl, h1⟩
  have hs : s.size ≤ 3000 := by omega
  clear w0 h
  have hlen : s.data.toList.length = s.size := by simp
  obtain ⟨x, hx⟩ : ∃ x, L.toksL s.data.toList = x := ⟨_, rfl⟩
  cases x with
  | ok r =>
    have hr := L.all_len (L.all_of hx)
    have hcov := L.cover_all (L.all_of hx)
    have hpos : 0 < r.length := List.length_pos_iff.2 (L.tk_ne (L.all_of hx))
    rw [hlen] at hr
    have HEND : Hid (L.prevT 0 r r.length = s.size) := hid (by
      have h2 := L.prevT_next 0 r (r.length - 1) (by omega)
      rw [show r.length - 1 + 1 = r.length by omega] at h2
      obtain ⟨_, _, _, _, _, _, _, h8⟩ := hcov (r.length - 1) (by omega)
      rw [h2, h8 (by omega), hlen])
    have HX := hid hx
    have HC := hid hcov
    have HLEN := hid hlen
    clear hx hcov hlen
    go_enter Tryd.func6, Tryd.ntmps6
    go_wp2_with fail
    refine (tokens_yes s (by omega) r HX.out _ HT.out).mono ?_
    rintro e w1 ⟨⟨g1, c1, rfl, hr1⟩, h1⟩
    have HR1 := hid hr1
    clear hr1
    go_wp2
    go_loopw [6, 7] (fun va vi wr => WRel r g1 w va vi wr) (fun _ vi _ => r.length - (intOf vi).toNat)
    case atStart => exact ⟨0, by omega, rfl, rfl, HR1.out, h1⟩
    case round =>
      obtain ⟨k, hk, rfl, rfl, hRow, hB⟩ := hrel
      by_cases hlt : k < r.length
      · obtain ⟨f1, f2, f3, f4, f5, f6, f7, f8⟩ := HC.out k hlt
        obtain ⟨a0, a1, a2, a3⟩ := hRow.2 k hlt
        have HPN := hid (L.prevT_next 0 r k hlt)
        rw [HLEN.out] at f2 f3 f8
        unfold strV at a1
        have hax : L.prevT 0 r k ≤ r[k].fr := by omega
        generalize L.prevT 0 r k = a at *
        generalize r[k].kind = x0 at *
        obtain ⟨X, hX⟩ : ∃ X : ByteArray, (⟨r[k].text.toArray⟩ : ByteArray) = X := ⟨_, rfl⟩
        have hXl : X.data.toList = r[k].text := by rw [← hX]
        rw [hX] at a1
        rw [← hXl] at f7
        clear hX hXl
        generalize r[k].fr = x2 at *
        generalize r[k].to = x3 at *
        have HFR : Hid (a + L.skipL false (s.data.toList.drop a) = x2) := hid f1.symm
        have HF7 := hid f7
        clear f1 f7
        have HRow := hid hRow
        clear hRow
        have hnf : decide ((x2 : Int) < (a : Int)) = false := decide_eq_false (by omega)
        by_cases hlast : k + 1 = r.length
        · have e1 : x3 = x2 := f5.2 hlast
          have e2 : x0 = 0 := f6.2 hlast
          have e3 : x3 = s.size := f8 hlast
          have q1 : ((x3 : Int) == (x2 : Int)) = true := beq_iff_eq.2 (by omega)
          have q2 : ((k : Int) == (r.length : Int) - 1) = true := beq_iff_eq.2 (by omega)
          have q3 : ((x0 : Int) == 0) = true := beq_iff_eq.2 (by omega)
          have hx0 : x0 ≤ 0 := by omega
          clear f5 f6 f8 e1 e2 e3
          go_wp2
          go_loop [9, 10] (fun vr vk => ∃ (j : Nat) (b : Bool), j ≤ x2 ∧ vr = .bool b ∧ vk = .int .i64 j ∧ j + L.skipL b (s.data.toList.drop j) = x2) (fun _ vk => s.size - (intOf vk).toNat)
          case atStart => exact ⟨a, false, hax, rfl, rfl, HFR.out⟩
          case round =>
            obtain ⟨j, b, hj, rfl, rfl, hsk⟩ := hrel
            have HSK := hid hsk
            clear hsk
            by_cases hjl : j < x2
            · have hjs : j < s.size := by omega
              obtain ⟨b2, hb2, hnx, hbl⟩ := L.skip_step (T := s.data.toList) (k := j) (by simpa using hjs) HSK.out hjl
              have hget : (s.data.toList[j]'(by simpa using hjs)) = s[j]'hjs := rfl
              rw [hget] at hb2 hbl
              have HN := hid hnx
              clear hnx hget
              cases b
              · by_cases h35 : (s[j]'hjs).toNat = 35
                · have n10 : (((s[j]'hjs).toNat : Int) != 10) = true := by rw [bne_iff_ne]; omega
                  have n32 : (((s[j]'hjs).toNat : Int) != 32) = true := by rw [bne_iff_ne]; omega
                  have n9 : (((s[j]'hjs).toNat : Int) != 9) = true := by rw [bne_iff_ne]; omega
                  have e35 : (((s[j]'hjs).toNat : Int) == 35) = true := beq_iff_eq.2 (by omega)
                  have m10 : ((s[j]'hjs).toNat != 10) = true := by rw [bne_iff_ne]; omega
                  have m35 : ((s[j]'hjs).toNat == 35) = true := beq_iff_eq.2 (by omega)
                  have hv : b2 = true := by rw [hb2, m10, m35]; rfl
                  subst hv
                  clear hb2 hbl
                  go_wp2
                  go_round
                  case rel => exact ⟨j + 1, true, by omega, rfl, by go_num, HN.out⟩
                  case measure => simp [intOf]; omega
                · by_cases h10 : (s[j]'hjs).toNat = 10
                  · have n10 : (((s[j]'hjs).toNat : Int) != 10) = false := by rw [bne_eq_false_iff_eq]; omega
                    have n32 : (((s[j]'hjs).toNat : Int) != 32) = true := by rw [bne_iff_ne]; omega
                    have n9 : (((s[j]'hjs).toNat : Int) != 9) = true := by rw [bne_iff_ne]; omega
                    have e35 : (((s[j]'hjs).toNat : Int) == 35) = false := beq_eq_false_iff_ne.2 (by omega)
                    have m10 : ((s[j]'hjs).toNat != 10) = false := by rw [bne_eq_false_iff_eq]; omega
                    have m35 : ((s[j]'hjs).toNat == 35) = false := beq_eq_false_iff_ne.2 (by omega)
                    have hv : b2 = false := by rw [hb2, m10, m35]; rfl
                    subst hv
                    clear hb2 hbl
                    go_wp2
                    go_round
                    case rel => exact ⟨j + 1, false, by omega, rfl, by go_num, HN.out⟩
                    case measure => simp [intOf]; omega
                  · by_cases h32 : (s[j]'hjs).toNat = 32
                    · have n10 : (((s[j]'hjs).toNat : Int) != 10) = true := by rw [bne_iff_ne]; omega
                      have n32 : (((s[j]'hjs).toNat : Int) != 32) = false := by rw [bne_eq_false_iff_eq]; omega
                      have n9 : (((s[j]'hjs).toNat : Int) != 9) = true := by rw [bne_iff_ne]; omega
                      have e35 : (((s[j]'hjs).toNat : Int) == 35) = false := beq_eq_false_iff_ne.2 (by omega)
                      have m10 : ((s[j]'hjs).toNat != 10) = true := by rw [bne_iff_ne]; omega
                      have m35 : ((s[j]'hjs).toNat == 35) = false := beq_eq_false_iff_ne.2 (by omega)
                      have hv : b2 = false := by rw [hb2, m10, m35]; rfl
                      subst hv
                      clear hb2 hbl
                      go_wp2
                      go_round
                      case rel => exact ⟨j + 1, false, by omega, rfl, by go_num, HN.out⟩
                      case measure => simp [intOf]; omega
                    · by_cases h9 : (s[j]'hjs).toNat = 9
                      · have n10 : (((s[j]'hjs).toNat : Int) != 10) = true := by rw [bne_iff_ne]; omega
                        have n32 : (((s[j]'hjs).toNat : Int) != 32) = true := by rw [bne_iff_ne]; omega
                        have n9 : (((s[j]'hjs).toNat : Int) != 9) = false := by rw [bne_eq_false_iff_eq]; omega
                        have e35 : (((s[j]'hjs).toNat : Int) == 35) = false := beq_eq_false_iff_ne.2 (by omega)
                        have m10 : ((s[j]'hjs).toNat != 10) = true := by rw [bne_iff_ne]; omega
                        have m35 : ((s[j]'hjs).toNat == 35) = false := beq_eq_false_iff_ne.2 (by omega)
                        have hv : b2 = false := by rw [hb2, m10, m35]; rfl
                        subst hv
                        clear hb2 hbl
                        go_wp2
                        go_round
                        case rel => exact ⟨j + 1, false, by omega, rfl, by go_num, HN.out⟩
                        case measure => simp [intOf]; omega
                      · exfalso
                        have m10 : ((s[j]'hjs).toNat == 35) = false := beq_eq_false_iff_ne.2 (by omega)
                        rw [m10] at hb2
                        have := hbl hb2
                        omega
              · by_cases h35 : (s[j]'hjs).toNat = 35
                · have n10 : (((s[j]'hjs).toNat : Int) != 10) = true := by rw [bne_iff_ne]; omega
                  have n32 : (((s[j]'hjs).toNat : Int) != 32) = true := by rw [bne_iff_ne]; omega
                  have n9 : (((s[j]'hjs).toNat : Int) != 9) = true := by rw [bne_iff_ne]; omega
                  have e35 : (((s[j]'hjs).toNat : Int) == 35) = true := beq_iff_eq.2 (by omega)
                  have m10 : ((s[j]'hjs).toNat != 10) = true := by rw [bne_iff_ne]; omega
                  have m35 : ((s[j]'hjs).toNat == 35) = true := beq_iff_eq.2 (by omega)
                  have hv : b2 = true := by rw [hb2, m10, m35]; rfl
                  subst hv
                  clear hb2 hbl
                  go_wp2
                  go_round
                  case rel => exact ⟨j + 1, true, by omega, rfl, by go_num, HN.out⟩
                  case measure => simp [intOf]; omega
                · by_cases h10 : (s[j]'hjs).toNat = 10
                  · have n10 : (((s[j]'hjs).toNat : Int) != 10) = false := by rw [bne_eq_false_iff_eq]; omega
                    have n32 : (((s[j]'hjs).toNat : Int) != 32) = true := by rw [bne_iff_ne]; omega
                    have n9 : (((s[j]'hjs).toNat : Int) != 9) = true := by rw [bne_iff_ne]; omega
                    have e35 : (((s[j]'hjs).toNat : Int) == 35) = false := beq_eq_false_iff_ne.2 (by omega)
                    have m10 : ((s[j]'hjs).toNat != 10) = false := by rw [bne_eq_false_iff_eq]; omega
                    have m35 : ((s[j]'hjs).toNat == 35) = false := beq_eq_false_iff_ne.2 (by omega)
                    have hv : b2 = false := by rw [hb2, m10, m35]; rfl
                    subst hv
                    clear hb2 hbl
                    go_wp2
                    go_round
                    case rel => exact ⟨j + 1, false, by omega, rfl, by go_num, HN.out⟩
                    case measure => simp [intOf]; omega
                  · have n10 : (((s[j]'hjs).toNat : Int) != 10) = true := by rw [bne_iff_ne]; omega
                    have e35 : (((s[j]'hjs).toNat : Int) == 35) = false := beq_eq_false_iff_ne.2 (by omega)
                    have m10 : ((s[j]'hjs).toNat != 10) = true := by rw [bne_iff_ne]; omega
                    have m35 : ((s[j]'hjs).toNat == 35) = false := beq_eq_false_iff_ne.2 (by omega)
                    have hv : b2 = true := by rw [hb2, m10, m35]; rfl
                    subst hv
                    clear hb2 hbl
                    go_wp2
                    go_round
                    case rel => exact ⟨j + 1, true, by omega, rfl, by go_num, HN.out⟩
                    case measure => simp [intOf]; omega
            · obtain rfl : j = x2 := by omega
              have z0 : (0 : Int) ≤ (j : Int) := by omega
              have z1 : (j : Int) ≤ (x3 : Int) := by omega
              have z2 : (x3 : Int) ≤ (s.size : Int) := by omega
              have d4 : ((x0 : Int) != 4) = true := by rw [bne_iff_ne]; omega
              have hex : X.toList = (s.extract j x3).toList := by
                have h7 := HF7.out (by omega)
                rw [Lib.toList_data, Lib.toList_data, h7, show x3 = j + (x3 - j) by omega, cut_list, show j + (x3 - j) - j = x3 - j by omega]
              have deq : (X.toList != (s.extract j x3).toList) = false := by rw [hex]; simp
              have deq2 : (X.toList == (s.extract j x3).toList) = true := by rw [hex]; simp
              clear hex
              go_wp2
              go_quiet (fail)
              go_wp2
              refine ⟨⟨k + 1, by omega, by go_num, by rw [HPN.out], ?_, ?_⟩, by simp [intOf]; omega⟩
              · exact HRow.out.below (below_drewN ((Below.refl _ _).alloc (Nat.le_refl _) _) _)
              · exact up hB (below_drewN ((Below.refl _ _).alloc (Nat.le_refl _) _) _) (Nat.le_refl _)
        · have e1 : ¬ x3 = x2 := fun h => hlast (f5.1 h)
          have e2 : ¬ x0 = 0 := fun h => hlast (f6.1 h)
          have q1 : ((x3 : Int) == (x2 : Int)) = false := beq_eq_false_iff_ne.2 (by omega)
          have q2 : ((k : Int) == (r.length : Int) - 1) = false := beq_eq_false_iff_ne.2 (by omega)
          have q3 : ((x0 : Int) == 0) = false := beq_eq_false_iff_ne.2 (by omega)
          clear f5 f6 f8
          go_wp2
          go_loop [9, 10] (fun vr vk => ∃ (j : Nat) (b : Bool), j ≤ x2 ∧ vr = .bool b ∧ vk = .int .i64 j ∧ j + L.skipL b (s.data.toList.drop j) = x2) (fun _ vk => s.size - (intOf vk).toNat)
          case atStart => exact ⟨a, false, hax, rfl, rfl, HFR.out⟩
          case round =>
            obtain ⟨j, b, hj, rfl, rfl, hsk⟩ := hrel
            have HSK := hid hsk
            clear hsk
            by_cases hjl : j < x2
            · have hjs : j < s.size := by omega
              obtain ⟨b2, hb2, hnx, hbl⟩ := L.skip_step (T := s.data.toList) (k := j) (by simpa using hjs) HSK.out hjl
              have hget : (s.data.toList[j]'(by simpa using hjs)) = s[j]'hjs := rfl
              rw [hget] at hb2 hbl
              have HN := hid hnx
              clear hnx hget
              cases b
              · by_cases h35 : (s[j]'hjs).toNat = 35
                · have n10 : (((s[j]'hjs).toNat : Int) != 10) = true := by rw [bne_iff_ne]; omega
                  have n32 : (((s[j]'hjs).toNat : Int) != 32) = true := by rw [bne_iff_ne]; omega
                  have n9 : (((s[j]'hjs).toNat : Int) != 9) = true := by rw [bne_iff_ne]; omega
                  have e35 : (((s[j]'hjs).toNat : Int) == 35) = true := beq_iff_eq.2 (by omega)
                  have m10 : ((s[j]'hjs).toNat != 10) = true := by rw [bne_iff_ne]; omega
                  have m35 : ((s[j]'hjs).toNat == 35) = true := beq_iff_eq.2 (by omega)
                  have hv : b2 = true := by rw [hb2, m10, m35]; rfl
                  subst hv
                  clear hb2 hbl
                  go_wp2
                  go_round
                  case rel => exact ⟨j + 1, true, by omega, rfl, by go_num, HN.out⟩
                  case measure => simp [intOf]; omega
                · by_cases h10 : (s[j]'hjs).toNat = 10
                  · have n10 : (((s[j]'hjs).toNat : Int) != 10) = false := by rw [bne_eq_false_iff_eq]; omega
                    have n32 : (((s[j]'hjs).toNat : Int) != 32) = true := by rw [bne_iff_ne]; omega
                    have n9 : (((s[j]'hjs).toNat : Int) != 9) = true := by rw [bne_iff_ne]; omega
                    have e35 : (((s[j]'hjs).toNat : Int) == 35) = false := beq_eq_false_iff_ne.2 (by omega)
                    have m10 : ((s[j]'hjs).toNat != 10) = false := by rw [bne_eq_false_iff_eq]; omega
                    have m35 : ((s[j]'hjs).toNat == 35) = false := beq_eq_false_iff_ne.2 (by omega)
                    have hv : b2 = false := by rw [hb2, m10, m35]; rfl
                    subst hv
                    clear hb2 hbl
                    go_wp2
                    go_round
                    case rel => exact ⟨j + 1, false, by omega, rfl, by go_num, HN.out⟩
                    case measure => simp [intOf]; omega
                  · by_cases h32 : (s[j]'hjs).toNat = 32
                    · have n10 : (((s[j]'hjs).toNat : Int) != 10) = true := by rw [bne_iff_ne]; omega
                      have n32 : (((s[j]'hjs).toNat : Int) != 32) = false := by rw [bne_eq_false_iff_eq]; omega
                      have n9 : (((s[j]'hjs).toNat : Int) != 9) = true := by rw [bne_iff_ne]; omega
                      have e35 : (((s[j]'hjs).toNat : Int) == 35) = false := beq_eq_false_iff_ne.2 (by omega)
                      have m10 : ((s[j]'hjs).toNat != 10) = true := by rw [bne_iff_ne]; omega
                      have m35 : ((s[j]'hjs).toNat == 35) = false := beq_eq_false_iff_ne.2 (by omega)
                      have hv : b2 = false := by rw [hb2, m10, m35]; rfl
                      subst hv
                      clear hb2 hbl
                      go_wp2
                      go_round
                      case rel => exact ⟨j + 1, false, by omega, rfl, by go_num, HN.out⟩
                      case measure => simp [intOf]; omega
                    · by_cases h9 : (s[j]'hjs).toNat = 9
                      · have n10 : (((s[j]'hjs).toNat : Int) != 10) = true := by rw [bne_iff_ne]; omega
                        have n32 : (((s[j]'hjs).toNat : Int) != 32) = true := by rw [bne_iff_ne]; omega
                        have n9 : (((s[j]'hjs).toNat : Int) != 9) = false := by rw [bne_eq_false_iff_eq]; omega
                        have e35 : (((s[j]'hjs).toNat : Int) == 35) = false := beq_eq_false_iff_ne.2 (by omega)
                        have m10 : ((s[j]'hjs).toNat != 10) = true := by rw [bne_iff_ne]; omega
                        have m35 : ((s[j]'hjs).toNat == 35) = false := beq_eq_false_iff_ne.2 (by omega)
                        have hv : b2 = false := by rw [hb2, m10, m35]; rfl
                        subst hv
                        clear hb2 hbl
                        go_wp2
                        go_round
                        case rel => exact ⟨j + 1, false, by omega, rfl, by go_num, HN.out⟩
                        case measure => simp [intOf]; omega
                      · exfalso
                        have m10 : ((s[j]'hjs).toNat == 35) = false := beq_eq_false_iff_ne.2 (by omega)
                        rw [m10] at hb2
                        have := hbl hb2
                        omega
              · by_cases h35 : (s[j]'hjs).toNat = 35
                · have n10 : (((s[j]'hjs).toNat : Int) != 10) = true := by rw [bne_iff_ne]; omega
                  have n32 : (((s[j]'hjs).toNat : Int) != 32) = true := by rw [bne_iff_ne]; omega
                  have n9 : (((s[j]'hjs).toNat : Int) != 9) = true := by rw [bne_iff_ne]; omega
                  have e35 : (((s[j]'hjs).toNat : Int) == 35) = true := beq_iff_eq.2 (by omega)
                  have m10 : ((s[j]'hjs).toNat != 10) = true := by rw [bne_iff_ne]; omega
                  have m35 : ((s[j]'hjs).toNat == 35) = true := beq_iff_eq.2 (by omega)
                  have hv : b2 = true := by rw [hb2, m10, m35]; rfl
                  subst hv
                  clear hb2 hbl
                  go_wp2
                  go_round
                  case rel => exact ⟨j + 1, true, by omega, rfl, by go_num, HN.out⟩
                  case measure => simp [intOf]; omega
                · by_cases h10 : (s[j]'hjs).toNat = 10
                  · have n10 : (((s[j]'hjs).toNat : Int) != 10) = false := by rw [bne_eq_false_iff_eq]; omega
                    have n32 : (((s[j]'hjs).toNat : Int) != 32) = true := by rw [bne_iff_ne]; omega
                    have n9 : (((s[j]'hjs).toNat : Int) != 9) = true := by rw [bne_iff_ne]; omega
                    have e35 : (((s[j]'hjs).toNat : Int) == 35) = false := beq_eq_false_iff_ne.2 (by omega)
                    have m10 : ((s[j]'hjs).toNat != 10) = false := by rw [bne_eq_false_iff_eq]; omega
                    have m35 : ((s[j]'hjs).toNat == 35) = false := beq_eq_false_iff_ne.2 (by omega)
                    have hv : b2 = false := by rw [hb2, m10, m35]; rfl
                    subst hv
                    clear hb2 hbl
                    go_wp2
                    go_round
                    case rel => exact ⟨j + 1, false, by omega, rfl, by go_num, HN.out⟩
                    case measure => simp [intOf]; omega
                  · have n10 : (((s[j]'hjs).toNat : Int) != 10) = true := by rw [bne_iff_ne]; omega
                    have e35 : (((s[j]'hjs).toNat : Int) == 35) = false := beq_eq_false_iff_ne.2 (by omega)
                    have m10 : ((s[j]'hjs).toNat != 10) = true := by rw [bne_iff_ne]; omega
                    have m35 : ((s[j]'hjs).toNat == 35) = false := beq_eq_false_iff_ne.2 (by omega)
                    have hv : b2 = true := by rw [hb2, m10, m35]; rfl
                    subst hv
                    clear hb2 hbl
                    go_wp2
                    go_round
                    case rel => exact ⟨j + 1, true, by omega, rfl, by go_num, HN.out⟩
                    case measure => simp [intOf]; omega
            · obtain rfl : j = x2 := by omega
              have z0 : (0 : Int) ≤ (j : Int) := by omega
              have z1 : (j : Int) ≤ (x3 : Int) := by omega
              have z2 : (x3 : Int) ≤ (s.size : Int) := by omega
              by_cases h4 : x0 = 4
              · have d4 : ((x0 : Int) != 4) = false := by rw [bne_eq_false_iff_eq]; omega
                go_wp2
                go_quiet (fail)
                go_wp2
                refine ⟨⟨k + 1, by omega, by go_num, by rw [HPN.out], ?_, ?_⟩, by simp [intOf]; omega⟩
                · exact HRow.out.below (below_drewN ((Below.refl _ _).alloc (Nat.le_refl _) _) _)
                · exact up hB (below_drewN ((Below.refl _ _).alloc (Nat.le_refl _) _) _) (Nat.le_refl _)
              · have d4 : ((x0 : Int) != 4) = true := by rw [bne_iff_ne]; omega
                have hex : X.toList = (s.extract j x3).toList := by
                  have h7 := HF7.out (by omega)
                  rw [Lib.toList_data, Lib.toList_data, h7, show x3 = j + (x3 - j) by omega, cut_list, show j + (x3 - j) - j = x3 - j by omega]
                have deq : (X.toList != (s.extract j x3).toList) = false := by rw [hex]; simp
                have deq2 : (X.toList == (s.extract j x3).toList) = true := by rw [hex]; simp
                clear hex
                go_wp2
                go_quiet (fail)
                go_wp2
                refine ⟨⟨k + 1, by omega, by go_num, by rw [HPN.out], ?_, ?_⟩, by simp [intOf]; omega⟩
                · exact HRow.out.below (below_drewN ((Below.refl _ _).alloc (Nat.le_refl _) _) _)
                · exact up hB (below_drewN ((Below.refl _ _).alloc (Nat.le_refl _) _) _) (Nat.le_refl _)
      · obtain rfl : k = r.length := by omega
        rw [HEND.out]
        have HTn := hid ((HT.out.below hB (HT.out.size)))
        go_wp2_with fail
        refine (alive_any _ HTn.out).mono ?_
        rintro e w2 ⟨rfl, h2⟩
        go_wp2
        go_ret
        exact ⟨ret_bool (by simp; try omega), up hB h2 (Nat.le_refl _)⟩
  | error q =>
    have HX := hid hx
    clear hx hlen
    go_enter Tryd.func6, Tryd.ntmps6
    go_wp2_with fail
    refine (tokens_no s (by omega) q HX.out _ HT.out).mono ?_
    rintro e w1 ⟨rfl, h1⟩
    go_wp2_with fail
    refine (alive_any _ (HT.out.grows h1)).mono ?_
    rintro e w2 ⟨rfl, h2⟩
    go_wp2
    go_ret
    exact ⟨ret_bool (by rfl), up h1 h2 (Nat.le_refl _)⟩

set_option maxRecDepth 100000 in
theorem lexWhole_lifted (os : Os) (started : os.Started) (H : Type) (enc : TypeId × Value → H) :
    ReturnsInHanded {} Tryd.checked os 6 .any (fun w args => (Rows.lexWholeSpec.pre enc Tryd.prog Tryd.f6 [] false w args ∧ laidMetH Tryd.prog laidAll w) ∧ sizedMet enc Tryd.prog Tryd.f6 (OpenSpec.ofChange Rows.lexWholeSpec) false w args)
      (Rows.lexWholeSpec.post enc Tryd.prog Tryd.f6 false true false false) := by
  refine returnsInHanded_of_change_and (C := Tryd.checked) (X := fun w _ => laidMetH Tryd.prog laidAll w) (fun _ _ _ hh h => h.of_heap hh) own started (by kernel_rfl) Tryd.func6
    (ChangeSpec.witness_shaped (enc := enc) (C := Tryd.checked) (os := os) (X := fun w _ => laidMetH Tryd.prog laidAll w) false (World.doorLaid Tryd.prog 400 os) #[.string ⟨#[]⟩] 8 rfl (World.shaped_of_RefB (by kernel_rfl) (by kernel_rfl)) (by kernel_rfl) (by kernel_rfl) (by kernel_rfl) (door_met os _)) ?_
  intro W base args ds gs before hval0 hW _ _ hL _
  have hT := tab_of_laid hL
  have hval : ∀ (j : Nat) t v, Tryd.f6.params[j]? = some t → args[j]? = some v → Value.okWide Tryd.prog W .any base t v := hval0
  have hW' := hW
  obtain ⟨p, q, hA0, hV, rfl, hfz, hnd⟩ := hW
  have hA : DataW.TrodAll enc Tryd.prog W 0 (fun _ => true) true Tryd.f6.params.toList args.toList ds p := hA0
  rw [Tryd.params6] at hA hval
  obtain ⟨v0, vs0, d0, ds0, p0, q0, hargs, rfl, rfl, h0, r0⟩ := trodAll_cons hA
  obtain ⟨hn, rfl, rfl⟩ := trodAll_nil r0
  obtain rfl : args = #[v0] := by cases args; simp_all
  obtain ⟨rfl, rfl⟩ := trodVars_none hV
  obtain ⟨a0, rfl, rfl, rfl, w0⟩ := open_string Tryd.underlying9 (hval 0 9 v0 rfl rfl) h0
  clear hA0 hval0
  simp only [List.append_nil] at hW'
  refine (lexWhole_true a0 w0 W hT).mono fun e W' ⟨he, hB⟩ => ?_
  subst he
  refine ⟨_, rfl, _, _, _, [], [], [], hW', ?_, ?_, ?_, hB.frame _, fun h => by cases h⟩
  · exact trodAll_cons_mk (shut_bool Tryd.underlying4 _) trodAll_mk0
  · exact (trodAll_cons_mk (shut_string Tryd.underlying9 w0) trodAll_mk0)
  · rfl

/-- LexWhole: the row. -/
theorem lexWhole_holds : Rows.LexWholeSaid :=
  OpenClaim.holds_of_wide 6 Tryd.f6 rfl rfl rfl rfl rfl rfl rfl ⟨rfl, rfl, rfl, rfl, rfl⟩ rfl rfl rfl rfl rfl (by kernel_rfl) Tryd.func6 (by kernel_rfl)
    (of_decide_eq_true (by kernel_rfl)) (by unfold Func.isWrapper; first | (rw [if_pos (by decide +kernel)]; kernel_rfl) | (rw [if_neg (by decide +kernel)]; exact ⟨rfl, rfl⟩))
    (fun os started H enc _ => lexWhole_lifted os started H enc)

/-- LexWhole: the given statement, the card: the two tables are tied to the program's text. -/
theorem lexWhole_card : Rows.LexWholeCardSaid :=
  Claim7.holds_tied_plain_at .later [] [.data, .data] true Rows.lexWholeCard.stood.harness false
    lexWhole_holds (fun _ h => by cases h) (by kernel_rfl) (fun _ h => by cases h) lexWhole_row_tie rfl ⟨rfl, rfl⟩ (by kernel_rfl) rfl
    (fun f fn hf hfn => by
      obtain rfl : f = 6 := Option.some.inj ((show Tryd.prog.funcNamed "leaven/leavenlaw02.LexWhole" = some 6 by kernel_rfl).symm.trans hf) |>.symm
      obtain rfl : fn = Tryd.f6 := (Option.some.inj (Tryd.func6.symm.trans hfn)).symm
      exact ⟨by kernel_rfl, fun j t ht => by
        rw [Tryd.params6] at ht
        have hm : t ∈ [9] := by simpa using Array.mem_of_getElem? ht
        have hall : ([9].all fun u => !Tryd.prog.wantsStandIn u) = true := by kernel_rfl
        exact (show Tryd.prog.wantsStandIn t = false by simpa using List.all_eq_true.1 hall t hm)⟩)
    (by kernel_rfl)

end Go.Proofs.YtfmmhmkaphbmpaaDoor.lexWhole
