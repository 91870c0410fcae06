/-
  The walks of the small functions under glyph and its reference: each returns what plain arithmetic says and leaves the world as it was. No conditions but the arguments' ranges.
-/
import Derived.Test.YtfmmhmkaphbmpaaDoorGlyM
import Derived.Test.YtfmmhmkaphbmpaaDoorShelf
import Derived.WalkKit
import Derived.WalkSpells
import Derived.WalkLawsBesides
namespace Go.Proofs.YtfmmhmkaphbmpaaDoor
open Go.RowKit

theorem hid {p : Prop} (h : p) : Hid p := h

def inB (c a b : Int) : Bool := decide (a ≤ c) && decide (c ≤ b)

theorem ret_bool {a b : Bool} (h : a = b) : Ending.returned (.bool a) = .returned (.bool b) := by rw [h]

set_option maxHeartbeats 400000 in
theorem within_any (c a b : Int) (w : World) : Calls Tryd.prog 31 #[.int .u8 c, .int .u8 a, .int .u8 b] w fun e w' => e = .returned (.bool (inB c a b)) ∧ w = w' := by
  by_cases h1 : a ≤ c
  · by_cases h2 : c ≤ b
    · go_enter Tryd.func31, Tryd.ntmps31
      go_wp2
      go_ret
      exact ⟨ret_bool (by simp [inB, h1, h2]), rfl⟩
    · go_enter Tryd.func31, Tryd.ntmps31
      go_wp2
      go_ret
      exact ⟨ret_bool (by simp [inB, h1, h2]), rfl⟩
  · go_enter Tryd.func31, Tryd.ntmps31
    go_wp2
    go_ret
    exact ⟨ret_bool (by simp [inB]; omega), rfl⟩

set_option maxHeartbeats 400000 in
theorem small_any (c : Int) (w : World) : Calls Tryd.prog 66 #[.int .i32 c] w fun e w' => e = .returned (.bool (inB c 97 122)) ∧ w = w' := by
  go_enter Tryd.func66, Tryd.ntmps66
  go_wp2
  all_goals go_ret
  all_goals exact ⟨ret_bool (by simp [inB]; omega), rfl⟩

set_option maxHeartbeats 400000 in
theorem capital_any (c : Int) (w : World) : Calls Tryd.prog 67 #[.int .i32 c] w fun e w' => e = .returned (.bool (inB c 65 90)) ∧ w = w' := by
  go_enter Tryd.func67, Tryd.ntmps67
  go_wp2
  all_goals go_ret
  all_goals exact ⟨ret_bool (by simp [inB]; omega), rfl⟩

set_option maxHeartbeats 400000 in
theorem control_any (c : Int) (w : World) : Calls Tryd.prog 51 #[.int .i32 c] w fun e w' => e = .returned (.bool (decide (c < 32) || c == 127)) ∧ w = w' := by
  go_enter Tryd.func51, Tryd.ntmps51
  go_wp2
  all_goals go_ret
  all_goals exact ⟨ret_bool (by first | rfl | (simp; done) | (rw [Bool.eq_iff_iff]; simp; omega)), rfl⟩

/-- May a byte, or a rune, stand behind the first one of a word? -/
def behB (c : Int) : Bool := inB c 97 122 || inB c 65 90 || inB c 48 57 || c == 95

set_option maxHeartbeats 400000 in
theorem behind_any (c : Int) (w : World) : Calls Tryd.prog 53 #[.int .u8 c] w fun e w' => e = .returned (.bool (behB c)) ∧ w = w' := by
  go_enter Tryd.func53, Tryd.ntmps53
  go_wp2_with (go_at_call 31; refine (within_any _ _ _ _).mono ?_; rintro e w' ⟨rfl, rfl⟩)
  all_goals go_ret
  all_goals exact ⟨ret_bool (by simp_all [behB]), rfl⟩

set_option maxHeartbeats 400000 in
theorem continues_any (c : Int) (w : World) : Calls Tryd.prog 71 #[.int .i32 c] w fun e w' => e = .returned (.bool (behB c)) ∧ w = w' := by
  go_enter Tryd.func71, Tryd.ntmps71
  go_wp2_with (first | (go_at_call 66; refine (small_any _ _).mono ?_; rintro e w' ⟨rfl, rfl⟩) | (go_at_call 67; refine (capital_any _ _).mono ?_; rintro e w' ⟨rfl, rfl⟩))
  all_goals go_ret
  all_goals exact ⟨ret_bool (by rw [Bool.eq_iff_iff]; simp_all [behB, inB]; try omega), rfl⟩

/-- Byte i of a string, as a number. -/
def byteAt (s : ByteArray) (i : Nat) : Nat := G.at0 (s.data.toList.drop i) 0

theorem byteAt_eq (s : ByteArray) (i : Nat) (h : i < s.size) : (s[i]'h).toNat = byteAt s i := by
  have h2 : i < s.data.toList.length := by simpa using h
  unfold byteAt G.at0
  rw [List.getD_eq_getElem?_getD, List.getElem?_drop, Nat.add_zero, List.getElem?_eq_getElem h2]
  rfl

/-- From byte i on all bytes may stand in a word. -/
def allB : Nat → ByteArray → Nat → Bool
  | 0, _, _ => true
  | f + 1, s, i => if i < s.size then behB (byteAt s i) && allB f s (i + 1) else true

theorem allB_end (s : ByteArray) (f i : Nat) (h : ¬ i < s.size) : allB f s i = true := by
  cases f with
  | zero => rfl
  | succ f => simp [allB, h]

set_option maxHeartbeats 400000 in
theorem all_any (s : ByteArray) (hs : s.size ≤ 2000000) (w : World) : Calls Tryd.prog 32 #[.string s] w fun e w' => e = .returned (.bool (allB s.size s 1)) ∧ w = w' := by
  go_enter Tryd.func32, Tryd.ntmps32
  go_wp2
  go_loop [3] (fun i => ∃ k f : Nat, k ≤ s.size + 1 ∧ i = .int .i64 k ∧ allB f s k = allB s.size s 1 ∧ s.size ≤ k + f) (fun i => s.size + 1 - (intOf i).toNat)
  case atStart => exact ⟨1, s.size, by omega, rfl, rfl, by omega⟩
  case round =>
    obtain ⟨k, f, hk, rfl, ha, hf⟩ := hrel
    have HA := hid ha
    clear ha
    by_cases hlt : k < s.size
    · have hb := byteAt_eq s k hlt
      obtain ⟨f, rfl⟩ : ∃ g, f = g + 1 := ⟨f - 1, by omega⟩
      have HB := hid hb
      clear hb
      go_wp2_with (go_at_call 53; refine (behind_any _ _).mono ?_; rintro e w' ⟨rfl, rfl⟩)
      · go_ret
        have ht : (!behB ((s[k]'hlt).toNat : Int)) = true := by assumption
        rw [HB.out] at ht
        exact ⟨ret_bool (by rw [← HA.out]; simp at ht; simp [allB, hlt, ht]), rfl⟩
      · go_round
        case rel =>
          have ht : (!behB ((s[k]'hlt).toNat : Int)) = false := by first | assumption | simp_all
          rw [HB.out] at ht
          exact ⟨k + 1, f, by omega, by go_num, by rw [← HA.out]; simp at ht; simp [allB, hlt, ht], by omega⟩
        case measure => simp [intOf]; omega
    · go_wp2
      go_ret
      exact ⟨ret_bool (by rw [← HA.out, allB_end s f k hlt]), rfl⟩

theorem at0_drop (l : List UInt8) (i k : Nat) : G.at0 (l.drop i) k = G.at0 (l.drop (i + k)) 0 := by
  unfold G.at0
  rw [List.getD_eq_getElem?_getD, List.getD_eq_getElem?_getD, List.getElem?_drop, List.getElem?_drop, Nat.add_zero]

def contB (s : ByteArray) (j a b : Int) : Bool := decide (j < s.size) && inB (byteAt s j.toNat) a b

set_option maxHeartbeats 400000 in
theorem cont_any (s : ByteArray) (j a b : Int) (h0 : 0 ≤ j) (hj : j ≤ 4000000) (_hs : s.size ≤ 2000000) (w : World) : Calls Tryd.prog 54 #[.string s, .int .i64 j, .int .u8 a, .int .u8 b] w fun e w' => e = .returned (.bool (contB s j a b)) ∧ w = w' := by
  obtain ⟨n, rfl⟩ := Int.eq_ofNat_of_zero_le h0
  by_cases hlt : n < s.size
  · have hb := byteAt_eq s n hlt
    have HB := hid hb
    clear hb
    go_enter Tryd.func54, Tryd.ntmps54
    go_wp2_with (go_at_call 31; refine (within_any _ _ _ _).mono ?_; rintro e w' ⟨rfl, rfl⟩)
    go_ret
    refine ⟨ret_bool ?_, rfl⟩
    rw [HB.out]
    simp [contB, hlt]
  · go_enter Tryd.func54, Tryd.ntmps54
    go_wp2
    go_ret
    exact ⟨ret_bool (by simp [contB]; omega), rfl⟩

theorem ret_int {k : IntKind} {a b : Int} (h : a = b) : Ending.returned (.int k a) = .returned (.int k b) := by rw [h]

theorem within_yes (c a b : Int) (h1 : a ≤ c) (h2 : c ≤ b) (w : World) : Calls Tryd.prog 31 #[.int .u8 c, .int .u8 a, .int .u8 b] w fun e w' => e = .returned (.bool true) ∧ w = w' :=
  (within_any c a b w).mono fun e w' ⟨he, hw⟩ => ⟨he.trans (ret_bool (by simp [inB]; omega)), hw⟩
theorem within_no (c a b : Int) (h : c < a ∨ b < c) (w : World) : Calls Tryd.prog 31 #[.int .u8 c, .int .u8 a, .int .u8 b] w fun e w' => e = .returned (.bool false) ∧ w = w' :=
  (within_any c a b w).mono fun e w' ⟨he, hw⟩ => ⟨he.trans (ret_bool (by simp [inB]; omega)), hw⟩

theorem contB_L (s : ByteArray) (i : Nat) (k : Nat) (a b : Nat) (j : Int) (hj : j = (i : Int) + (k : Int)) : contB s j a b = G.contL (s.data.toList.drop i) k a b := by
  subst hj
  unfold contB G.contL
  rw [at0_drop]
  have : (s.data.toList.drop i).length = s.size - i := by simp
  rw [this, show ((i : Int) + (k : Int)).toNat = i + k by omega]
  have e : decide ((i : Int) + (k : Int) < (s.size : Int)) = decide (k < s.size - i) := by
    congr 1; apply propext; omega
  rw [e]
  unfold inB byteAt
  simp

set_option maxHeartbeats 1000000 in
set_option maxRecDepth 100000 in
theorem long_one (s : ByteArray) (i : Nat) (hi : i < s.size) (_hs : s.size ≤ 2000000) (hc : (s[i]'hi).toNat < 128) (w : World) : Calls Tryd.prog 33 #[.string s, .int .i64 i] w fun e w' => e = .returned (.int .i64 (G.longL (s.data.toList.drop i))) ∧ w = w' := by
  have hb := byteAt_eq s i hi
  have HF := hid (G.longL_1 (l := s.data.toList.drop i) (show byteAt s i < 128 by omega))
  clear hb
  go_enter Tryd.func33, Tryd.ntmps33
  go_wp2
  go_ret
  exact ⟨ret_int (by rw [HF.out]; rfl), rfl⟩

set_option maxHeartbeats 1000000 in
set_option maxRecDepth 100000 in
theorem long_two (s : ByteArray) (i : Nat) (hi : i < s.size) (hs : s.size ≤ 2000000) (h1 : 194 ≤ (s[i]'hi).toNat) (h2 : (s[i]'hi).toNat ≤ 223) (w : World) : Calls Tryd.prog 33 #[.string s, .int .i64 i] w fun e w' => e = .returned (.int .i64 (G.longL (s.data.toList.drop i))) ∧ w = w' := by
  have hb := byteAt_eq s i hi
  have HF := hid (G.longL_2 (l := s.data.toList.drop i) (show 194 ≤ byteAt s i by omega) (show byteAt s i ≤ 223 by omega))
  have HC := hid (contB_L s i 1 128 191 ((i : Int) + 1) rfl)
  clear hb
  go_enter Tryd.func33, Tryd.ntmps33
  go_wp2_with (first | (go_at_call 31; first | (refine (within_yes _ _ _ (by omega) (by omega) _).mono ?_; rintro e w' ⟨rfl, rfl⟩) | (refine (within_no _ _ _ (by omega) _).mono ?_; rintro e w' ⟨rfl, rfl⟩)) | (go_at_call 54; refine (cont_any s _ _ _ (by omega) (by omega) hs _).mono ?_; rintro e w' ⟨rfl, rfl⟩))
  all_goals go_ret
  all_goals refine ⟨ret_int ?_, rfl⟩
  all_goals rw [HF.out, ← HC.out]
  all_goals simp_all

end Go.Proofs.YtfmmhmkaphbmpaaDoor
