/-
  The walks of the small functions of lex: tests of one byte, endOf with each of its tests, skip. Conditions: the arguments' ranges.
-/
import Derived.Test.YtfmmhmkaphbmpaaDoorLexM
import Derived.Test.YtfmmhmkaphbmpaaDoorGlyPw
namespace Go.Proofs.YtfmmhmkaphbmpaaDoor
open Go.RowKit

set_option maxHeartbeats 400000 in
theorem lexLetter_any (c : Int) (w : World) : Calls Tryd.prog 42 #[.int .u8 c] w fun e w' => e = .returned (.bool (inB c 97 122 || inB c 65 90)) ∧ w = w' := by
  go_enter Tryd.func42, Tryd.ntmps42
  go_wp2
  all_goals go_ret
  all_goals exact ⟨ret_bool (by first | rfl | (simp [inB]; done) | (rw [Bool.eq_iff_iff]; simp [inB]; omega)), rfl⟩

set_option maxHeartbeats 400000 in
theorem lexDigit_any (c : Int) (w : World) : Calls Tryd.prog 43 #[.int .u8 c] w fun e w' => e = .returned (.bool (inB c 48 57)) ∧ w = w' := by
  go_enter Tryd.func43, Tryd.ntmps43
  go_wp2
  all_goals go_ret
  all_goals exact ⟨ret_bool (by first | rfl | (simp [inB]; done) | (rw [Bool.eq_iff_iff]; simp [inB]; omega)), rfl⟩

theorem dig_call (c : UInt8) (w : World) : Calls Tryd.prog 43 #[.int .u8 c.toNat] w fun e w' => e = .returned (.bool (L.digB c)) ∧ w = w' := lexDigit_any _ w

set_option maxHeartbeats 400000 in
theorem blank_call (c : UInt8) (w : World) : Calls Tryd.prog 36 #[.int .u8 c.toNat] w fun e w' => e = .returned (.bool (L.blankB c)) ∧ w = w' := by
  go_enter Tryd.func36, Tryd.ntmps36
  go_wp2
  all_goals go_ret
  all_goals exact ⟨ret_bool (by rw [Bool.eq_iff_iff]; simp_all [L.blankB]; try omega), rfl⟩

set_option maxHeartbeats 400000 in
theorem line_call (c : UInt8) (w : World) : Calls Tryd.prog 37 #[.int .u8 c.toNat] w fun e w' => e = .returned (.bool (L.lineB c)) ∧ w = w' := by
  go_enter Tryd.func37, Tryd.ntmps37
  go_wp2
  all_goals go_ret
  all_goals exact ⟨ret_bool (by rw [Bool.eq_iff_iff]; simp_all [L.lineB]; try omega), rfl⟩

theorem lexLetter_v (c : Int) (b : Bool) (h : (inB c 97 122 || inB c 65 90) = b) (w : World) : Calls Tryd.prog 42 #[.int .u8 c] w fun e w' => e = .returned (.bool b) ∧ w = w' :=
  (lexLetter_any c w).mono fun _ _ ⟨he, hw⟩ => ⟨he.trans (ret_bool h), hw⟩
theorem lexDigit_v (c : Int) (b : Bool) (h : inB c 48 57 = b) (w : World) : Calls Tryd.prog 43 #[.int .u8 c] w fun e w' => e = .returned (.bool b) ∧ w = w' :=
  (lexDigit_any c w).mono fun _ _ ⟨he, hw⟩ => ⟨he.trans (ret_bool h), hw⟩

set_option maxHeartbeats 400000 in
theorem goes_call (c : UInt8) (w : World) : Calls Tryd.prog 41 #[.int .u8 c.toNat] w fun e w' => e = .returned (.bool (L.goesB c)) ∧ w = w' := by
  obtain ⟨b1, h1⟩ : ∃ b, (inB (c.toNat : Int) 97 122 || inB (c.toNat : Int) 65 90) = b := ⟨_, rfl⟩
  obtain ⟨b2, h2⟩ : ∃ b, inB (c.toNat : Int) 48 57 = b := ⟨_, rfl⟩
  have hfin := hid (show L.goesB c = (b1 || b2 || (c.toNat : Int) == 95) by unfold L.goesB behB; rw [h1, h2])
  have H1 := hid h1
  have H2 := hid h2
  clear h1 h2
  cases b1 <;> cases b2
  all_goals
    go_enter Tryd.func41, Tryd.ntmps41
    go_wp2_with (first | (go_at_call 42; refine (lexLetter_v _ _ H1.out _).mono ?_; rintro e w' ⟨rfl, rfl⟩) | (go_at_call 43; refine (lexDigit_v _ _ H2.out _).mono ?_; rintro e w' ⟨rfl, rfl⟩))
    all_goals go_ret
    all_goals exact ⟨ret_bool (by rw [hfin.out]; simp), rfl⟩

theorem blank_yes (c : UInt8) (h : L.blankB c = true) (w : World) : Calls Tryd.prog 36 #[.int .u8 c.toNat] w fun e w' => e = .returned (.bool true) ∧ w = w' :=
  (blank_call c w).mono fun _ _ ⟨he, hw⟩ => ⟨he.trans (ret_bool h), hw⟩
theorem blank_no (c : UInt8) (h : L.blankB c = false) (w : World) : Calls Tryd.prog 36 #[.int .u8 c.toNat] w fun e w' => e = .returned (.bool false) ∧ w = w' :=
  (blank_call c w).mono fun _ _ ⟨he, hw⟩ => ⟨he.trans (ret_bool h), hw⟩

set_option maxHeartbeats 1000000 in
set_option maxRecDepth 100000 in
theorem endOf_blank (s : ByteArray) (hs : s.size ≤ 2000000) (at_ : Nat) (hat : at_ ≤ s.size) (w : World) :
    Calls Tryd.prog 35 #[.string s, .int .i64 at_, .func (.func 36) #[] #[]] w fun e w' => e = .returned (.int .i64 ((at_ + L.runL L.blankB (s.data.toList.drop at_) : Nat) : Int)) ∧ w = w' := by
  go_enter Tryd.func35, Tryd.ntmps35
  go_wp2
  go_loop [1] (fun vi => ∃ k : Nat, k ≤ s.size ∧ vi = .int .i64 k ∧ k + L.runL L.blankB (s.data.toList.drop k) = at_ + L.runL L.blankB (s.data.toList.drop at_)) (fun vi => s.size - (intOf vi).toNat)
  case atStart => exact ⟨at_, hat, rfl, rfl⟩
  case round =>
    obtain ⟨k, hk, rfl, hrun⟩ := hrel
    have HR := hid hrun
    clear hrun
    by_cases hlt : k < s.size
    · have hl : k < s.data.toList.length := by simpa using hlt
      by_cases hp : L.blankB (s[k]'hlt) = true
      · have HP := hid hp
        clear hp
        go_wp2_with (go_at_call 36; refine (blank_yes _ HP.out _).mono ?_; rintro e w' ⟨rfl, rfl⟩)
        go_round
        case rel => exact ⟨k + 1, by omega, by go_num, by rw [← HR.out, L.runL_step hl HP.out]; omega⟩
        case measure => simp [intOf]; omega
      · simp only [Bool.not_eq_true] at hp
        have HP := hid hp
        clear hp
        go_wp2_with (go_at_call 36; refine (blank_no _ HP.out _).mono ?_; rintro e w' ⟨rfl, rfl⟩)
        go_ret
        exact ⟨ret_int (by have h := HR.out; rw [L.runL_stop hl HP.out] at h; omega), rfl⟩
    · have hl : s.data.toList.length ≤ k := by simp; omega
      go_wp2
      go_ret
      exact ⟨ret_int (by have h := HR.out; rw [L.runL_end hl] at h; omega), rfl⟩

theorem line_yes (c : UInt8) (h : L.lineB c = true) (w : World) : Calls Tryd.prog 37 #[.int .u8 c.toNat] w fun e w' => e = .returned (.bool true) ∧ w = w' :=
  (line_call c w).mono fun _ _ ⟨he, hw⟩ => ⟨he.trans (ret_bool h), hw⟩
theorem line_no (c : UInt8) (h : L.lineB c = false) (w : World) : Calls Tryd.prog 37 #[.int .u8 c.toNat] w fun e w' => e = .returned (.bool false) ∧ w = w' :=
  (line_call c w).mono fun _ _ ⟨he, hw⟩ => ⟨he.trans (ret_bool h), hw⟩

set_option maxHeartbeats 1000000 in
set_option maxRecDepth 100000 in
theorem endOf_line (s : ByteArray) (hs : s.size ≤ 2000000) (at_ : Nat) (hat : at_ ≤ s.size) (w : World) :
    Calls Tryd.prog 35 #[.string s, .int .i64 at_, .func (.func 37) #[] #[]] w fun e w' => e = .returned (.int .i64 ((at_ + L.runL L.lineB (s.data.toList.drop at_) : Nat) : Int)) ∧ w = w' := by
  go_enter Tryd.func35, Tryd.ntmps35
  go_wp2
  go_loop [1] (fun vi => ∃ k : Nat, k ≤ s.size ∧ vi = .int .i64 k ∧ k + L.runL L.lineB (s.data.toList.drop k) = at_ + L.runL L.lineB (s.data.toList.drop at_)) (fun vi => s.size - (intOf vi).toNat)
  case atStart => exact ⟨at_, hat, rfl, rfl⟩
  case round =>
    obtain ⟨k, hk, rfl, hrun⟩ := hrel
    have HR := hid hrun
    clear hrun
    by_cases hlt : k < s.size
    · have hl : k < s.data.toList.length := by simpa using hlt
      by_cases hp : L.lineB (s[k]'hlt) = true
      · have HP := hid hp
        clear hp
        go_wp2_with (go_at_call 37; refine (line_yes _ HP.out _).mono ?_; rintro e w' ⟨rfl, rfl⟩)
        go_round
        case rel => exact ⟨k + 1, by omega, by go_num, by rw [← HR.out, L.runL_step hl HP.out]; omega⟩
        case measure => simp [intOf]; omega
      · simp only [Bool.not_eq_true] at hp
        have HP := hid hp
        clear hp
        go_wp2_with (go_at_call 37; refine (line_no _ HP.out _).mono ?_; rintro e w' ⟨rfl, rfl⟩)
        go_ret
        exact ⟨ret_int (by have h := HR.out; rw [L.runL_stop hl HP.out] at h; omega), rfl⟩
    · have hl : s.data.toList.length ≤ k := by simp; omega
      go_wp2
      go_ret
      exact ⟨ret_int (by have h := HR.out; rw [L.runL_end hl] at h; omega), rfl⟩

theorem goes_yes (c : UInt8) (h : L.goesB c = true) (w : World) : Calls Tryd.prog 41 #[.int .u8 c.toNat] w fun e w' => e = .returned (.bool true) ∧ w = w' :=
  (goes_call c w).mono fun _ _ ⟨he, hw⟩ => ⟨he.trans (ret_bool h), hw⟩
theorem goes_no (c : UInt8) (h : L.goesB c = false) (w : World) : Calls Tryd.prog 41 #[.int .u8 c.toNat] w fun e w' => e = .returned (.bool false) ∧ w = w' :=
  (goes_call c w).mono fun _ _ ⟨he, hw⟩ => ⟨he.trans (ret_bool h), hw⟩

set_option maxHeartbeats 1000000 in
set_option maxRecDepth 100000 in
theorem endOf_goes (s : ByteArray) (hs : s.size ≤ 2000000) (at_ : Nat) (hat : at_ ≤ s.size) (w : World) :
    Calls Tryd.prog 35 #[.string s, .int .i64 at_, .func (.func 41) #[] #[]] w fun e w' => e = .returned (.int .i64 ((at_ + L.runL L.goesB (s.data.toList.drop at_) : Nat) : Int)) ∧ w = w' := by
  go_enter Tryd.func35, Tryd.ntmps35
  go_wp2
  go_loop [1] (fun vi => ∃ k : Nat, k ≤ s.size ∧ vi = .int .i64 k ∧ k + L.runL L.goesB (s.data.toList.drop k) = at_ + L.runL L.goesB (s.data.toList.drop at_)) (fun vi => s.size - (intOf vi).toNat)
  case atStart => exact ⟨at_, hat, rfl, rfl⟩
  case round =>
    obtain ⟨k, hk, rfl, hrun⟩ := hrel
    have HR := hid hrun
    clear hrun
    by_cases hlt : k < s.size
    · have hl : k < s.data.toList.length := by simpa using hlt
      by_cases hp : L.goesB (s[k]'hlt) = true
      · have HP := hid hp
        clear hp
        go_wp2_with (go_at_call 41; refine (goes_yes _ HP.out _).mono ?_; rintro e w' ⟨rfl, rfl⟩)
        go_round
        case rel => exact ⟨k + 1, by omega, by go_num, by rw [← HR.out, L.runL_step hl HP.out]; omega⟩
        case measure => simp [intOf]; omega
      · simp only [Bool.not_eq_true] at hp
        have HP := hid hp
        clear hp
        go_wp2_with (go_at_call 41; refine (goes_no _ HP.out _).mono ?_; rintro e w' ⟨rfl, rfl⟩)
        go_ret
        exact ⟨ret_int (by have h := HR.out; rw [L.runL_stop hl HP.out] at h; omega), rfl⟩
    · have hl : s.data.toList.length ≤ k := by simp; omega
      go_wp2
      go_ret
      exact ⟨ret_int (by have h := HR.out; rw [L.runL_end hl] at h; omega), rfl⟩

theorem dig_yes (c : UInt8) (h : L.digB c = true) (w : World) : Calls Tryd.prog 43 #[.int .u8 c.toNat] w fun e w' => e = .returned (.bool true) ∧ w = w' :=
  (dig_call c w).mono fun _ _ ⟨he, hw⟩ => ⟨he.trans (ret_bool h), hw⟩
theorem dig_no (c : UInt8) (h : L.digB c = false) (w : World) : Calls Tryd.prog 43 #[.int .u8 c.toNat] w fun e w' => e = .returned (.bool false) ∧ w = w' :=
  (dig_call c w).mono fun _ _ ⟨he, hw⟩ => ⟨he.trans (ret_bool h), hw⟩

set_option maxHeartbeats 1000000 in
set_option maxRecDepth 100000 in
theorem endOf_dig (s : ByteArray) (hs : s.size ≤ 2000000) (at_ : Nat) (hat : at_ ≤ s.size) (w : World) :
    Calls Tryd.prog 35 #[.string s, .int .i64 at_, .func (.func 43) #[] #[]] w fun e w' => e = .returned (.int .i64 ((at_ + L.runL L.digB (s.data.toList.drop at_) : Nat) : Int)) ∧ w = w' := by
  go_enter Tryd.func35, Tryd.ntmps35
  go_wp2
  go_loop [1] (fun vi => ∃ k : Nat, k ≤ s.size ∧ vi = .int .i64 k ∧ k + L.runL L.digB (s.data.toList.drop k) = at_ + L.runL L.digB (s.data.toList.drop at_)) (fun vi => s.size - (intOf vi).toNat)
  case atStart => exact ⟨at_, hat, rfl, rfl⟩
  case round =>
    obtain ⟨k, hk, rfl, hrun⟩ := hrel
    have HR := hid hrun
    clear hrun
    by_cases hlt : k < s.size
    · have hl : k < s.data.toList.length := by simpa using hlt
      by_cases hp : L.digB (s[k]'hlt) = true
      · have HP := hid hp
        clear hp
        go_wp2_with (go_at_call 43; refine (dig_yes _ HP.out _).mono ?_; rintro e w' ⟨rfl, rfl⟩)
        go_round
        case rel => exact ⟨k + 1, by omega, by go_num, by rw [← HR.out, L.runL_step hl HP.out]; omega⟩
        case measure => simp [intOf]; omega
      · simp only [Bool.not_eq_true] at hp
        have HP := hid hp
        clear hp
        go_wp2_with (go_at_call 43; refine (dig_no _ HP.out _).mono ?_; rintro e w' ⟨rfl, rfl⟩)
        go_ret
        exact ⟨ret_int (by have h := HR.out; rw [L.runL_stop hl HP.out] at h; omega), rfl⟩
    · have hl : s.data.toList.length ≤ k := by simp; omega
      go_wp2
      go_ret
      exact ⟨ret_int (by have h := HR.out; rw [L.runL_end hl] at h; omega), rfl⟩

end Go.Proofs.YtfmmhmkaphbmpaaDoor
