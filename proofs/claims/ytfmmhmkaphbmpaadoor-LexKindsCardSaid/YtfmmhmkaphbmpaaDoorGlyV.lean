/-
  The walks of the reference's Long at longer runes, of isStray, and of the functions that tell words and tags: each returns what plain lists of bytes say. Condition: strings of at most 2000000 bytes.
-/
import Derived.Test.YtfmmhmkaphbmpaaDoorGlyW
namespace Go.Proofs.YtfmmhmkaphbmpaaDoor
open Go.RowKit

set_option maxHeartbeats 1000000 in
set_option maxRecDepth 100000 in
theorem long_three (s : ByteArray) (i : Nat) (hi : i < s.size) (hs : s.size ≤ 2000000) (lo hh : Nat)
    (hc : ((s[i]'hi).toNat = 224 ∧ lo = 160 ∧ hh = 191) ∨ (225 ≤ (s[i]'hi).toNat ∧ (s[i]'hi).toNat ≤ 236 ∧ lo = 128 ∧ hh = 191) ∨ ((s[i]'hi).toNat = 237 ∧ lo = 128 ∧ hh = 159) ∨ (238 ≤ (s[i]'hi).toNat ∧ (s[i]'hi).toNat ≤ 239 ∧ lo = 128 ∧ hh = 191)) (w : World) :
    Calls Tryd.prog 33 #[.string s, .int .i64 i] w fun e w' => e = .returned (.int .i64 (G.longL (s.data.toList.drop i))) ∧ w = w' := by
  have hb := byteAt_eq s i hi
  have HF := hid (G.longL_3 (l := s.data.toList.drop i) (lo := lo) (hi := hh) (show 224 ≤ byteAt s i by omega) (show byteAt s i ≤ 239 by omega) (show lo = if byteAt s i = 224 then 160 else 128 by split <;> omega) (show hh = if byteAt s i = 237 then 159 else 191 by split <;> omega))
  have HC := hid (contB_L s i 1 lo hh ((i : Int) + 1) rfl)
  have HD := hid (contB_L s i 2 128 191 ((i : Int) + 2) rfl)
  clear hb
  rcases hc with ⟨heq, rfl, rfl⟩ | ⟨h1, h2, rfl, rfl⟩ | ⟨heq, rfl, rfl⟩ | ⟨h1, h2, rfl, rfl⟩
  all_goals have h3 : 224 ≤ (s[i]'hi).toNat := by omega
  all_goals have h4 : (s[i]'hi).toNat ≤ 239 := by omega
  all_goals try (have h5 : (s[i]'hi).toNat ≤ 224 := by omega)
  all_goals try (have h6 : 237 ≤ (s[i]'hi).toNat := by omega)
  all_goals try (have h7 : (s[i]'hi).toNat ≤ 237 := by omega)
  all_goals try clear heq
  all_goals
    go_enter Tryd.func33, Tryd.ntmps33
    go_wp2_with (first | (go_at_call 31; first | (refine (within_yes _ _ _ (by omega) (by omega) _).mono ?_; rintro e w' ⟨rfl, rfl⟩) | (refine (within_no _ _ _ (by omega) _).mono ?_; rintro e w' ⟨rfl, rfl⟩)) | (go_at_call 54; refine (cont_any s _ _ _ (by omega) (by omega) hs _).mono ?_; rintro e w' ⟨rfl, rfl⟩))
  all_goals go_ret
  all_goals refine ⟨ret_int ?_, rfl⟩
  all_goals rw [HF.out, ← HC.out, ← HD.out]
  all_goals simp_all

set_option maxHeartbeats 1000000 in
set_option maxRecDepth 100000 in
theorem long_four (s : ByteArray) (i : Nat) (hi : i < s.size) (hs : s.size ≤ 2000000) (lo hh : Nat)
    (hc : ((s[i]'hi).toNat = 240 ∧ lo = 144 ∧ hh = 191) ∨ (241 ≤ (s[i]'hi).toNat ∧ (s[i]'hi).toNat ≤ 243 ∧ lo = 128 ∧ hh = 191) ∨ ((s[i]'hi).toNat = 244 ∧ lo = 128 ∧ hh = 143)) (w : World) :
    Calls Tryd.prog 33 #[.string s, .int .i64 i] w fun e w' => e = .returned (.int .i64 (G.longL (s.data.toList.drop i))) ∧ w = w' := by
  have hb := byteAt_eq s i hi
  have HF := hid (G.longL_4 (l := s.data.toList.drop i) (lo := lo) (hi := hh) (show 240 ≤ byteAt s i by omega) (show byteAt s i ≤ 244 by omega) (show lo = if byteAt s i = 240 then 144 else 128 by split <;> omega) (show hh = if byteAt s i = 244 then 143 else 191 by split <;> omega))
  have HC := hid (contB_L s i 1 lo hh ((i : Int) + 1) rfl)
  have HD := hid (contB_L s i 2 128 191 ((i : Int) + 2) rfl)
  have HE := hid (contB_L s i 3 128 191 ((i : Int) + 3) rfl)
  clear hb
  rcases hc with ⟨heq, rfl, rfl⟩ | ⟨h1, h2, rfl, rfl⟩ | ⟨heq, rfl, rfl⟩
  all_goals have h3 : 240 ≤ (s[i]'hi).toNat := by omega
  all_goals have h4 : (s[i]'hi).toNat ≤ 244 := by omega
  all_goals try (have h5 : (s[i]'hi).toNat ≤ 240 := by omega)
  all_goals try (have h6 : 244 ≤ (s[i]'hi).toNat := by omega)
  all_goals try clear heq
  all_goals
    go_enter Tryd.func33, Tryd.ntmps33
    go_wp2_with (first | (go_at_call 31; first | (refine (within_yes _ _ _ (by omega) (by omega) _).mono ?_; rintro e w' ⟨rfl, rfl⟩) | (refine (within_no _ _ _ (by omega) _).mono ?_; rintro e w' ⟨rfl, rfl⟩)) | (go_at_call 54; refine (cont_any s _ _ _ (by omega) (by omega) hs _).mono ?_; rintro e w' ⟨rfl, rfl⟩))
  all_goals go_ret
  all_goals refine ⟨ret_int ?_, rfl⟩
  all_goals rw [HF.out, ← HC.out, ← HD.out, ← HE.out]
  all_goals simp_all

set_option maxHeartbeats 1000000 in
set_option maxRecDepth 100000 in
theorem long_zero (s : ByteArray) (i : Nat) (hi : i < s.size) (_hs : s.size ≤ 2000000) (hc : (128 ≤ (s[i]'hi).toNat ∧ (s[i]'hi).toNat ≤ 193) ∨ (245 ≤ (s[i]'hi).toNat ∧ (s[i]'hi).toNat < 256)) (w : World) :
    Calls Tryd.prog 33 #[.string s, .int .i64 i] w fun e w' => e = .returned (.int .i64 (G.longL (s.data.toList.drop i))) ∧ w = w' := by
  have hb := byteAt_eq s i hi
  have HF := hid (G.longL_0 (l := s.data.toList.drop i) (show 128 ≤ byteAt s i by omega) (show byteAt s i < 194 ∨ 245 ≤ byteAt s i by omega))
  clear hb
  rcases hc with ⟨h1, h2⟩ | ⟨h1, h2⟩
  all_goals
    go_enter Tryd.func33, Tryd.ntmps33
    go_wp2_with (first | (go_at_call 31; first | (refine (within_yes _ _ _ (by omega) (by omega) _).mono ?_; rintro e w' ⟨rfl, rfl⟩) | (refine (within_no _ _ _ (by omega) _).mono ?_; rintro e w' ⟨rfl, rfl⟩)) | (go_at_call 54; refine (cont_any s _ _ _ (by omega) (by omega) _hs _).mono ?_; rintro e w' ⟨rfl, rfl⟩))
  all_goals go_ret
  all_goals exact ⟨ret_int (by rw [HF.out]; rfl), rfl⟩

theorem long_any (s : ByteArray) (i : Nat) (hi : i < s.size) (hs : s.size ≤ 2000000) (w : World) :
    Calls Tryd.prog 33 #[.string s, .int .i64 i] w fun e w' => e = .returned (.int .i64 (G.longL (s.data.toList.drop i))) ∧ w = w' := by
  have h := UInt8.toNat_lt (s[i]'hi)
  by_cases c1 : (s[i]'hi).toNat < 128
  · exact long_one s i hi hs c1 w
  by_cases c2 : 194 ≤ (s[i]'hi).toNat ∧ (s[i]'hi).toNat ≤ 223
  · exact long_two s i hi hs c2.1 c2.2 w
  by_cases c3 : 224 ≤ (s[i]'hi).toNat ∧ (s[i]'hi).toNat ≤ 239
  · exact long_three s i hi hs (if (s[i]'hi).toNat = 224 then 160 else 128) (if (s[i]'hi).toNat = 237 then 159 else 191) (by split <;> split <;> omega) w
  by_cases c4 : 240 ≤ (s[i]'hi).toNat ∧ (s[i]'hi).toNat ≤ 244
  · exact long_four s i hi hs (if (s[i]'hi).toNat = 240 then 144 else 128) (if (s[i]'hi).toNat = 244 then 143 else 191) (by split <;> split <;> omega) w
  · exact long_zero s i hi hs (by omega) w

end Go.Proofs.YtfmmhmkaphbmpaaDoor
