/-
  The walks of the reference's words and tags, and small facts on runes. Condition: strings of at most 2000000 bytes.
-/
import Derived.Test.YtfmmhmkaphbmpaaDoorGlyU
namespace Go.Proofs.YtfmmhmkaphbmpaaDoor
open Go.RowKit

set_option maxHeartbeats 400000 in
theorem refWord_any (s : ByteArray) (hs : s.size ≤ 2000000) (w : World) :
    Calls Tryd.prog 19 #[.string s] w fun e w' => e = .returned (.bool (nameB 97 122 s)) ∧ w = w' := by
  by_cases h0 : 0 < s.size
  · have HB := hid (byteAt_eq s 0 h0)
    go_enter Tryd.func19, Tryd.ntmps19
    go_wp2_with (first | (go_at_call 31; refine (within_any _ _ _ _).mono ?_; rintro e w' ⟨rfl, rfl⟩) | (go_at_call 32; refine (all_any s hs _).mono ?_; rintro e w' ⟨rfl, rfl⟩))
    all_goals go_ret
    all_goals refine ⟨ret_bool ?_, rfl⟩
    all_goals rw [HB.out] at *
    all_goals simp_all [nameB]
  · go_enter Tryd.func19, Tryd.ntmps19
    go_wp2
    go_ret
    exact ⟨ret_bool (by simp [nameB, h0]), rfl⟩

set_option maxHeartbeats 400000 in
theorem refTag_any (s : ByteArray) (hs : s.size ≤ 2000000) (w : World) :
    Calls Tryd.prog 18 #[.string s] w fun e w' => e = .returned (.bool (nameB 65 90 s)) ∧ w = w' := by
  by_cases h0 : 0 < s.size
  · have HB := hid (byteAt_eq s 0 h0)
    go_enter Tryd.func18, Tryd.ntmps18
    go_wp2_with (first | (go_at_call 31; refine (within_any _ _ _ _).mono ?_; rintro e w' ⟨rfl, rfl⟩) | (go_at_call 32; refine (all_any s hs _).mono ?_; rintro e w' ⟨rfl, rfl⟩))
    all_goals go_ret
    all_goals refine ⟨ret_bool ?_, rfl⟩
    all_goals rw [HB.out] at *
    all_goals simp_all [nameB]
  · go_enter Tryd.func18, Tryd.ntmps18
    go_wp2
    go_ret
    exact ⟨ret_bool (by simp [nameB, h0]), rfl⟩

theorem drop_nil {s : ByteArray} {i : Nat} (hi : ¬ i < s.size) : s.data.toList.drop i = [] := by
  apply List.drop_eq_nil_of_le
  simp
  omega

theorem runeL_is {s : ByteArray} {pos : Nat} (hp : pos < s.size) : ∃ r, G.runeL (s.data.toList.drop pos) = (r, G.wid (s.data.toList.drop pos)) ∧ r ≤ 2147483647 ∧ (r = 10 ↔ G.at0 (s.data.toList.drop pos) 0 = 10) := by
  refine ⟨(G.runeL (s.data.toList.drop pos)).1, ?_, ?_, ?_⟩
  · rw [Prod.ext_iff]; exact ⟨rfl, G.runeL_wid (drop_ne hp)⟩
  · rw [← G.decode_eq]; exact decode_le s pos
  · rcases G.rune_long _ (drop_ne hp) with ⟨_, h, h3⟩ | ⟨_, _, _, _, _, ⟨_, _, h3⟩ | ⟨h1, _, h3⟩⟩
    · rw [h]; constructor
      · intro h4; simp at h4
      · intro h4; omega
    · rw [h3]
    · omega

theorem longL_le4 {l : List UInt8} (hl : l ≠ []) : G.longL l ≤ 4 := by
  rcases G.rune_long l hl with ⟨h, _, _⟩ | ⟨_, _, h, _⟩ <;> omega

theorem ret_two {a b c d : Int} (h : a = c) (h2 : b = d) : Ending.returned (.tuple #[.int .i64 a, .int .i64 b]) = .returned (.tuple #[.int .i64 c, .int .i64 d]) := by rw [h, h2]

end Go.Proofs.YtfmmhmkaphbmpaaDoor
