/-
  The walks of ty's small questions on nodes, and of the reference's: each returns what the plain definition says; blocks of the call's own may be laid. Condition: labels of at most 2000000 bytes.
-/
import Derived.Test.YtimlblbmfckeiaaDoorTyM
namespace Go.Proofs.YtimlblbmfckeiaaDoor
open Go.RowKit

theorem below_new {w : World} (o : Obj) : Below w.heap.size w (w.alloc o) := (Below.refl _ _).alloc (Nat.le_refl _) _

set_option maxHeartbeats 400000 in
theorem many_any (k n : Int) (s : ByteArray) (w : World) : Calls Tryd.prog 33 #[.agg #[.int .i64 k, .string s, .int .i64 n]] w fun e w' => e = .returned (.int .i64 (L.many ⟨k, s, n⟩)) ∧ Below w.heap.size w w' := by
  by_cases h5 : k = 5
  · subst h5
    go_enter Tryd.func33, Tryd.ntmps33
    go_wp2
    go_ret
    exact ⟨rfl, below_new _⟩
  by_cases h6 : k = 6
  · subst h6
    go_enter Tryd.func33, Tryd.ntmps33
    go_wp2
    go_ret
    exact ⟨rfl, below_new _⟩
  by_cases h7 : k = 7
  · subst h7
    go_enter Tryd.func33, Tryd.ntmps33
    go_wp2
    go_ret
    exact ⟨rfl, below_new _⟩
  have e5 : (k == 5) = false := by simp; omega
  have e6 : (k == 6) = false := by simp; omega
  have e7 : (k == 7) = false := by simp; omega
  go_enter Tryd.func33, Tryd.ntmps33
  go_wp2
  go_ret
  refine ⟨ret_int ?_, below_new _⟩
  simp [L.many, h5, h6, h7]

set_option maxHeartbeats 400000 in
theorem refMany_any (k n : Int) (s : ByteArray) (w : World) : Calls Tryd.prog 37 #[.agg #[.int .i64 k, .string s, .int .i64 n]] w fun e w' => e = .returned (.int .i64 (L.many ⟨k, s, n⟩)) ∧ Below w.heap.size w w' := by
  by_cases h5 : k = 5
  · subst h5
    go_enter Tryd.func37, Tryd.ntmps37
    go_wp2
    go_ret
    exact ⟨rfl, below_new _⟩
  by_cases h6 : k = 6
  · subst h6
    go_enter Tryd.func37, Tryd.ntmps37
    go_wp2
    go_ret
    exact ⟨rfl, below_new _⟩
  by_cases h7 : k = 7
  · subst h7
    go_enter Tryd.func37, Tryd.ntmps37
    go_wp2
    go_ret
    exact ⟨rfl, below_new _⟩
  have e5 : (k == 5) = false := by simp; omega
  have e6 : (k == 6) = false := by simp; omega
  have e7 : (k == 7) = false := by simp; omega
  go_enter Tryd.func37, Tryd.ntmps37
  go_wp2
  go_ret
  refine ⟨ret_int ?_, below_new _⟩
  simp [L.many, h5, h6, h7]

set_option maxHeartbeats 400000 in
theorem bare_any (k n : Int) (s : ByteArray) (w : World) : Calls Tryd.prog 46 #[.agg #[.int .i64 k, .string s, .int .i64 n]] w fun e w' => e = .returned (.bool (L.bare ⟨k, s, n⟩)) ∧ Below w.heap.size w w' := by
  by_cases h0 : s.size = 0
  · have he := is_empty h0
    go_enter Tryd.func46, Tryd.ntmps46
    go_wp2
    go_ret
    refine ⟨ret_bool ?_, below_new _⟩
    rw [Bool.eq_iff_iff]
    simp [L.bare, h0]
  · have he := ne_empty (show 0 < s.size by omega)
    go_enter Tryd.func46, Tryd.ntmps46
    go_wp2
    go_ret
    refine ⟨ret_bool ?_, below_new _⟩
    simp [L.bare, h0]


theorem kind_cases (k : Int) : k = 0 ∨ k = 1 ∨ k = 2 ∨ k = 3 ∨ k = 4 ∨ k = 5 ∨ k = 6 ∨ k = 7 ∨ k = 8 ∨ k = 9 ∨ (k < 0 ∨ 9 < k) := by omega

set_option maxHeartbeats 1000000 in
theorem numbered_any (k n : Int) (s : ByteArray) (w : World) : Calls Tryd.prog 48 #[.agg #[.int .i64 k, .string s, .int .i64 n]] w fun e w' => e = .returned (.bool (L.numbered ⟨k, s, n⟩)) ∧ Below w.heap.size w w' := by
  rcases kind_cases k with rfl | rfl | rfl | rfl | rfl | rfl | rfl | rfl | rfl | rfl | h
  case inr.inr.inr.inr.inr.inr.inr.inr.inr.inr =>
    have e0 : (k == 0) = false := by simp; omega
    have e1 : (k == 1) = false := by simp; omega
    have e2 : (k == 2) = false := by simp; omega
    have e3 : (k == 3) = false := by simp; omega
    have e4 : (k == 4) = false := by simp; omega
    have e5 : (k == 5) = false := by simp; omega
    have e6 : (k == 6) = false := by simp; omega
    have e7 : (k == 7) = false := by simp; omega
    have e8 : (k == 8) = false := by simp; omega
    have e9 : (k == 9) = false := by simp; omega
    go_enter Tryd.func48, Tryd.ntmps48
    go_wp2
    go_ret
    refine ⟨ret_bool ?_, below_new _⟩
    simp only [beq_eq_false_iff_ne, ne_eq] at e0 e1 e2 e3 e4 e5 e6 e7 e8 e9
    simp [L.numbered, e0, e1, e2, e3, e4, e5, e6, e7, e8, e9]
  all_goals go_enter Tryd.func48, Tryd.ntmps48
  all_goals go_wp2
  all_goals go_ret
  all_goals refine ⟨ret_bool ?_, below_new _⟩
  all_goals rw [Bool.eq_iff_iff]
  all_goals simp [L.numbered]
  all_goals try omega

set_option maxHeartbeats 1000000 in
theorem refNumbered_any (k n : Int) (s : ByteArray) (w : World) : Calls Tryd.prog 26 #[.agg #[.int .i64 k, .string s, .int .i64 n]] w fun e w' => e = .returned (.bool (L.numbered ⟨k, s, n⟩)) ∧ Below w.heap.size w w' := by
  rcases kind_cases k with rfl | rfl | rfl | rfl | rfl | rfl | rfl | rfl | rfl | rfl | h
  case inr.inr.inr.inr.inr.inr.inr.inr.inr.inr =>
    have e0 : (k == 0) = false := by simp; omega
    have e1 : (k == 1) = false := by simp; omega
    have e2 : (k == 2) = false := by simp; omega
    have e3 : (k == 3) = false := by simp; omega
    have e4 : (k == 4) = false := by simp; omega
    have e5 : (k == 5) = false := by simp; omega
    have e6 : (k == 6) = false := by simp; omega
    have e7 : (k == 7) = false := by simp; omega
    have e8 : (k == 8) = false := by simp; omega
    have e9 : (k == 9) = false := by simp; omega
    go_enter Tryd.func26, Tryd.ntmps26
    go_wp2
    go_ret
    refine ⟨ret_bool ?_, below_new _⟩
    simp only [beq_eq_false_iff_ne, ne_eq] at e0 e1 e2 e3 e4 e5 e6 e7 e8 e9
    simp [L.numbered, e0, e1, e2, e3, e4, e5, e6, e7, e8, e9]
  all_goals go_enter Tryd.func26, Tryd.ntmps26
  all_goals go_wp2
  all_goals go_ret
  all_goals refine ⟨ret_bool ?_, below_new _⟩
  all_goals rw [Bool.eq_iff_iff]
  all_goals simp [L.numbered]
  all_goals try omega

set_option maxHeartbeats 1000000 in
theorem isLabel_any (k : Int) (s : ByteArray) (hs : s.size ≤ 2000000) (w : World) : Calls Tryd.prog 57 #[.int .i64 k, .string s] w fun e w' => e = .returned (.bool (L.isLabel k s)) ∧ Below w.heap.size w w' := by
  by_cases h6 : k = 6
  · subst h6
    go_enter Tryd.func57, Tryd.ntmps57
    go_wp2_with (go_at_call 69; refine (isWord_any s hs _).mono ?_; rintro e w' ⟨rfl, hb⟩)
    all_goals go_ret
    all_goals refine ⟨ret_bool ?_, hb⟩
    all_goals simp_all [L.isLabel]
  by_cases h7 : k = 7
  · subst h7
    go_enter Tryd.func57, Tryd.ntmps57
    go_wp2_with (go_at_call 70; refine (isTag_any s hs _).mono ?_; rintro e w' ⟨rfl, hb⟩)
    all_goals go_ret
    all_goals refine ⟨ret_bool ?_, hb⟩
    all_goals simp_all [L.isLabel]
  have e6 : (k == 6) = false := by simp; omega
  have e7 : (k == 7) = false := by simp; omega
  go_enter Tryd.func57, Tryd.ntmps57
  go_wp2
  go_ret
  refine ⟨ret_bool ?_, Below.refl _ _⟩
  simp [L.isLabel, h6, h7]

set_option maxHeartbeats 1000000 in
theorem refLabel_any (k : Int) (s : ByteArray) (hs : s.size ≤ 2000000) (w : World) : Calls Tryd.prog 41 #[.int .i64 k, .string s] w fun e w' => e = .returned (.bool (L.isLabel k s)) ∧ w = w' := by
  by_cases h6 : k = 6
  · subst h6
    go_enter Tryd.func41, Tryd.ntmps41
    go_wp2_with (go_at_call 50; refine (refWord_any s hs _).mono ?_; rintro e w' ⟨rfl, rfl⟩)
    all_goals go_ret
    all_goals refine ⟨ret_bool ?_, rfl⟩
    all_goals simp_all [L.isLabel]
  by_cases h7 : k = 7
  · subst h7
    go_enter Tryd.func41, Tryd.ntmps41
    go_wp2_with (go_at_call 51; refine (refTag_any s hs _).mono ?_; rintro e w' ⟨rfl, rfl⟩)
    all_goals go_ret
    all_goals refine ⟨ret_bool ?_, rfl⟩
    all_goals simp_all [L.isLabel]
  have e6 : (k == 6) = false := by simp; omega
  have e7 : (k == 7) = false := by simp; omega
  go_enter Tryd.func41, Tryd.ntmps41
  go_wp2
  go_ret
  refine ⟨ret_bool ?_, rfl⟩
  simp [L.isLabel, h6, h7]

set_option maxHeartbeats 2000000 in
theorem mayStand_any (k n i k2 n2 : Int) (s b s2 : ByteArray) (hs : s2.size ≤ 2000000) (hn : -9223372036854775807 ≤ n ∧ n ≤ 9223372036854775807) (w : World) :
    Calls Tryd.prog 49 #[.agg #[.int .i64 k, .string s, .int .i64 n], .int .i64 i, .string b, .agg #[.int .i64 k2, .string s2, .int .i64 n2]] w fun e w' => e = .returned (.bool (L.mayStand ⟨k, s, n⟩ i b ⟨k2, s2, n2⟩)) ∧ Below w.heap.size w w' := by
  by_cases h5 : k = 5
  · subst h5
    go_enter Tryd.func49, Tryd.ntmps49
    go_wp2_with (go_at_call 46; refine (bare_any _ _ _ _).mono ?_; rintro e w' ⟨rfl, hb⟩)
    go_ret
    exact ⟨rfl, ((below_new _).trans ((below_new _).mono (by simp))).trans (hb.mono (by simp; omega))⟩
  have e5 : (k == 5) = false := by simp; omega
  by_cases h9 : k2 = 9
  · subst h9
    by_cases h0 : s2.size = 0
    · have he := is_empty h0
      go_enter Tryd.func49, Tryd.ntmps49
      go_wp2
      go_ret
      refine ⟨ret_bool ?_, (below_new _).trans ((below_new _).mono (by simp))⟩
      rw [Bool.eq_iff_iff]
      simp [L.mayStand, h5, h0]
    · have he := ne_empty (show 0 < s2.size by omega)
      go_enter Tryd.func49, Tryd.ntmps49
      go_wp2
      go_ret
      refine ⟨ret_bool ?_, (below_new _).trans ((below_new _).mono (by simp))⟩
      simp [L.mayStand, h5, h0]
  have e9 : (k2 == 9) = false := by simp; omega
  go_enter Tryd.func49, Tryd.ntmps49
  go_wp2_with fail
  refine (isLabel_any _ _ hs _).mono ?_
  rintro e w' ⟨rfl, hb⟩
  have hc : w'.cell? ⟨w.heap.size + 1, 1, none⟩ = some (.string s2) := by
    rw [hb.cell (p := ⟨w.heap.size + 1, 1, none⟩) (by simp)]
    simp
  go_wp2
  all_goals go_ret
  all_goals refine ⟨ret_bool ?_, ((below_new _).trans ((below_new _).mono (by simp))).trans (hb.mono (by simp; omega))⟩
  all_goals simp_all [L.mayStand, L.ltB]

end Go.Proofs.YtimlblbmfckeiaaDoor
