/-
  The walks of GlyphMore, one for each class of the byte and each of what the text is: it is true. No conditions but the class.
-/
import Derived.Test.YtieggbmniheiiaaGlyL
import Derived.Test.YtieggbmniheiiaaGlyK3
namespace Go.Proofs.Ytieggbmniheiiaa
open Go.RowKit

theorem more_list (s : ByteArray) (c : UInt8) : (s ++ ⟨#[c]⟩ : ByteArray).data.toList = s.data.toList ++ [c] := by
  rw [toList_app]

theorem isWord_is (s : ByteArray) (hs : s.size ≤ 2000000) (v : Bool) (h : nameB 97 122 s = v) (w : World) :
    Calls Try.prog 12 #[.string s] w fun e w' => e = .returned (.bool v) ∧ Below w.heap.size w w' :=
  (isWord_any s hs w).mono fun _ _ ⟨he, hw⟩ => ⟨he.trans (ret_bool h), hw⟩
theorem isTag_is (s : ByteArray) (hs : s.size ≤ 2000000) (v : Bool) (h : nameB 65 90 s = v) (w : World) :
    Calls Try.prog 14 #[.string s] w fun e w' => e = .returned (.bool v) ∧ Below w.heap.size w w' :=
  (isTag_any s hs w).mono fun _ _ ⟨he, hw⟩ => ⟨he.trans (ret_bool h), hw⟩

set_option maxHeartbeats 2000000 in
set_option maxRecDepth 100000 in
theorem more_0_10 (s : ByteArray) (c : Int) (hs0 : 0 < s.size) (hs1 : s.size ≤ 2000) (hl : 0 ≤ c) (hh : c ≤ 47) (hwd : nameB 97 122 s = true) (htg : nameB 65 90 s = false) (w : World) :
    Calls Try.prog 8 #[.string s, .int .u8 c] w fun e w' => e = .returned (.bool true) ∧ Below w.heap.size w w' := by
  have h0 : 0 ≤ c := by omega
  have h255 : c < 256 := by omega
  have h95 : (c == 95) = false := by simp; omega
  have hu : ((c.toNat.toUInt8).toNat : Int) = c := by simp; omega
  have hcv : (convert 32 9 (.slice (some ⟨w.heap.size, 0, none⟩) 1 1)).run Try.prog (w.alloc (.cells #[.int .u8 c] 5)) = _ :=
    one_byte _ w.heap.size c h0 h255 (by simp [go_sem])
  have hsz : (s ++ ⟨#[c.toNat.toUInt8]⟩ : ByteArray).size ≤ 2000000 := by rw [ByteArray.size_append]; show s.size + 1 ≤ 2000000; omega
  have HSZ := hid hsz
  have HS : Hid (s.size ≤ 2000000) := hid (by omega)
  clear hsz
  have hne : s.data.toList ≠ [] := by intro h; have e : s.data.toList.length = s.size := (by simp); rw [h] at e; simp at e; omega
  have hm : behB (((c.toNat.toUInt8).toNat : Nat) : Int) = false := by rw [hu]; simp [behB, inB]; try omega
  have HW2 : Hid (nameB 97 122 (s ++ ⟨#[c.toNat.toUInt8]⟩) = false) := hid (by rw [nameB_list, more_list, nameL_more _ _ _ _ hne, ← nameB_list, hwd, hm]; rfl)
  have HT2 : Hid (nameB 65 90 (s ++ ⟨#[c.toNat.toUInt8]⟩) = false) := hid (by rw [nameB_list, more_list, nameL_more _ _ _ _ hne, ← nameB_list, htg, hm]; rfl)
  have HWD := hid hwd
  have HTG := hid htg
  clear hwd htg hne hm hu
  go_enter Try.func8, Try.ntmps8
  go_wp2_with fail
  refine (isWord_is s HS.out _ HWD.out _).mono ?_
  rintro e w1 ⟨rfl, h1⟩
  go_wp2_with fail
  refine (isTag_is s HS.out _ HTG.out _).mono ?_
  rintro e w2 ⟨rfl, h2⟩
  go_wp2_with fail
  refine (isWord_is _ HSZ.out _ HW2.out _).mono ?_
  rintro e w3 ⟨rfl, h3⟩
  go_wp2_with fail
  refine (isTag_is _ HSZ.out _ HT2.out _).mono ?_
  rintro e w4 ⟨rfl, h4⟩
  go_wp2_with fail
  refine (alive_any _).mono ?_
  rintro e w5 ⟨rfl, h5⟩
  go_wp2
  all_goals go_ret
  all_goals refine ⟨ret_bool ?_, up (up (up (up (up ((Below.refl _ _).alloc (Nat.le_refl _) _) h1 (by simp)) h2 (by simp)) h3 (by simp)) h4 (by simp)) h5 (by simp)⟩
  all_goals first | rfl | (simp; done) | (simp; omega)

set_option maxHeartbeats 2000000 in
set_option maxRecDepth 100000 in
theorem more_0_01 (s : ByteArray) (c : Int) (hs0 : 0 < s.size) (hs1 : s.size ≤ 2000) (hl : 0 ≤ c) (hh : c ≤ 47) (hwd : nameB 97 122 s = false) (htg : nameB 65 90 s = true) (w : World) :
    Calls Try.prog 8 #[.string s, .int .u8 c] w fun e w' => e = .returned (.bool true) ∧ Below w.heap.size w w' := by
  have h0 : 0 ≤ c := by omega
  have h255 : c < 256 := by omega
  have h95 : (c == 95) = false := by simp; omega
  have hu : ((c.toNat.toUInt8).toNat : Int) = c := by simp; omega
  have hcv : (convert 32 9 (.slice (some ⟨w.heap.size, 0, none⟩) 1 1)).run Try.prog (w.alloc (.cells #[.int .u8 c] 5)) = _ :=
    one_byte _ w.heap.size c h0 h255 (by simp [go_sem])
  have hsz : (s ++ ⟨#[c.toNat.toUInt8]⟩ : ByteArray).size ≤ 2000000 := by rw [ByteArray.size_append]; show s.size + 1 ≤ 2000000; omega
  have HSZ := hid hsz
  have HS : Hid (s.size ≤ 2000000) := hid (by omega)
  clear hsz
  have hne : s.data.toList ≠ [] := by intro h; have e : s.data.toList.length = s.size := (by simp); rw [h] at e; simp at e; omega
  have hm : behB (((c.toNat.toUInt8).toNat : Nat) : Int) = false := by rw [hu]; simp [behB, inB]; try omega
  have HW2 : Hid (nameB 97 122 (s ++ ⟨#[c.toNat.toUInt8]⟩) = false) := hid (by rw [nameB_list, more_list, nameL_more _ _ _ _ hne, ← nameB_list, hwd, hm]; rfl)
  have HT2 : Hid (nameB 65 90 (s ++ ⟨#[c.toNat.toUInt8]⟩) = false) := hid (by rw [nameB_list, more_list, nameL_more _ _ _ _ hne, ← nameB_list, htg, hm]; rfl)
  have HWD := hid hwd
  have HTG := hid htg
  clear hwd htg hne hm hu
  go_enter Try.func8, Try.ntmps8
  go_wp2_with fail
  refine (isWord_is s HS.out _ HWD.out _).mono ?_
  rintro e w1 ⟨rfl, h1⟩
  go_wp2_with fail
  refine (isTag_is s HS.out _ HTG.out _).mono ?_
  rintro e w2 ⟨rfl, h2⟩
  go_wp2_with fail
  refine (isWord_is _ HSZ.out _ HW2.out _).mono ?_
  rintro e w3 ⟨rfl, h3⟩
  go_wp2_with fail
  refine (isTag_is _ HSZ.out _ HT2.out _).mono ?_
  rintro e w4 ⟨rfl, h4⟩
  go_wp2_with fail
  refine (alive_any _).mono ?_
  rintro e w5 ⟨rfl, h5⟩
  go_wp2
  all_goals go_ret
  all_goals refine ⟨ret_bool ?_, up (up (up (up (up ((Below.refl _ _).alloc (Nat.le_refl _) _) h1 (by simp)) h2 (by simp)) h3 (by simp)) h4 (by simp)) h5 (by simp)⟩
  all_goals first | rfl | (simp; done) | (simp; omega)

set_option maxHeartbeats 2000000 in
set_option maxRecDepth 100000 in
theorem more_0_00 (s : ByteArray) (c : Int) (hs0 : 0 < s.size) (hs1 : s.size ≤ 2000) (hl : 0 ≤ c) (hh : c ≤ 47) (hwd : nameB 97 122 s = false) (htg : nameB 65 90 s = false) (w : World) :
    Calls Try.prog 8 #[.string s, .int .u8 c] w fun e w' => e = .returned (.bool true) ∧ Below w.heap.size w w' := by
  have h0 : 0 ≤ c := by omega
  have h255 : c < 256 := by omega
  have h95 : (c == 95) = false := by simp; omega
  have hu : ((c.toNat.toUInt8).toNat : Int) = c := by simp; omega
  have hcv : (convert 32 9 (.slice (some ⟨w.heap.size, 0, none⟩) 1 1)).run Try.prog (w.alloc (.cells #[.int .u8 c] 5)) = _ :=
    one_byte _ w.heap.size c h0 h255 (by simp [go_sem])
  have hsz : (s ++ ⟨#[c.toNat.toUInt8]⟩ : ByteArray).size ≤ 2000000 := by rw [ByteArray.size_append]; show s.size + 1 ≤ 2000000; omega
  have HSZ := hid hsz
  have HS : Hid (s.size ≤ 2000000) := hid (by omega)
  clear hsz
  have hne : s.data.toList ≠ [] := by intro h; have e : s.data.toList.length = s.size := (by simp); rw [h] at e; simp at e; omega
  have hm : behB (((c.toNat.toUInt8).toNat : Nat) : Int) = false := by rw [hu]; simp [behB, inB]; try omega
  have HW2 : Hid (nameB 97 122 (s ++ ⟨#[c.toNat.toUInt8]⟩) = false) := hid (by rw [nameB_list, more_list, nameL_more _ _ _ _ hne, ← nameB_list, hwd, hm]; rfl)
  have HT2 : Hid (nameB 65 90 (s ++ ⟨#[c.toNat.toUInt8]⟩) = false) := hid (by rw [nameB_list, more_list, nameL_more _ _ _ _ hne, ← nameB_list, htg, hm]; rfl)
  have HWD := hid hwd
  have HTG := hid htg
  clear hwd htg hne hm hu
  go_enter Try.func8, Try.ntmps8
  go_wp2_with fail
  refine (isWord_is s HS.out _ HWD.out _).mono ?_
  rintro e w1 ⟨rfl, h1⟩
  go_wp2_with fail
  refine (isTag_is s HS.out _ HTG.out _).mono ?_
  rintro e w2 ⟨rfl, h2⟩
  go_wp2_with fail
  refine (isWord_is _ HSZ.out _ HW2.out _).mono ?_
  rintro e w3 ⟨rfl, h3⟩
  go_wp2_with fail
  refine (isTag_is _ HSZ.out _ HT2.out _).mono ?_
  rintro e w4 ⟨rfl, h4⟩
  go_wp2_with fail
  refine (alive_any _).mono ?_
  rintro e w5 ⟨rfl, h5⟩
  go_wp2
  all_goals go_ret
  all_goals refine ⟨ret_bool ?_, up (up (up (up (up ((Below.refl _ _).alloc (Nat.le_refl _) _) h1 (by simp)) h2 (by simp)) h3 (by simp)) h4 (by simp)) h5 (by simp)⟩
  all_goals first | rfl | (simp; done) | (simp; omega)

set_option maxHeartbeats 2000000 in
set_option maxRecDepth 100000 in
theorem more_0_e (s : ByteArray) (c : Int) (hs0 : s.size = 0) (hl : 0 ≤ c) (hh : c ≤ 47) (w : World) :
    Calls Try.prog 8 #[.string s, .int .u8 c] w fun e w' => e = .returned (.bool true) ∧ Below w.heap.size w w' := by
  have hse : s = ⟨#[]⟩ := by
    apply ByteArray.ext
    apply Array.eq_empty_of_size_eq_zero
    exact hs0
  subst hse
  clear hs0
  obtain ⟨s, hse⟩ : ∃ s : ByteArray, s = ⟨#[]⟩ := ⟨_, rfl⟩
  have hs0 : s.size ≤ 0 := by rw [hse]; decide
  rw [← hse]
  have h0 : 0 ≤ c := by omega
  have h255 : c < 256 := by omega
  have h95 : (c == 95) = false := by simp; omega
  have hu : ((c.toNat.toUInt8).toNat : Int) = c := by simp; omega
  have hcv : (convert 32 9 (.slice (some ⟨w.heap.size, 0, none⟩) 1 1)).run Try.prog (w.alloc (.cells #[.int .u8 c] 5)) = _ :=
    one_byte _ w.heap.size c h0 h255 (by simp [go_sem])
  have hsz : (s ++ ⟨#[c.toNat.toUInt8]⟩ : ByteArray).size ≤ 2000000 := by rw [ByteArray.size_append]; show s.size + 1 ≤ 2000000; omega
  have HSZ := hid hsz
  have HS : Hid (s.size ≤ 2000000) := hid (by omega)
  clear hsz
  have hnil : s.data.toList = [] := by rw [hse]
  have HWD : Hid (nameB 97 122 s = false) := hid (by rw [nameB_list, hnil]; rfl)
  have HTG : Hid (nameB 65 90 s = false) := hid (by rw [nameB_list, hnil]; rfl)
  have HW2 : Hid (nameB 97 122 (s ++ ⟨#[c.toNat.toUInt8]⟩) = false) := hid (by rw [nameB_list, more_list, hnil, List.nil_append, nameL_one, hu]; simp [inB]; try omega)
  have HT2 : Hid (nameB 65 90 (s ++ ⟨#[c.toNat.toUInt8]⟩) = false) := hid (by rw [nameB_list, more_list, hnil, List.nil_append, nameL_one, hu]; simp [inB]; try omega)
  clear hnil hu hse
  go_enter Try.func8, Try.ntmps8
  go_wp2_with fail
  refine (isWord_is s HS.out _ HWD.out _).mono ?_
  rintro e w1 ⟨rfl, h1⟩
  go_wp2_with fail
  refine (isTag_is s HS.out _ HTG.out _).mono ?_
  rintro e w2 ⟨rfl, h2⟩
  go_wp2_with fail
  refine (alive_any _).mono ?_
  rintro e w3 ⟨rfl, h3⟩
  go_wp2_with fail
  refine (isWord_is _ HSZ.out _ HW2.out _).mono ?_
  rintro e w4 ⟨rfl, h4⟩
  go_wp2_with fail
  refine (isTag_is _ HSZ.out _ HT2.out _).mono ?_
  rintro e w5 ⟨rfl, h5⟩
  go_wp2
  all_goals go_ret
  all_goals refine ⟨ret_bool ?_, up (up (up (up (up ((Below.refl _ _).alloc (Nat.le_refl _) _) h1 (by simp)) h2 (by simp)) h3 (by simp)) h4 (by simp)) h5 (by simp)⟩
  all_goals first | rfl | (simp; done) | (simp; omega)

set_option maxHeartbeats 2000000 in
set_option maxRecDepth 100000 in
theorem more_1_10 (s : ByteArray) (c : Int) (hs0 : 0 < s.size) (hs1 : s.size ≤ 2000) (hl : 48 ≤ c) (hh : c ≤ 57) (hwd : nameB 97 122 s = true) (htg : nameB 65 90 s = false) (w : World) :
    Calls Try.prog 8 #[.string s, .int .u8 c] w fun e w' => e = .returned (.bool true) ∧ Below w.heap.size w w' := by
  have h0 : 0 ≤ c := by omega
  have h255 : c < 256 := by omega
  have h95 : (c == 95) = false := by simp; omega
  have hu : ((c.toNat.toUInt8).toNat : Int) = c := by simp; omega
  have hcv : (convert 32 9 (.slice (some ⟨w.heap.size, 0, none⟩) 1 1)).run Try.prog (w.alloc (.cells #[.int .u8 c] 5)) = _ :=
    one_byte _ w.heap.size c h0 h255 (by simp [go_sem])
  have hsz : (s ++ ⟨#[c.toNat.toUInt8]⟩ : ByteArray).size ≤ 2000000 := by rw [ByteArray.size_append]; show s.size + 1 ≤ 2000000; omega
  have HSZ := hid hsz
  have HS : Hid (s.size ≤ 2000000) := hid (by omega)
  clear hsz
  have hne : s.data.toList ≠ [] := by intro h; have e : s.data.toList.length = s.size := (by simp); rw [h] at e; simp at e; omega
  have hm : behB (((c.toNat.toUInt8).toNat : Nat) : Int) = true := by rw [hu]; simp [behB, inB]; try omega
  have HW2 : Hid (nameB 97 122 (s ++ ⟨#[c.toNat.toUInt8]⟩) = true) := hid (by rw [nameB_list, more_list, nameL_more _ _ _ _ hne, ← nameB_list, hwd, hm]; rfl)
  have HT2 : Hid (nameB 65 90 (s ++ ⟨#[c.toNat.toUInt8]⟩) = false) := hid (by rw [nameB_list, more_list, nameL_more _ _ _ _ hne, ← nameB_list, htg, hm]; rfl)
  have HWD := hid hwd
  have HTG := hid htg
  clear hwd htg hne hm hu
  go_enter Try.func8, Try.ntmps8
  go_wp2_with fail
  refine (isWord_is s HS.out _ HWD.out _).mono ?_
  rintro e w1 ⟨rfl, h1⟩
  go_wp2_with fail
  refine (isTag_is s HS.out _ HTG.out _).mono ?_
  rintro e w2 ⟨rfl, h2⟩
  go_wp2_with fail
  refine (isWord_is _ HSZ.out _ HW2.out _).mono ?_
  rintro e w3 ⟨rfl, h3⟩
  go_wp2_with fail
  refine (isTag_is _ HSZ.out _ HT2.out _).mono ?_
  rintro e w4 ⟨rfl, h4⟩
  go_wp2_with fail
  refine (alive_any _).mono ?_
  rintro e w5 ⟨rfl, h5⟩
  go_wp2
  all_goals go_ret
  all_goals refine ⟨ret_bool ?_, up (up (up (up (up ((Below.refl _ _).alloc (Nat.le_refl _) _) h1 (by simp)) h2 (by simp)) h3 (by simp)) h4 (by simp)) h5 (by simp)⟩
  all_goals first | rfl | (simp; done) | (simp; omega)

set_option maxHeartbeats 2000000 in
set_option maxRecDepth 100000 in
theorem more_1_01 (s : ByteArray) (c : Int) (hs0 : 0 < s.size) (hs1 : s.size ≤ 2000) (hl : 48 ≤ c) (hh : c ≤ 57) (hwd : nameB 97 122 s = false) (htg : nameB 65 90 s = true) (w : World) :
    Calls Try.prog 8 #[.string s, .int .u8 c] w fun e w' => e = .returned (.bool true) ∧ Below w.heap.size w w' := by
  have h0 : 0 ≤ c := by omega
  have h255 : c < 256 := by omega
  have h95 : (c == 95) = false := by simp; omega
  have hu : ((c.toNat.toUInt8).toNat : Int) = c := by simp; omega
  have hcv : (convert 32 9 (.slice (some ⟨w.heap.size, 0, none⟩) 1 1)).run Try.prog (w.alloc (.cells #[.int .u8 c] 5)) = _ :=
    one_byte _ w.heap.size c h0 h255 (by simp [go_sem])
  have hsz : (s ++ ⟨#[c.toNat.toUInt8]⟩ : ByteArray).size ≤ 2000000 := by rw [ByteArray.size_append]; show s.size + 1 ≤ 2000000; omega
  have HSZ := hid hsz
  have HS : Hid (s.size ≤ 2000000) := hid (by omega)
  clear hsz
  have hne : s.data.toList ≠ [] := by intro h; have e : s.data.toList.length = s.size := (by simp); rw [h] at e; simp at e; omega
  have hm : behB (((c.toNat.toUInt8).toNat : Nat) : Int) = true := by rw [hu]; simp [behB, inB]; try omega
  have HW2 : Hid (nameB 97 122 (s ++ ⟨#[c.toNat.toUInt8]⟩) = false) := hid (by rw [nameB_list, more_list, nameL_more _ _ _ _ hne, ← nameB_list, hwd, hm]; rfl)
  have HT2 : Hid (nameB 65 90 (s ++ ⟨#[c.toNat.toUInt8]⟩) = true) := hid (by rw [nameB_list, more_list, nameL_more _ _ _ _ hne, ← nameB_list, htg, hm]; rfl)
  have HWD := hid hwd
  have HTG := hid htg
  clear hwd htg hne hm hu
  go_enter Try.func8, Try.ntmps8
  go_wp2_with fail
  refine (isWord_is s HS.out _ HWD.out _).mono ?_
  rintro e w1 ⟨rfl, h1⟩
  go_wp2_with fail
  refine (isTag_is s HS.out _ HTG.out _).mono ?_
  rintro e w2 ⟨rfl, h2⟩
  go_wp2_with fail
  refine (isWord_is _ HSZ.out _ HW2.out _).mono ?_
  rintro e w3 ⟨rfl, h3⟩
  go_wp2_with fail
  refine (isTag_is _ HSZ.out _ HT2.out _).mono ?_
  rintro e w4 ⟨rfl, h4⟩
  go_wp2_with fail
  refine (alive_any _).mono ?_
  rintro e w5 ⟨rfl, h5⟩
  go_wp2
  all_goals go_ret
  all_goals refine ⟨ret_bool ?_, up (up (up (up (up ((Below.refl _ _).alloc (Nat.le_refl _) _) h1 (by simp)) h2 (by simp)) h3 (by simp)) h4 (by simp)) h5 (by simp)⟩
  all_goals first | rfl | (simp; done) | (simp; omega)

set_option maxHeartbeats 2000000 in
set_option maxRecDepth 100000 in
theorem more_1_00 (s : ByteArray) (c : Int) (hs0 : 0 < s.size) (hs1 : s.size ≤ 2000) (hl : 48 ≤ c) (hh : c ≤ 57) (hwd : nameB 97 122 s = false) (htg : nameB 65 90 s = false) (w : World) :
    Calls Try.prog 8 #[.string s, .int .u8 c] w fun e w' => e = .returned (.bool true) ∧ Below w.heap.size w w' := by
  have h0 : 0 ≤ c := by omega
  have h255 : c < 256 := by omega
  have h95 : (c == 95) = false := by simp; omega
  have hu : ((c.toNat.toUInt8).toNat : Int) = c := by simp; omega
  have hcv : (convert 32 9 (.slice (some ⟨w.heap.size, 0, none⟩) 1 1)).run Try.prog (w.alloc (.cells #[.int .u8 c] 5)) = _ :=
    one_byte _ w.heap.size c h0 h255 (by simp [go_sem])
  have hsz : (s ++ ⟨#[c.toNat.toUInt8]⟩ : ByteArray).size ≤ 2000000 := by rw [ByteArray.size_append]; show s.size + 1 ≤ 2000000; omega
  have HSZ := hid hsz
  have HS : Hid (s.size ≤ 2000000) := hid (by omega)
  clear hsz
  have hne : s.data.toList ≠ [] := by intro h; have e : s.data.toList.length = s.size := (by simp); rw [h] at e; simp at e; omega
  have hm : behB (((c.toNat.toUInt8).toNat : Nat) : Int) = true := by rw [hu]; simp [behB, inB]; try omega
  have HW2 : Hid (nameB 97 122 (s ++ ⟨#[c.toNat.toUInt8]⟩) = false) := hid (by rw [nameB_list, more_list, nameL_more _ _ _ _ hne, ← nameB_list, hwd, hm]; rfl)
  have HT2 : Hid (nameB 65 90 (s ++ ⟨#[c.toNat.toUInt8]⟩) = false) := hid (by rw [nameB_list, more_list, nameL_more _ _ _ _ hne, ← nameB_list, htg, hm]; rfl)
  have HWD := hid hwd
  have HTG := hid htg
  clear hwd htg hne hm hu
  go_enter Try.func8, Try.ntmps8
  go_wp2_with fail
  refine (isWord_is s HS.out _ HWD.out _).mono ?_
  rintro e w1 ⟨rfl, h1⟩
  go_wp2_with fail
  refine (isTag_is s HS.out _ HTG.out _).mono ?_
  rintro e w2 ⟨rfl, h2⟩
  go_wp2_with fail
  refine (isWord_is _ HSZ.out _ HW2.out _).mono ?_
  rintro e w3 ⟨rfl, h3⟩
  go_wp2_with fail
  refine (isTag_is _ HSZ.out _ HT2.out _).mono ?_
  rintro e w4 ⟨rfl, h4⟩
  go_wp2_with fail
  refine (alive_any _).mono ?_
  rintro e w5 ⟨rfl, h5⟩
  go_wp2
  all_goals go_ret
  all_goals refine ⟨ret_bool ?_, up (up (up (up (up ((Below.refl _ _).alloc (Nat.le_refl _) _) h1 (by simp)) h2 (by simp)) h3 (by simp)) h4 (by simp)) h5 (by simp)⟩
  all_goals first | rfl | (simp; done) | (simp; omega)

set_option maxHeartbeats 2000000 in
set_option maxRecDepth 100000 in
theorem more_1_e (s : ByteArray) (c : Int) (hs0 : s.size = 0) (hl : 48 ≤ c) (hh : c ≤ 57) (w : World) :
    Calls Try.prog 8 #[.string s, .int .u8 c] w fun e w' => e = .returned (.bool true) ∧ Below w.heap.size w w' := by
  have hse : s = ⟨#[]⟩ := by
    apply ByteArray.ext
    apply Array.eq_empty_of_size_eq_zero
    exact hs0
  subst hse
  clear hs0
  obtain ⟨s, hse⟩ : ∃ s : ByteArray, s = ⟨#[]⟩ := ⟨_, rfl⟩
  have hs0 : s.size ≤ 0 := by rw [hse]; decide
  rw [← hse]
  have h0 : 0 ≤ c := by omega
  have h255 : c < 256 := by omega
  have h95 : (c == 95) = false := by simp; omega
  have hu : ((c.toNat.toUInt8).toNat : Int) = c := by simp; omega
  have hcv : (convert 32 9 (.slice (some ⟨w.heap.size, 0, none⟩) 1 1)).run Try.prog (w.alloc (.cells #[.int .u8 c] 5)) = _ :=
    one_byte _ w.heap.size c h0 h255 (by simp [go_sem])
  have hsz : (s ++ ⟨#[c.toNat.toUInt8]⟩ : ByteArray).size ≤ 2000000 := by rw [ByteArray.size_append]; show s.size + 1 ≤ 2000000; omega
  have HSZ := hid hsz
  have HS : Hid (s.size ≤ 2000000) := hid (by omega)
  clear hsz
  have hnil : s.data.toList = [] := by rw [hse]
  have HWD : Hid (nameB 97 122 s = false) := hid (by rw [nameB_list, hnil]; rfl)
  have HTG : Hid (nameB 65 90 s = false) := hid (by rw [nameB_list, hnil]; rfl)
  have HW2 : Hid (nameB 97 122 (s ++ ⟨#[c.toNat.toUInt8]⟩) = false) := hid (by rw [nameB_list, more_list, hnil, List.nil_append, nameL_one, hu]; simp [inB]; try omega)
  have HT2 : Hid (nameB 65 90 (s ++ ⟨#[c.toNat.toUInt8]⟩) = false) := hid (by rw [nameB_list, more_list, hnil, List.nil_append, nameL_one, hu]; simp [inB]; try omega)
  clear hnil hu hse
  go_enter Try.func8, Try.ntmps8
  go_wp2_with fail
  refine (isWord_is s HS.out _ HWD.out _).mono ?_
  rintro e w1 ⟨rfl, h1⟩
  go_wp2_with fail
  refine (isTag_is s HS.out _ HTG.out _).mono ?_
  rintro e w2 ⟨rfl, h2⟩
  go_wp2_with fail
  refine (alive_any _).mono ?_
  rintro e w3 ⟨rfl, h3⟩
  go_wp2_with fail
  refine (isWord_is _ HSZ.out _ HW2.out _).mono ?_
  rintro e w4 ⟨rfl, h4⟩
  go_wp2_with fail
  refine (isTag_is _ HSZ.out _ HT2.out _).mono ?_
  rintro e w5 ⟨rfl, h5⟩
  go_wp2
  all_goals go_ret
  all_goals refine ⟨ret_bool ?_, up (up (up (up (up ((Below.refl _ _).alloc (Nat.le_refl _) _) h1 (by simp)) h2 (by simp)) h3 (by simp)) h4 (by simp)) h5 (by simp)⟩
  all_goals first | rfl | (simp; done) | (simp; omega)

set_option maxHeartbeats 2000000 in
set_option maxRecDepth 100000 in
theorem more_2_10 (s : ByteArray) (c : Int) (hs0 : 0 < s.size) (hs1 : s.size ≤ 2000) (hl : 58 ≤ c) (hh : c ≤ 64) (hwd : nameB 97 122 s = true) (htg : nameB 65 90 s = false) (w : World) :
    Calls Try.prog 8 #[.string s, .int .u8 c] w fun e w' => e = .returned (.bool true) ∧ Below w.heap.size w w' := by
  have h0 : 0 ≤ c := by omega
  have h255 : c < 256 := by omega
  have h95 : (c == 95) = false := by simp; omega
  have hu : ((c.toNat.toUInt8).toNat : Int) = c := by simp; omega
  have hcv : (convert 32 9 (.slice (some ⟨w.heap.size, 0, none⟩) 1 1)).run Try.prog (w.alloc (.cells #[.int .u8 c] 5)) = _ :=
    one_byte _ w.heap.size c h0 h255 (by simp [go_sem])
  have hsz : (s ++ ⟨#[c.toNat.toUInt8]⟩ : ByteArray).size ≤ 2000000 := by rw [ByteArray.size_append]; show s.size + 1 ≤ 2000000; omega
  have HSZ := hid hsz
  have HS : Hid (s.size ≤ 2000000) := hid (by omega)
  clear hsz
  have hne : s.data.toList ≠ [] := by intro h; have e : s.data.toList.length = s.size := (by simp); rw [h] at e; simp at e; omega
  have hm : behB (((c.toNat.toUInt8).toNat : Nat) : Int) = false := by rw [hu]; simp [behB, inB]; try omega
  have HW2 : Hid (nameB 97 122 (s ++ ⟨#[c.toNat.toUInt8]⟩) = false) := hid (by rw [nameB_list, more_list, nameL_more _ _ _ _ hne, ← nameB_list, hwd, hm]; rfl)
  have HT2 : Hid (nameB 65 90 (s ++ ⟨#[c.toNat.toUInt8]⟩) = false) := hid (by rw [nameB_list, more_list, nameL_more _ _ _ _ hne, ← nameB_list, htg, hm]; rfl)
  have HWD := hid hwd
  have HTG := hid htg
  clear hwd htg hne hm hu
  go_enter Try.func8, Try.ntmps8
  go_wp2_with fail
  refine (isWord_is s HS.out _ HWD.out _).mono ?_
  rintro e w1 ⟨rfl, h1⟩
  go_wp2_with fail
  refine (isTag_is s HS.out _ HTG.out _).mono ?_
  rintro e w2 ⟨rfl, h2⟩
  go_wp2_with fail
  refine (isWord_is _ HSZ.out _ HW2.out _).mono ?_
  rintro e w3 ⟨rfl, h3⟩
  go_wp2_with fail
  refine (isTag_is _ HSZ.out _ HT2.out _).mono ?_
  rintro e w4 ⟨rfl, h4⟩
  go_wp2_with fail
  refine (alive_any _).mono ?_
  rintro e w5 ⟨rfl, h5⟩
  go_wp2
  all_goals go_ret
  all_goals refine ⟨ret_bool ?_, up (up (up (up (up ((Below.refl _ _).alloc (Nat.le_refl _) _) h1 (by simp)) h2 (by simp)) h3 (by simp)) h4 (by simp)) h5 (by simp)⟩
  all_goals first | rfl | (simp; done) | (simp; omega)

set_option maxHeartbeats 2000000 in
set_option maxRecDepth 100000 in
theorem more_2_01 (s : ByteArray) (c : Int) (hs0 : 0 < s.size) (hs1 : s.size ≤ 2000) (hl : 58 ≤ c) (hh : c ≤ 64) (hwd : nameB 97 122 s = false) (htg : nameB 65 90 s = true) (w : World) :
    Calls Try.prog 8 #[.string s, .int .u8 c] w fun e w' => e = .returned (.bool true) ∧ Below w.heap.size w w' := by
  have h0 : 0 ≤ c := by omega
  have h255 : c < 256 := by omega
  have h95 : (c == 95) = false := by simp; omega
  have hu : ((c.toNat.toUInt8).toNat : Int) = c := by simp; omega
  have hcv : (convert 32 9 (.slice (some ⟨w.heap.size, 0, none⟩) 1 1)).run Try.prog (w.alloc (.cells #[.int .u8 c] 5)) = _ :=
    one_byte _ w.heap.size c h0 h255 (by simp [go_sem])
  have hsz : (s ++ ⟨#[c.toNat.toUInt8]⟩ : ByteArray).size ≤ 2000000 := by rw [ByteArray.size_append]; show s.size + 1 ≤ 2000000; omega
  have HSZ := hid hsz
  have HS : Hid (s.size ≤ 2000000) := hid (by omega)
  clear hsz
  have hne : s.data.toList ≠ [] := by intro h; have e : s.data.toList.length = s.size := (by simp); rw [h] at e; simp at e; omega
  have hm : behB (((c.toNat.toUInt8).toNat : Nat) : Int) = false := by rw [hu]; simp [behB, inB]; try omega
  have HW2 : Hid (nameB 97 122 (s ++ ⟨#[c.toNat.toUInt8]⟩) = false) := hid (by rw [nameB_list, more_list, nameL_more _ _ _ _ hne, ← nameB_list, hwd, hm]; rfl)
  have HT2 : Hid (nameB 65 90 (s ++ ⟨#[c.toNat.toUInt8]⟩) = false) := hid (by rw [nameB_list, more_list, nameL_more _ _ _ _ hne, ← nameB_list, htg, hm]; rfl)
  have HWD := hid hwd
  have HTG := hid htg
  clear hwd htg hne hm hu
  go_enter Try.func8, Try.ntmps8
  go_wp2_with fail
  refine (isWord_is s HS.out _ HWD.out _).mono ?_
  rintro e w1 ⟨rfl, h1⟩
  go_wp2_with fail
  refine (isTag_is s HS.out _ HTG.out _).mono ?_
  rintro e w2 ⟨rfl, h2⟩
  go_wp2_with fail
  refine (isWord_is _ HSZ.out _ HW2.out _).mono ?_
  rintro e w3 ⟨rfl, h3⟩
  go_wp2_with fail
  refine (isTag_is _ HSZ.out _ HT2.out _).mono ?_
  rintro e w4 ⟨rfl, h4⟩
  go_wp2_with fail
  refine (alive_any _).mono ?_
  rintro e w5 ⟨rfl, h5⟩
  go_wp2
  all_goals go_ret
  all_goals refine ⟨ret_bool ?_, up (up (up (up (up ((Below.refl _ _).alloc (Nat.le_refl _) _) h1 (by simp)) h2 (by simp)) h3 (by simp)) h4 (by simp)) h5 (by simp)⟩
  all_goals first | rfl | (simp; done) | (simp; omega)

set_option maxHeartbeats 2000000 in
set_option maxRecDepth 100000 in
theorem more_2_00 (s : ByteArray) (c : Int) (hs0 : 0 < s.size) (hs1 : s.size ≤ 2000) (hl : 58 ≤ c) (hh : c ≤ 64) (hwd : nameB 97 122 s = false) (htg : nameB 65 90 s = false) (w : World) :
    Calls Try.prog 8 #[.string s, .int .u8 c] w fun e w' => e = .returned (.bool true) ∧ Below w.heap.size w w' := by
  have h0 : 0 ≤ c := by omega
  have h255 : c < 256 := by omega
  have h95 : (c == 95) = false := by simp; omega
  have hu : ((c.toNat.toUInt8).toNat : Int) = c := by simp; omega
  have hcv : (convert 32 9 (.slice (some ⟨w.heap.size, 0, none⟩) 1 1)).run Try.prog (w.alloc (.cells #[.int .u8 c] 5)) = _ :=
    one_byte _ w.heap.size c h0 h255 (by simp [go_sem])
  have hsz : (s ++ ⟨#[c.toNat.toUInt8]⟩ : ByteArray).size ≤ 2000000 := by rw [ByteArray.size_append]; show s.size + 1 ≤ 2000000; omega
  have HSZ := hid hsz
  have HS : Hid (s.size ≤ 2000000) := hid (by omega)
  clear hsz
  have hne : s.data.toList ≠ [] := by intro h; have e : s.data.toList.length = s.size := (by simp); rw [h] at e; simp at e; omega
  have hm : behB (((c.toNat.toUInt8).toNat : Nat) : Int) = false := by rw [hu]; simp [behB, inB]; try omega
  have HW2 : Hid (nameB 97 122 (s ++ ⟨#[c.toNat.toUInt8]⟩) = false) := hid (by rw [nameB_list, more_list, nameL_more _ _ _ _ hne, ← nameB_list, hwd, hm]; rfl)
  have HT2 : Hid (nameB 65 90 (s ++ ⟨#[c.toNat.toUInt8]⟩) = false) := hid (by rw [nameB_list, more_list, nameL_more _ _ _ _ hne, ← nameB_list, htg, hm]; rfl)
  have HWD := hid hwd
  have HTG := hid htg
  clear hwd htg hne hm hu
  go_enter Try.func8, Try.ntmps8
  go_wp2_with fail
  refine (isWord_is s HS.out _ HWD.out _).mono ?_
  rintro e w1 ⟨rfl, h1⟩
  go_wp2_with fail
  refine (isTag_is s HS.out _ HTG.out _).mono ?_
  rintro e w2 ⟨rfl, h2⟩
  go_wp2_with fail
  refine (isWord_is _ HSZ.out _ HW2.out _).mono ?_
  rintro e w3 ⟨rfl, h3⟩
  go_wp2_with fail
  refine (isTag_is _ HSZ.out _ HT2.out _).mono ?_
  rintro e w4 ⟨rfl, h4⟩
  go_wp2_with fail
  refine (alive_any _).mono ?_
  rintro e w5 ⟨rfl, h5⟩
  go_wp2
  all_goals go_ret
  all_goals refine ⟨ret_bool ?_, up (up (up (up (up ((Below.refl _ _).alloc (Nat.le_refl _) _) h1 (by simp)) h2 (by simp)) h3 (by simp)) h4 (by simp)) h5 (by simp)⟩
  all_goals first | rfl | (simp; done) | (simp; omega)

set_option maxHeartbeats 2000000 in
set_option maxRecDepth 100000 in
theorem more_2_e (s : ByteArray) (c : Int) (hs0 : s.size = 0) (hl : 58 ≤ c) (hh : c ≤ 64) (w : World) :
    Calls Try.prog 8 #[.string s, .int .u8 c] w fun e w' => e = .returned (.bool true) ∧ Below w.heap.size w w' := by
  have hse : s = ⟨#[]⟩ := by
    apply ByteArray.ext
    apply Array.eq_empty_of_size_eq_zero
    exact hs0
  subst hse
  clear hs0
  obtain ⟨s, hse⟩ : ∃ s : ByteArray, s = ⟨#[]⟩ := ⟨_, rfl⟩
  have hs0 : s.size ≤ 0 := by rw [hse]; decide
  rw [← hse]
  have h0 : 0 ≤ c := by omega
  have h255 : c < 256 := by omega
  have h95 : (c == 95) = false := by simp; omega
  have hu : ((c.toNat.toUInt8).toNat : Int) = c := by simp; omega
  have hcv : (convert 32 9 (.slice (some ⟨w.heap.size, 0, none⟩) 1 1)).run Try.prog (w.alloc (.cells #[.int .u8 c] 5)) = _ :=
    one_byte _ w.heap.size c h0 h255 (by simp [go_sem])
  have hsz : (s ++ ⟨#[c.toNat.toUInt8]⟩ : ByteArray).size ≤ 2000000 := by rw [ByteArray.size_append]; show s.size + 1 ≤ 2000000; omega
  have HSZ := hid hsz
  have HS : Hid (s.size ≤ 2000000) := hid (by omega)
  clear hsz
  have hnil : s.data.toList = [] := by rw [hse]
  have HWD : Hid (nameB 97 122 s = false) := hid (by rw [nameB_list, hnil]; rfl)
  have HTG : Hid (nameB 65 90 s = false) := hid (by rw [nameB_list, hnil]; rfl)
  have HW2 : Hid (nameB 97 122 (s ++ ⟨#[c.toNat.toUInt8]⟩) = false) := hid (by rw [nameB_list, more_list, hnil, List.nil_append, nameL_one, hu]; simp [inB]; try omega)
  have HT2 : Hid (nameB 65 90 (s ++ ⟨#[c.toNat.toUInt8]⟩) = false) := hid (by rw [nameB_list, more_list, hnil, List.nil_append, nameL_one, hu]; simp [inB]; try omega)
  clear hnil hu hse
  go_enter Try.func8, Try.ntmps8
  go_wp2_with fail
  refine (isWord_is s HS.out _ HWD.out _).mono ?_
  rintro e w1 ⟨rfl, h1⟩
  go_wp2_with fail
  refine (isTag_is s HS.out _ HTG.out _).mono ?_
  rintro e w2 ⟨rfl, h2⟩
  go_wp2_with fail
  refine (alive_any _).mono ?_
  rintro e w3 ⟨rfl, h3⟩
  go_wp2_with fail
  refine (isWord_is _ HSZ.out _ HW2.out _).mono ?_
  rintro e w4 ⟨rfl, h4⟩
  go_wp2_with fail
  refine (isTag_is _ HSZ.out _ HT2.out _).mono ?_
  rintro e w5 ⟨rfl, h5⟩
  go_wp2
  all_goals go_ret
  all_goals refine ⟨ret_bool ?_, up (up (up (up (up ((Below.refl _ _).alloc (Nat.le_refl _) _) h1 (by simp)) h2 (by simp)) h3 (by simp)) h4 (by simp)) h5 (by simp)⟩
  all_goals first | rfl | (simp; done) | (simp; omega)

set_option maxHeartbeats 2000000 in
set_option maxRecDepth 100000 in
theorem more_3_10 (s : ByteArray) (c : Int) (hs0 : 0 < s.size) (hs1 : s.size ≤ 2000) (hl : 65 ≤ c) (hh : c ≤ 90) (hwd : nameB 97 122 s = true) (htg : nameB 65 90 s = false) (w : World) :
    Calls Try.prog 8 #[.string s, .int .u8 c] w fun e w' => e = .returned (.bool true) ∧ Below w.heap.size w w' := by
  have h0 : 0 ≤ c := by omega
  have h255 : c < 256 := by omega
  have h95 : (c == 95) = false := by simp; omega
  have hu : ((c.toNat.toUInt8).toNat : Int) = c := by simp; omega
  have hcv : (convert 32 9 (.slice (some ⟨w.heap.size, 0, none⟩) 1 1)).run Try.prog (w.alloc (.cells #[.int .u8 c] 5)) = _ :=
    one_byte _ w.heap.size c h0 h255 (by simp [go_sem])
  have hsz : (s ++ ⟨#[c.toNat.toUInt8]⟩ : ByteArray).size ≤ 2000000 := by rw [ByteArray.size_append]; show s.size + 1 ≤ 2000000; omega
  have HSZ := hid hsz
  have HS : Hid (s.size ≤ 2000000) := hid (by omega)
  clear hsz
  have hne : s.data.toList ≠ [] := by intro h; have e : s.data.toList.length = s.size := (by simp); rw [h] at e; simp at e; omega
  have hm : behB (((c.toNat.toUInt8).toNat : Nat) : Int) = true := by rw [hu]; simp [behB, inB]; try omega
  have HW2 : Hid (nameB 97 122 (s ++ ⟨#[c.toNat.toUInt8]⟩) = true) := hid (by rw [nameB_list, more_list, nameL_more _ _ _ _ hne, ← nameB_list, hwd, hm]; rfl)
  have HT2 : Hid (nameB 65 90 (s ++ ⟨#[c.toNat.toUInt8]⟩) = false) := hid (by rw [nameB_list, more_list, nameL_more _ _ _ _ hne, ← nameB_list, htg, hm]; rfl)
  have HWD := hid hwd
  have HTG := hid htg
  clear hwd htg hne hm hu
  go_enter Try.func8, Try.ntmps8
  go_wp2_with fail
  refine (isWord_is s HS.out _ HWD.out _).mono ?_
  rintro e w1 ⟨rfl, h1⟩
  go_wp2_with fail
  refine (isTag_is s HS.out _ HTG.out _).mono ?_
  rintro e w2 ⟨rfl, h2⟩
  go_wp2_with fail
  refine (isWord_is _ HSZ.out _ HW2.out _).mono ?_
  rintro e w3 ⟨rfl, h3⟩
  go_wp2_with fail
  refine (isTag_is _ HSZ.out _ HT2.out _).mono ?_
  rintro e w4 ⟨rfl, h4⟩
  go_wp2_with fail
  refine (alive_any _).mono ?_
  rintro e w5 ⟨rfl, h5⟩
  go_wp2
  all_goals go_ret
  all_goals refine ⟨ret_bool ?_, up (up (up (up (up ((Below.refl _ _).alloc (Nat.le_refl _) _) h1 (by simp)) h2 (by simp)) h3 (by simp)) h4 (by simp)) h5 (by simp)⟩
  all_goals first | rfl | (simp; done) | (simp; omega)

set_option maxHeartbeats 2000000 in
set_option maxRecDepth 100000 in
theorem more_3_01 (s : ByteArray) (c : Int) (hs0 : 0 < s.size) (hs1 : s.size ≤ 2000) (hl : 65 ≤ c) (hh : c ≤ 90) (hwd : nameB 97 122 s = false) (htg : nameB 65 90 s = true) (w : World) :
    Calls Try.prog 8 #[.string s, .int .u8 c] w fun e w' => e = .returned (.bool true) ∧ Below w.heap.size w w' := by
  have h0 : 0 ≤ c := by omega
  have h255 : c < 256 := by omega
  have h95 : (c == 95) = false := by simp; omega
  have hu : ((c.toNat.toUInt8).toNat : Int) = c := by simp; omega
  have hcv : (convert 32 9 (.slice (some ⟨w.heap.size, 0, none⟩) 1 1)).run Try.prog (w.alloc (.cells #[.int .u8 c] 5)) = _ :=
    one_byte _ w.heap.size c h0 h255 (by simp [go_sem])
  have hsz : (s ++ ⟨#[c.toNat.toUInt8]⟩ : ByteArray).size ≤ 2000000 := by rw [ByteArray.size_append]; show s.size + 1 ≤ 2000000; omega
  have HSZ := hid hsz
  have HS : Hid (s.size ≤ 2000000) := hid (by omega)
  clear hsz
  have hne : s.data.toList ≠ [] := by intro h; have e : s.data.toList.length = s.size := (by simp); rw [h] at e; simp at e; omega
  have hm : behB (((c.toNat.toUInt8).toNat : Nat) : Int) = true := by rw [hu]; simp [behB, inB]; try omega
  have HW2 : Hid (nameB 97 122 (s ++ ⟨#[c.toNat.toUInt8]⟩) = false) := hid (by rw [nameB_list, more_list, nameL_more _ _ _ _ hne, ← nameB_list, hwd, hm]; rfl)
  have HT2 : Hid (nameB 65 90 (s ++ ⟨#[c.toNat.toUInt8]⟩) = true) := hid (by rw [nameB_list, more_list, nameL_more _ _ _ _ hne, ← nameB_list, htg, hm]; rfl)
  have HWD := hid hwd
  have HTG := hid htg
  clear hwd htg hne hm hu
  go_enter Try.func8, Try.ntmps8
  go_wp2_with fail
  refine (isWord_is s HS.out _ HWD.out _).mono ?_
  rintro e w1 ⟨rfl, h1⟩
  go_wp2_with fail
  refine (isTag_is s HS.out _ HTG.out _).mono ?_
  rintro e w2 ⟨rfl, h2⟩
  go_wp2_with fail
  refine (isWord_is _ HSZ.out _ HW2.out _).mono ?_
  rintro e w3 ⟨rfl, h3⟩
  go_wp2_with fail
  refine (isTag_is _ HSZ.out _ HT2.out _).mono ?_
  rintro e w4 ⟨rfl, h4⟩
  go_wp2_with fail
  refine (alive_any _).mono ?_
  rintro e w5 ⟨rfl, h5⟩
  go_wp2
  all_goals go_ret
  all_goals refine ⟨ret_bool ?_, up (up (up (up (up ((Below.refl _ _).alloc (Nat.le_refl _) _) h1 (by simp)) h2 (by simp)) h3 (by simp)) h4 (by simp)) h5 (by simp)⟩
  all_goals first | rfl | (simp; done) | (simp; omega)

set_option maxHeartbeats 2000000 in
set_option maxRecDepth 100000 in
theorem more_3_00 (s : ByteArray) (c : Int) (hs0 : 0 < s.size) (hs1 : s.size ≤ 2000) (hl : 65 ≤ c) (hh : c ≤ 90) (hwd : nameB 97 122 s = false) (htg : nameB 65 90 s = false) (w : World) :
    Calls Try.prog 8 #[.string s, .int .u8 c] w fun e w' => e = .returned (.bool true) ∧ Below w.heap.size w w' := by
  have h0 : 0 ≤ c := by omega
  have h255 : c < 256 := by omega
  have h95 : (c == 95) = false := by simp; omega
  have hu : ((c.toNat.toUInt8).toNat : Int) = c := by simp; omega
  have hcv : (convert 32 9 (.slice (some ⟨w.heap.size, 0, none⟩) 1 1)).run Try.prog (w.alloc (.cells #[.int .u8 c] 5)) = _ :=
    one_byte _ w.heap.size c h0 h255 (by simp [go_sem])
  have hsz : (s ++ ⟨#[c.toNat.toUInt8]⟩ : ByteArray).size ≤ 2000000 := by rw [ByteArray.size_append]; show s.size + 1 ≤ 2000000; omega
  have HSZ := hid hsz
  have HS : Hid (s.size ≤ 2000000) := hid (by omega)
  clear hsz
  have hne : s.data.toList ≠ [] := by intro h; have e : s.data.toList.length = s.size := (by simp); rw [h] at e; simp at e; omega
  have hm : behB (((c.toNat.toUInt8).toNat : Nat) : Int) = true := by rw [hu]; simp [behB, inB]; try omega
  have HW2 : Hid (nameB 97 122 (s ++ ⟨#[c.toNat.toUInt8]⟩) = false) := hid (by rw [nameB_list, more_list, nameL_more _ _ _ _ hne, ← nameB_list, hwd, hm]; rfl)
  have HT2 : Hid (nameB 65 90 (s ++ ⟨#[c.toNat.toUInt8]⟩) = false) := hid (by rw [nameB_list, more_list, nameL_more _ _ _ _ hne, ← nameB_list, htg, hm]; rfl)
  have HWD := hid hwd
  have HTG := hid htg
  clear hwd htg hne hm hu
  go_enter Try.func8, Try.ntmps8
  go_wp2_with fail
  refine (isWord_is s HS.out _ HWD.out _).mono ?_
  rintro e w1 ⟨rfl, h1⟩
  go_wp2_with fail
  refine (isTag_is s HS.out _ HTG.out _).mono ?_
  rintro e w2 ⟨rfl, h2⟩
  go_wp2_with fail
  refine (isWord_is _ HSZ.out _ HW2.out _).mono ?_
  rintro e w3 ⟨rfl, h3⟩
  go_wp2_with fail
  refine (isTag_is _ HSZ.out _ HT2.out _).mono ?_
  rintro e w4 ⟨rfl, h4⟩
  go_wp2_with fail
  refine (alive_any _).mono ?_
  rintro e w5 ⟨rfl, h5⟩
  go_wp2
  all_goals go_ret
  all_goals refine ⟨ret_bool ?_, up (up (up (up (up ((Below.refl _ _).alloc (Nat.le_refl _) _) h1 (by simp)) h2 (by simp)) h3 (by simp)) h4 (by simp)) h5 (by simp)⟩
  all_goals first | rfl | (simp; done) | (simp; omega)

set_option maxHeartbeats 2000000 in
set_option maxRecDepth 100000 in
theorem more_3_e (s : ByteArray) (c : Int) (hs0 : s.size = 0) (hl : 65 ≤ c) (hh : c ≤ 90) (w : World) :
    Calls Try.prog 8 #[.string s, .int .u8 c] w fun e w' => e = .returned (.bool true) ∧ Below w.heap.size w w' := by
  have hse : s = ⟨#[]⟩ := by
    apply ByteArray.ext
    apply Array.eq_empty_of_size_eq_zero
    exact hs0
  subst hse
  clear hs0
  obtain ⟨s, hse⟩ : ∃ s : ByteArray, s = ⟨#[]⟩ := ⟨_, rfl⟩
  have hs0 : s.size ≤ 0 := by rw [hse]; decide
  rw [← hse]
  have h0 : 0 ≤ c := by omega
  have h255 : c < 256 := by omega
  have h95 : (c == 95) = false := by simp; omega
  have hu : ((c.toNat.toUInt8).toNat : Int) = c := by simp; omega
  have hcv : (convert 32 9 (.slice (some ⟨w.heap.size, 0, none⟩) 1 1)).run Try.prog (w.alloc (.cells #[.int .u8 c] 5)) = _ :=
    one_byte _ w.heap.size c h0 h255 (by simp [go_sem])
  have hsz : (s ++ ⟨#[c.toNat.toUInt8]⟩ : ByteArray).size ≤ 2000000 := by rw [ByteArray.size_append]; show s.size + 1 ≤ 2000000; omega
  have HSZ := hid hsz
  have HS : Hid (s.size ≤ 2000000) := hid (by omega)
  clear hsz
  have hnil : s.data.toList = [] := by rw [hse]
  have HWD : Hid (nameB 97 122 s = false) := hid (by rw [nameB_list, hnil]; rfl)
  have HTG : Hid (nameB 65 90 s = false) := hid (by rw [nameB_list, hnil]; rfl)
  have HW2 : Hid (nameB 97 122 (s ++ ⟨#[c.toNat.toUInt8]⟩) = false) := hid (by rw [nameB_list, more_list, hnil, List.nil_append, nameL_one, hu]; simp [inB]; try omega)
  have HT2 : Hid (nameB 65 90 (s ++ ⟨#[c.toNat.toUInt8]⟩) = true) := hid (by rw [nameB_list, more_list, hnil, List.nil_append, nameL_one, hu]; simp [inB]; try omega)
  clear hnil hu hse
  go_enter Try.func8, Try.ntmps8
  go_wp2_with fail
  refine (isWord_is s HS.out _ HWD.out _).mono ?_
  rintro e w1 ⟨rfl, h1⟩
  go_wp2_with fail
  refine (isTag_is s HS.out _ HTG.out _).mono ?_
  rintro e w2 ⟨rfl, h2⟩
  go_wp2_with fail
  refine (alive_any _).mono ?_
  rintro e w3 ⟨rfl, h3⟩
  go_wp2_with fail
  refine (isWord_is _ HSZ.out _ HW2.out _).mono ?_
  rintro e w4 ⟨rfl, h4⟩
  go_wp2_with fail
  refine (isTag_is _ HSZ.out _ HT2.out _).mono ?_
  rintro e w5 ⟨rfl, h5⟩
  go_wp2
  all_goals go_ret
  all_goals refine ⟨ret_bool ?_, up (up (up (up (up ((Below.refl _ _).alloc (Nat.le_refl _) _) h1 (by simp)) h2 (by simp)) h3 (by simp)) h4 (by simp)) h5 (by simp)⟩
  all_goals first | rfl | (simp; done) | (simp; omega)

set_option maxHeartbeats 2000000 in
set_option maxRecDepth 100000 in
theorem more_4_10 (s : ByteArray) (c : Int) (hs0 : 0 < s.size) (hs1 : s.size ≤ 2000) (hl : 91 ≤ c) (hh : c ≤ 94) (hwd : nameB 97 122 s = true) (htg : nameB 65 90 s = false) (w : World) :
    Calls Try.prog 8 #[.string s, .int .u8 c] w fun e w' => e = .returned (.bool true) ∧ Below w.heap.size w w' := by
  have h0 : 0 ≤ c := by omega
  have h255 : c < 256 := by omega
  have h95 : (c == 95) = false := by simp; omega
  have hu : ((c.toNat.toUInt8).toNat : Int) = c := by simp; omega
  have hcv : (convert 32 9 (.slice (some ⟨w.heap.size, 0, none⟩) 1 1)).run Try.prog (w.alloc (.cells #[.int .u8 c] 5)) = _ :=
    one_byte _ w.heap.size c h0 h255 (by simp [go_sem])
  have hsz : (s ++ ⟨#[c.toNat.toUInt8]⟩ : ByteArray).size ≤ 2000000 := by rw [ByteArray.size_append]; show s.size + 1 ≤ 2000000; omega
  have HSZ := hid hsz
  have HS : Hid (s.size ≤ 2000000) := hid (by omega)
  clear hsz
  have hne : s.data.toList ≠ [] := by intro h; have e : s.data.toList.length = s.size := (by simp); rw [h] at e; simp at e; omega
  have hm : behB (((c.toNat.toUInt8).toNat : Nat) : Int) = false := by rw [hu]; simp [behB, inB]; try omega
  have HW2 : Hid (nameB 97 122 (s ++ ⟨#[c.toNat.toUInt8]⟩) = false) := hid (by rw [nameB_list, more_list, nameL_more _ _ _ _ hne, ← nameB_list, hwd, hm]; rfl)
  have HT2 : Hid (nameB 65 90 (s ++ ⟨#[c.toNat.toUInt8]⟩) = false) := hid (by rw [nameB_list, more_list, nameL_more _ _ _ _ hne, ← nameB_list, htg, hm]; rfl)
  have HWD := hid hwd
  have HTG := hid htg
  clear hwd htg hne hm hu
  go_enter Try.func8, Try.ntmps8
  go_wp2_with fail
  refine (isWord_is s HS.out _ HWD.out _).mono ?_
  rintro e w1 ⟨rfl, h1⟩
  go_wp2_with fail
  refine (isTag_is s HS.out _ HTG.out _).mono ?_
  rintro e w2 ⟨rfl, h2⟩
  go_wp2_with fail
  refine (isWord_is _ HSZ.out _ HW2.out _).mono ?_
  rintro e w3 ⟨rfl, h3⟩
  go_wp2_with fail
  refine (isTag_is _ HSZ.out _ HT2.out _).mono ?_
  rintro e w4 ⟨rfl, h4⟩
  go_wp2_with fail
  refine (alive_any _).mono ?_
  rintro e w5 ⟨rfl, h5⟩
  go_wp2
  all_goals go_ret
  all_goals refine ⟨ret_bool ?_, up (up (up (up (up ((Below.refl _ _).alloc (Nat.le_refl _) _) h1 (by simp)) h2 (by simp)) h3 (by simp)) h4 (by simp)) h5 (by simp)⟩
  all_goals first | rfl | (simp; done) | (simp; omega)

set_option maxHeartbeats 2000000 in
set_option maxRecDepth 100000 in
theorem more_4_01 (s : ByteArray) (c : Int) (hs0 : 0 < s.size) (hs1 : s.size ≤ 2000) (hl : 91 ≤ c) (hh : c ≤ 94) (hwd : nameB 97 122 s = false) (htg : nameB 65 90 s = true) (w : World) :
    Calls Try.prog 8 #[.string s, .int .u8 c] w fun e w' => e = .returned (.bool true) ∧ Below w.heap.size w w' := by
  have h0 : 0 ≤ c := by omega
  have h255 : c < 256 := by omega
  have h95 : (c == 95) = false := by simp; omega
  have hu : ((c.toNat.toUInt8).toNat : Int) = c := by simp; omega
  have hcv : (convert 32 9 (.slice (some ⟨w.heap.size, 0, none⟩) 1 1)).run Try.prog (w.alloc (.cells #[.int .u8 c] 5)) = _ :=
    one_byte _ w.heap.size c h0 h255 (by simp [go_sem])
  have hsz : (s ++ ⟨#[c.toNat.toUInt8]⟩ : ByteArray).size ≤ 2000000 := by rw [ByteArray.size_append]; show s.size + 1 ≤ 2000000; omega
  have HSZ := hid hsz
  have HS : Hid (s.size ≤ 2000000) := hid (by omega)
  clear hsz
  have hne : s.data.toList ≠ [] := by intro h; have e : s.data.toList.length = s.size := (by simp); rw [h] at e; simp at e; omega
  have hm : behB (((c.toNat.toUInt8).toNat : Nat) : Int) = false := by rw [hu]; simp [behB, inB]; try omega
  have HW2 : Hid (nameB 97 122 (s ++ ⟨#[c.toNat.toUInt8]⟩) = false) := hid (by rw [nameB_list, more_list, nameL_more _ _ _ _ hne, ← nameB_list, hwd, hm]; rfl)
  have HT2 : Hid (nameB 65 90 (s ++ ⟨#[c.toNat.toUInt8]⟩) = false) := hid (by rw [nameB_list, more_list, nameL_more _ _ _ _ hne, ← nameB_list, htg, hm]; rfl)
  have HWD := hid hwd
  have HTG := hid htg
  clear hwd htg hne hm hu
  go_enter Try.func8, Try.ntmps8
  go_wp2_with fail
  refine (isWord_is s HS.out _ HWD.out _).mono ?_
  rintro e w1 ⟨rfl, h1⟩
  go_wp2_with fail
  refine (isTag_is s HS.out _ HTG.out _).mono ?_
  rintro e w2 ⟨rfl, h2⟩
  go_wp2_with fail
  refine (isWord_is _ HSZ.out _ HW2.out _).mono ?_
  rintro e w3 ⟨rfl, h3⟩
  go_wp2_with fail
  refine (isTag_is _ HSZ.out _ HT2.out _).mono ?_
  rintro e w4 ⟨rfl, h4⟩
  go_wp2_with fail
  refine (alive_any _).mono ?_
  rintro e w5 ⟨rfl, h5⟩
  go_wp2
  all_goals go_ret
  all_goals refine ⟨ret_bool ?_, up (up (up (up (up ((Below.refl _ _).alloc (Nat.le_refl _) _) h1 (by simp)) h2 (by simp)) h3 (by simp)) h4 (by simp)) h5 (by simp)⟩
  all_goals first | rfl | (simp; done) | (simp; omega)

set_option maxHeartbeats 2000000 in
set_option maxRecDepth 100000 in
theorem more_4_00 (s : ByteArray) (c : Int) (hs0 : 0 < s.size) (hs1 : s.size ≤ 2000) (hl : 91 ≤ c) (hh : c ≤ 94) (hwd : nameB 97 122 s = false) (htg : nameB 65 90 s = false) (w : World) :
    Calls Try.prog 8 #[.string s, .int .u8 c] w fun e w' => e = .returned (.bool true) ∧ Below w.heap.size w w' := by
  have h0 : 0 ≤ c := by omega
  have h255 : c < 256 := by omega
  have h95 : (c == 95) = false := by simp; omega
  have hu : ((c.toNat.toUInt8).toNat : Int) = c := by simp; omega
  have hcv : (convert 32 9 (.slice (some ⟨w.heap.size, 0, none⟩) 1 1)).run Try.prog (w.alloc (.cells #[.int .u8 c] 5)) = _ :=
    one_byte _ w.heap.size c h0 h255 (by simp [go_sem])
  have hsz : (s ++ ⟨#[c.toNat.toUInt8]⟩ : ByteArray).size ≤ 2000000 := by rw [ByteArray.size_append]; show s.size + 1 ≤ 2000000; omega
  have HSZ := hid hsz
  have HS : Hid (s.size ≤ 2000000) := hid (by omega)
  clear hsz
  have hne : s.data.toList ≠ [] := by intro h; have e : s.data.toList.length = s.size := (by simp); rw [h] at e; simp at e; omega
  have hm : behB (((c.toNat.toUInt8).toNat : Nat) : Int) = false := by rw [hu]; simp [behB, inB]; try omega
  have HW2 : Hid (nameB 97 122 (s ++ ⟨#[c.toNat.toUInt8]⟩) = false) := hid (by rw [nameB_list, more_list, nameL_more _ _ _ _ hne, ← nameB_list, hwd, hm]; rfl)
  have HT2 : Hid (nameB 65 90 (s ++ ⟨#[c.toNat.toUInt8]⟩) = false) := hid (by rw [nameB_list, more_list, nameL_more _ _ _ _ hne, ← nameB_list, htg, hm]; rfl)
  have HWD := hid hwd
  have HTG := hid htg
  clear hwd htg hne hm hu
  go_enter Try.func8, Try.ntmps8
  go_wp2_with fail
  refine (isWord_is s HS.out _ HWD.out _).mono ?_
  rintro e w1 ⟨rfl, h1⟩
  go_wp2_with fail
  refine (isTag_is s HS.out _ HTG.out _).mono ?_
  rintro e w2 ⟨rfl, h2⟩
  go_wp2_with fail
  refine (isWord_is _ HSZ.out _ HW2.out _).mono ?_
  rintro e w3 ⟨rfl, h3⟩
  go_wp2_with fail
  refine (isTag_is _ HSZ.out _ HT2.out _).mono ?_
  rintro e w4 ⟨rfl, h4⟩
  go_wp2_with fail
  refine (alive_any _).mono ?_
  rintro e w5 ⟨rfl, h5⟩
  go_wp2
  all_goals go_ret
  all_goals refine ⟨ret_bool ?_, up (up (up (up (up ((Below.refl _ _).alloc (Nat.le_refl _) _) h1 (by simp)) h2 (by simp)) h3 (by simp)) h4 (by simp)) h5 (by simp)⟩
  all_goals first | rfl | (simp; done) | (simp; omega)

set_option maxHeartbeats 2000000 in
set_option maxRecDepth 100000 in
theorem more_4_e (s : ByteArray) (c : Int) (hs0 : s.size = 0) (hl : 91 ≤ c) (hh : c ≤ 94) (w : World) :
    Calls Try.prog 8 #[.string s, .int .u8 c] w fun e w' => e = .returned (.bool true) ∧ Below w.heap.size w w' := by
  have hse : s = ⟨#[]⟩ := by
    apply ByteArray.ext
    apply Array.eq_empty_of_size_eq_zero
    exact hs0
  subst hse
  clear hs0
  obtain ⟨s, hse⟩ : ∃ s : ByteArray, s = ⟨#[]⟩ := ⟨_, rfl⟩
  have hs0 : s.size ≤ 0 := by rw [hse]; decide
  rw [← hse]
  have h0 : 0 ≤ c := by omega
  have h255 : c < 256 := by omega
  have h95 : (c == 95) = false := by simp; omega
  have hu : ((c.toNat.toUInt8).toNat : Int) = c := by simp; omega
  have hcv : (convert 32 9 (.slice (some ⟨w.heap.size, 0, none⟩) 1 1)).run Try.prog (w.alloc (.cells #[.int .u8 c] 5)) = _ :=
    one_byte _ w.heap.size c h0 h255 (by simp [go_sem])
  have hsz : (s ++ ⟨#[c.toNat.toUInt8]⟩ : ByteArray).size ≤ 2000000 := by rw [ByteArray.size_append]; show s.size + 1 ≤ 2000000; omega
  have HSZ := hid hsz
  have HS : Hid (s.size ≤ 2000000) := hid (by omega)
  clear hsz
  have hnil : s.data.toList = [] := by rw [hse]
  have HWD : Hid (nameB 97 122 s = false) := hid (by rw [nameB_list, hnil]; rfl)
  have HTG : Hid (nameB 65 90 s = false) := hid (by rw [nameB_list, hnil]; rfl)
  have HW2 : Hid (nameB 97 122 (s ++ ⟨#[c.toNat.toUInt8]⟩) = false) := hid (by rw [nameB_list, more_list, hnil, List.nil_append, nameL_one, hu]; simp [inB]; try omega)
  have HT2 : Hid (nameB 65 90 (s ++ ⟨#[c.toNat.toUInt8]⟩) = false) := hid (by rw [nameB_list, more_list, hnil, List.nil_append, nameL_one, hu]; simp [inB]; try omega)
  clear hnil hu hse
  go_enter Try.func8, Try.ntmps8
  go_wp2_with fail
  refine (isWord_is s HS.out _ HWD.out _).mono ?_
  rintro e w1 ⟨rfl, h1⟩
  go_wp2_with fail
  refine (isTag_is s HS.out _ HTG.out _).mono ?_
  rintro e w2 ⟨rfl, h2⟩
  go_wp2_with fail
  refine (alive_any _).mono ?_
  rintro e w3 ⟨rfl, h3⟩
  go_wp2_with fail
  refine (isWord_is _ HSZ.out _ HW2.out _).mono ?_
  rintro e w4 ⟨rfl, h4⟩
  go_wp2_with fail
  refine (isTag_is _ HSZ.out _ HT2.out _).mono ?_
  rintro e w5 ⟨rfl, h5⟩
  go_wp2
  all_goals go_ret
  all_goals refine ⟨ret_bool ?_, up (up (up (up (up ((Below.refl _ _).alloc (Nat.le_refl _) _) h1 (by simp)) h2 (by simp)) h3 (by simp)) h4 (by simp)) h5 (by simp)⟩
  all_goals first | rfl | (simp; done) | (simp; omega)

set_option maxHeartbeats 2000000 in
set_option maxRecDepth 100000 in
theorem more_5_10 (s : ByteArray) (c : Int) (hs0 : 0 < s.size) (hs1 : s.size ≤ 2000) (hl : 95 ≤ c) (hh : c ≤ 95) (hwd : nameB 97 122 s = true) (htg : nameB 65 90 s = false) (w : World) :
    Calls Try.prog 8 #[.string s, .int .u8 c] w fun e w' => e = .returned (.bool true) ∧ Below w.heap.size w w' := by
  have h0 : 0 ≤ c := by omega
  have h255 : c < 256 := by omega
  have h95 : (c == 95) = true := by simp; omega
  have hu : ((c.toNat.toUInt8).toNat : Int) = c := by simp; omega
  have hcv : (convert 32 9 (.slice (some ⟨w.heap.size, 0, none⟩) 1 1)).run Try.prog (w.alloc (.cells #[.int .u8 c] 5)) = _ :=
    one_byte _ w.heap.size c h0 h255 (by simp [go_sem])
  have hsz : (s ++ ⟨#[c.toNat.toUInt8]⟩ : ByteArray).size ≤ 2000000 := by rw [ByteArray.size_append]; show s.size + 1 ≤ 2000000; omega
  have HSZ := hid hsz
  have HS : Hid (s.size ≤ 2000000) := hid (by omega)
  clear hsz
  have hne : s.data.toList ≠ [] := by intro h; have e : s.data.toList.length = s.size := (by simp); rw [h] at e; simp at e; omega
  have hm : behB (((c.toNat.toUInt8).toNat : Nat) : Int) = true := by rw [hu]; simp [behB, inB]; try omega
  have HW2 : Hid (nameB 97 122 (s ++ ⟨#[c.toNat.toUInt8]⟩) = true) := hid (by rw [nameB_list, more_list, nameL_more _ _ _ _ hne, ← nameB_list, hwd, hm]; rfl)
  have HT2 : Hid (nameB 65 90 (s ++ ⟨#[c.toNat.toUInt8]⟩) = false) := hid (by rw [nameB_list, more_list, nameL_more _ _ _ _ hne, ← nameB_list, htg, hm]; rfl)
  have HWD := hid hwd
  have HTG := hid htg
  clear hwd htg hne hm hu
  go_enter Try.func8, Try.ntmps8
  go_wp2_with fail
  refine (isWord_is s HS.out _ HWD.out _).mono ?_
  rintro e w1 ⟨rfl, h1⟩
  go_wp2_with fail
  refine (isTag_is s HS.out _ HTG.out _).mono ?_
  rintro e w2 ⟨rfl, h2⟩
  go_wp2_with fail
  refine (isWord_is _ HSZ.out _ HW2.out _).mono ?_
  rintro e w3 ⟨rfl, h3⟩
  go_wp2_with fail
  refine (isTag_is _ HSZ.out _ HT2.out _).mono ?_
  rintro e w4 ⟨rfl, h4⟩
  go_wp2_with fail
  refine (alive_any _).mono ?_
  rintro e w5 ⟨rfl, h5⟩
  go_wp2
  all_goals go_ret
  all_goals refine ⟨ret_bool ?_, up (up (up (up (up ((Below.refl _ _).alloc (Nat.le_refl _) _) h1 (by simp)) h2 (by simp)) h3 (by simp)) h4 (by simp)) h5 (by simp)⟩
  all_goals first | rfl | (simp; done) | (simp; omega)

set_option maxHeartbeats 2000000 in
set_option maxRecDepth 100000 in
theorem more_5_01 (s : ByteArray) (c : Int) (hs0 : 0 < s.size) (hs1 : s.size ≤ 2000) (hl : 95 ≤ c) (hh : c ≤ 95) (hwd : nameB 97 122 s = false) (htg : nameB 65 90 s = true) (w : World) :
    Calls Try.prog 8 #[.string s, .int .u8 c] w fun e w' => e = .returned (.bool true) ∧ Below w.heap.size w w' := by
  have h0 : 0 ≤ c := by omega
  have h255 : c < 256 := by omega
  have h95 : (c == 95) = true := by simp; omega
  have hu : ((c.toNat.toUInt8).toNat : Int) = c := by simp; omega
  have hcv : (convert 32 9 (.slice (some ⟨w.heap.size, 0, none⟩) 1 1)).run Try.prog (w.alloc (.cells #[.int .u8 c] 5)) = _ :=
    one_byte _ w.heap.size c h0 h255 (by simp [go_sem])
  have hsz : (s ++ ⟨#[c.toNat.toUInt8]⟩ : ByteArray).size ≤ 2000000 := by rw [ByteArray.size_append]; show s.size + 1 ≤ 2000000; omega
  have HSZ := hid hsz
  have HS : Hid (s.size ≤ 2000000) := hid (by omega)
  clear hsz
  have hne : s.data.toList ≠ [] := by intro h; have e : s.data.toList.length = s.size := (by simp); rw [h] at e; simp at e; omega
  have hm : behB (((c.toNat.toUInt8).toNat : Nat) : Int) = true := by rw [hu]; simp [behB, inB]; try omega
  have HW2 : Hid (nameB 97 122 (s ++ ⟨#[c.toNat.toUInt8]⟩) = false) := hid (by rw [nameB_list, more_list, nameL_more _ _ _ _ hne, ← nameB_list, hwd, hm]; rfl)
  have HT2 : Hid (nameB 65 90 (s ++ ⟨#[c.toNat.toUInt8]⟩) = true) := hid (by rw [nameB_list, more_list, nameL_more _ _ _ _ hne, ← nameB_list, htg, hm]; rfl)
  have HWD := hid hwd
  have HTG := hid htg
  clear hwd htg hne hm hu
  go_enter Try.func8, Try.ntmps8
  go_wp2_with fail
  refine (isWord_is s HS.out _ HWD.out _).mono ?_
  rintro e w1 ⟨rfl, h1⟩
  go_wp2_with fail
  refine (isTag_is s HS.out _ HTG.out _).mono ?_
  rintro e w2 ⟨rfl, h2⟩
  go_wp2_with fail
  refine (isWord_is _ HSZ.out _ HW2.out _).mono ?_
  rintro e w3 ⟨rfl, h3⟩
  go_wp2_with fail
  refine (isTag_is _ HSZ.out _ HT2.out _).mono ?_
  rintro e w4 ⟨rfl, h4⟩
  go_wp2_with fail
  refine (alive_any _).mono ?_
  rintro e w5 ⟨rfl, h5⟩
  go_wp2
  all_goals go_ret
  all_goals refine ⟨ret_bool ?_, up (up (up (up (up ((Below.refl _ _).alloc (Nat.le_refl _) _) h1 (by simp)) h2 (by simp)) h3 (by simp)) h4 (by simp)) h5 (by simp)⟩
  all_goals first | rfl | (simp; done) | (simp; omega)

set_option maxHeartbeats 2000000 in
set_option maxRecDepth 100000 in
theorem more_5_00 (s : ByteArray) (c : Int) (hs0 : 0 < s.size) (hs1 : s.size ≤ 2000) (hl : 95 ≤ c) (hh : c ≤ 95) (hwd : nameB 97 122 s = false) (htg : nameB 65 90 s = false) (w : World) :
    Calls Try.prog 8 #[.string s, .int .u8 c] w fun e w' => e = .returned (.bool true) ∧ Below w.heap.size w w' := by
  have h0 : 0 ≤ c := by omega
  have h255 : c < 256 := by omega
  have h95 : (c == 95) = true := by simp; omega
  have hu : ((c.toNat.toUInt8).toNat : Int) = c := by simp; omega
  have hcv : (convert 32 9 (.slice (some ⟨w.heap.size, 0, none⟩) 1 1)).run Try.prog (w.alloc (.cells #[.int .u8 c] 5)) = _ :=
    one_byte _ w.heap.size c h0 h255 (by simp [go_sem])
  have hsz : (s ++ ⟨#[c.toNat.toUInt8]⟩ : ByteArray).size ≤ 2000000 := by rw [ByteArray.size_append]; show s.size + 1 ≤ 2000000; omega
  have HSZ := hid hsz
  have HS : Hid (s.size ≤ 2000000) := hid (by omega)
  clear hsz
  have hne : s.data.toList ≠ [] := by intro h; have e : s.data.toList.length = s.size := (by simp); rw [h] at e; simp at e; omega
  have hm : behB (((c.toNat.toUInt8).toNat : Nat) : Int) = true := by rw [hu]; simp [behB, inB]; try omega
  have HW2 : Hid (nameB 97 122 (s ++ ⟨#[c.toNat.toUInt8]⟩) = false) := hid (by rw [nameB_list, more_list, nameL_more _ _ _ _ hne, ← nameB_list, hwd, hm]; rfl)
  have HT2 : Hid (nameB 65 90 (s ++ ⟨#[c.toNat.toUInt8]⟩) = false) := hid (by rw [nameB_list, more_list, nameL_more _ _ _ _ hne, ← nameB_list, htg, hm]; rfl)
  have HWD := hid hwd
  have HTG := hid htg
  clear hwd htg hne hm hu
  go_enter Try.func8, Try.ntmps8
  go_wp2_with fail
  refine (isWord_is s HS.out _ HWD.out _).mono ?_
  rintro e w1 ⟨rfl, h1⟩
  go_wp2_with fail
  refine (isTag_is s HS.out _ HTG.out _).mono ?_
  rintro e w2 ⟨rfl, h2⟩
  go_wp2_with fail
  refine (isWord_is _ HSZ.out _ HW2.out _).mono ?_
  rintro e w3 ⟨rfl, h3⟩
  go_wp2_with fail
  refine (isTag_is _ HSZ.out _ HT2.out _).mono ?_
  rintro e w4 ⟨rfl, h4⟩
  go_wp2_with fail
  refine (alive_any _).mono ?_
  rintro e w5 ⟨rfl, h5⟩
  go_wp2
  all_goals go_ret
  all_goals refine ⟨ret_bool ?_, up (up (up (up (up ((Below.refl _ _).alloc (Nat.le_refl _) _) h1 (by simp)) h2 (by simp)) h3 (by simp)) h4 (by simp)) h5 (by simp)⟩
  all_goals first | rfl | (simp; done) | (simp; omega)

set_option maxHeartbeats 2000000 in
set_option maxRecDepth 100000 in
theorem more_5_e (s : ByteArray) (c : Int) (hs0 : s.size = 0) (hl : 95 ≤ c) (hh : c ≤ 95) (w : World) :
    Calls Try.prog 8 #[.string s, .int .u8 c] w fun e w' => e = .returned (.bool true) ∧ Below w.heap.size w w' := by
  have hse : s = ⟨#[]⟩ := by
    apply ByteArray.ext
    apply Array.eq_empty_of_size_eq_zero
    exact hs0
  subst hse
  clear hs0
  obtain ⟨s, hse⟩ : ∃ s : ByteArray, s = ⟨#[]⟩ := ⟨_, rfl⟩
  have hs0 : s.size ≤ 0 := by rw [hse]; decide
  rw [← hse]
  have h0 : 0 ≤ c := by omega
  have h255 : c < 256 := by omega
  have h95 : (c == 95) = true := by simp; omega
  have hu : ((c.toNat.toUInt8).toNat : Int) = c := by simp; omega
  have hcv : (convert 32 9 (.slice (some ⟨w.heap.size, 0, none⟩) 1 1)).run Try.prog (w.alloc (.cells #[.int .u8 c] 5)) = _ :=
    one_byte _ w.heap.size c h0 h255 (by simp [go_sem])
  have hsz : (s ++ ⟨#[c.toNat.toUInt8]⟩ : ByteArray).size ≤ 2000000 := by rw [ByteArray.size_append]; show s.size + 1 ≤ 2000000; omega
  have HSZ := hid hsz
  have HS : Hid (s.size ≤ 2000000) := hid (by omega)
  clear hsz
  have hnil : s.data.toList = [] := by rw [hse]
  have HWD : Hid (nameB 97 122 s = false) := hid (by rw [nameB_list, hnil]; rfl)
  have HTG : Hid (nameB 65 90 s = false) := hid (by rw [nameB_list, hnil]; rfl)
  have HW2 : Hid (nameB 97 122 (s ++ ⟨#[c.toNat.toUInt8]⟩) = false) := hid (by rw [nameB_list, more_list, hnil, List.nil_append, nameL_one, hu]; simp [inB]; try omega)
  have HT2 : Hid (nameB 65 90 (s ++ ⟨#[c.toNat.toUInt8]⟩) = false) := hid (by rw [nameB_list, more_list, hnil, List.nil_append, nameL_one, hu]; simp [inB]; try omega)
  clear hnil hu hse
  go_enter Try.func8, Try.ntmps8
  go_wp2_with fail
  refine (isWord_is s HS.out _ HWD.out _).mono ?_
  rintro e w1 ⟨rfl, h1⟩
  go_wp2_with fail
  refine (isTag_is s HS.out _ HTG.out _).mono ?_
  rintro e w2 ⟨rfl, h2⟩
  go_wp2_with fail
  refine (alive_any _).mono ?_
  rintro e w3 ⟨rfl, h3⟩
  go_wp2_with fail
  refine (isWord_is _ HSZ.out _ HW2.out _).mono ?_
  rintro e w4 ⟨rfl, h4⟩
  go_wp2_with fail
  refine (isTag_is _ HSZ.out _ HT2.out _).mono ?_
  rintro e w5 ⟨rfl, h5⟩
  go_wp2
  all_goals go_ret
  all_goals refine ⟨ret_bool ?_, up (up (up (up (up ((Below.refl _ _).alloc (Nat.le_refl _) _) h1 (by simp)) h2 (by simp)) h3 (by simp)) h4 (by simp)) h5 (by simp)⟩
  all_goals first | rfl | (simp; done) | (simp; omega)

set_option maxHeartbeats 2000000 in
set_option maxRecDepth 100000 in
theorem more_6_10 (s : ByteArray) (c : Int) (hs0 : 0 < s.size) (hs1 : s.size ≤ 2000) (hl : 96 ≤ c) (hh : c ≤ 96) (hwd : nameB 97 122 s = true) (htg : nameB 65 90 s = false) (w : World) :
    Calls Try.prog 8 #[.string s, .int .u8 c] w fun e w' => e = .returned (.bool true) ∧ Below w.heap.size w w' := by
  have h0 : 0 ≤ c := by omega
  have h255 : c < 256 := by omega
  have h95 : (c == 95) = false := by simp; omega
  have hu : ((c.toNat.toUInt8).toNat : Int) = c := by simp; omega
  have hcv : (convert 32 9 (.slice (some ⟨w.heap.size, 0, none⟩) 1 1)).run Try.prog (w.alloc (.cells #[.int .u8 c] 5)) = _ :=
    one_byte _ w.heap.size c h0 h255 (by simp [go_sem])
  have hsz : (s ++ ⟨#[c.toNat.toUInt8]⟩ : ByteArray).size ≤ 2000000 := by rw [ByteArray.size_append]; show s.size + 1 ≤ 2000000; omega
  have HSZ := hid hsz
  have HS : Hid (s.size ≤ 2000000) := hid (by omega)
  clear hsz
  have hne : s.data.toList ≠ [] := by intro h; have e : s.data.toList.length = s.size := (by simp); rw [h] at e; simp at e; omega
  have hm : behB (((c.toNat.toUInt8).toNat : Nat) : Int) = false := by rw [hu]; simp [behB, inB]; try omega
  have HW2 : Hid (nameB 97 122 (s ++ ⟨#[c.toNat.toUInt8]⟩) = false) := hid (by rw [nameB_list, more_list, nameL_more _ _ _ _ hne, ← nameB_list, hwd, hm]; rfl)
  have HT2 : Hid (nameB 65 90 (s ++ ⟨#[c.toNat.toUInt8]⟩) = false) := hid (by rw [nameB_list, more_list, nameL_more _ _ _ _ hne, ← nameB_list, htg, hm]; rfl)
  have HWD := hid hwd
  have HTG := hid htg
  clear hwd htg hne hm hu
  go_enter Try.func8, Try.ntmps8
  go_wp2_with fail
  refine (isWord_is s HS.out _ HWD.out _).mono ?_
  rintro e w1 ⟨rfl, h1⟩
  go_wp2_with fail
  refine (isTag_is s HS.out _ HTG.out _).mono ?_
  rintro e w2 ⟨rfl, h2⟩
  go_wp2_with fail
  refine (isWord_is _ HSZ.out _ HW2.out _).mono ?_
  rintro e w3 ⟨rfl, h3⟩
  go_wp2_with fail
  refine (isTag_is _ HSZ.out _ HT2.out _).mono ?_
  rintro e w4 ⟨rfl, h4⟩
  go_wp2_with fail
  refine (alive_any _).mono ?_
  rintro e w5 ⟨rfl, h5⟩
  go_wp2
  all_goals go_ret
  all_goals refine ⟨ret_bool ?_, up (up (up (up (up ((Below.refl _ _).alloc (Nat.le_refl _) _) h1 (by simp)) h2 (by simp)) h3 (by simp)) h4 (by simp)) h5 (by simp)⟩
  all_goals first | rfl | (simp; done) | (simp; omega)

set_option maxHeartbeats 2000000 in
set_option maxRecDepth 100000 in
theorem more_6_01 (s : ByteArray) (c : Int) (hs0 : 0 < s.size) (hs1 : s.size ≤ 2000) (hl : 96 ≤ c) (hh : c ≤ 96) (hwd : nameB 97 122 s = false) (htg : nameB 65 90 s = true) (w : World) :
    Calls Try.prog 8 #[.string s, .int .u8 c] w fun e w' => e = .returned (.bool true) ∧ Below w.heap.size w w' := by
  have h0 : 0 ≤ c := by omega
  have h255 : c < 256 := by omega
  have h95 : (c == 95) = false := by simp; omega
  have hu : ((c.toNat.toUInt8).toNat : Int) = c := by simp; omega
  have hcv : (convert 32 9 (.slice (some ⟨w.heap.size, 0, none⟩) 1 1)).run Try.prog (w.alloc (.cells #[.int .u8 c] 5)) = _ :=
    one_byte _ w.heap.size c h0 h255 (by simp [go_sem])
  have hsz : (s ++ ⟨#[c.toNat.toUInt8]⟩ : ByteArray).size ≤ 2000000 := by rw [ByteArray.size_append]; show s.size + 1 ≤ 2000000; omega
  have HSZ := hid hsz
  have HS : Hid (s.size ≤ 2000000) := hid (by omega)
  clear hsz
  have hne : s.data.toList ≠ [] := by intro h; have e : s.data.toList.length = s.size := (by simp); rw [h] at e; simp at e; omega
  have hm : behB (((c.toNat.toUInt8).toNat : Nat) : Int) = false := by rw [hu]; simp [behB, inB]; try omega
  have HW2 : Hid (nameB 97 122 (s ++ ⟨#[c.toNat.toUInt8]⟩) = false) := hid (by rw [nameB_list, more_list, nameL_more _ _ _ _ hne, ← nameB_list, hwd, hm]; rfl)
  have HT2 : Hid (nameB 65 90 (s ++ ⟨#[c.toNat.toUInt8]⟩) = false) := hid (by rw [nameB_list, more_list, nameL_more _ _ _ _ hne, ← nameB_list, htg, hm]; rfl)
  have HWD := hid hwd
  have HTG := hid htg
  clear hwd htg hne hm hu
  go_enter Try.func8, Try.ntmps8
  go_wp2_with fail
  refine (isWord_is s HS.out _ HWD.out _).mono ?_
  rintro e w1 ⟨rfl, h1⟩
  go_wp2_with fail
  refine (isTag_is s HS.out _ HTG.out _).mono ?_
  rintro e w2 ⟨rfl, h2⟩
  go_wp2_with fail
  refine (isWord_is _ HSZ.out _ HW2.out _).mono ?_
  rintro e w3 ⟨rfl, h3⟩
  go_wp2_with fail
  refine (isTag_is _ HSZ.out _ HT2.out _).mono ?_
  rintro e w4 ⟨rfl, h4⟩
  go_wp2_with fail
  refine (alive_any _).mono ?_
  rintro e w5 ⟨rfl, h5⟩
  go_wp2
  all_goals go_ret
  all_goals refine ⟨ret_bool ?_, up (up (up (up (up ((Below.refl _ _).alloc (Nat.le_refl _) _) h1 (by simp)) h2 (by simp)) h3 (by simp)) h4 (by simp)) h5 (by simp)⟩
  all_goals first | rfl | (simp; done) | (simp; omega)

set_option maxHeartbeats 2000000 in
set_option maxRecDepth 100000 in
theorem more_6_00 (s : ByteArray) (c : Int) (hs0 : 0 < s.size) (hs1 : s.size ≤ 2000) (hl : 96 ≤ c) (hh : c ≤ 96) (hwd : nameB 97 122 s = false) (htg : nameB 65 90 s = false) (w : World) :
    Calls Try.prog 8 #[.string s, .int .u8 c] w fun e w' => e = .returned (.bool true) ∧ Below w.heap.size w w' := by
  have h0 : 0 ≤ c := by omega
  have h255 : c < 256 := by omega
  have h95 : (c == 95) = false := by simp; omega
  have hu : ((c.toNat.toUInt8).toNat : Int) = c := by simp; omega
  have hcv : (convert 32 9 (.slice (some ⟨w.heap.size, 0, none⟩) 1 1)).run Try.prog (w.alloc (.cells #[.int .u8 c] 5)) = _ :=
    one_byte _ w.heap.size c h0 h255 (by simp [go_sem])
  have hsz : (s ++ ⟨#[c.toNat.toUInt8]⟩ : ByteArray).size ≤ 2000000 := by rw [ByteArray.size_append]; show s.size + 1 ≤ 2000000; omega
  have HSZ := hid hsz
  have HS : Hid (s.size ≤ 2000000) := hid (by omega)
  clear hsz
  have hne : s.data.toList ≠ [] := by intro h; have e : s.data.toList.length = s.size := (by simp); rw [h] at e; simp at e; omega
  have hm : behB (((c.toNat.toUInt8).toNat : Nat) : Int) = false := by rw [hu]; simp [behB, inB]; try omega
  have HW2 : Hid (nameB 97 122 (s ++ ⟨#[c.toNat.toUInt8]⟩) = false) := hid (by rw [nameB_list, more_list, nameL_more _ _ _ _ hne, ← nameB_list, hwd, hm]; rfl)
  have HT2 : Hid (nameB 65 90 (s ++ ⟨#[c.toNat.toUInt8]⟩) = false) := hid (by rw [nameB_list, more_list, nameL_more _ _ _ _ hne, ← nameB_list, htg, hm]; rfl)
  have HWD := hid hwd
  have HTG := hid htg
  clear hwd htg hne hm hu
  go_enter Try.func8, Try.ntmps8
  go_wp2_with fail
  refine (isWord_is s HS.out _ HWD.out _).mono ?_
  rintro e w1 ⟨rfl, h1⟩
  go_wp2_with fail
  refine (isTag_is s HS.out _ HTG.out _).mono ?_
  rintro e w2 ⟨rfl, h2⟩
  go_wp2_with fail
  refine (isWord_is _ HSZ.out _ HW2.out _).mono ?_
  rintro e w3 ⟨rfl, h3⟩
  go_wp2_with fail
  refine (isTag_is _ HSZ.out _ HT2.out _).mono ?_
  rintro e w4 ⟨rfl, h4⟩
  go_wp2_with fail
  refine (alive_any _).mono ?_
  rintro e w5 ⟨rfl, h5⟩
  go_wp2
  all_goals go_ret
  all_goals refine ⟨ret_bool ?_, up (up (up (up (up ((Below.refl _ _).alloc (Nat.le_refl _) _) h1 (by simp)) h2 (by simp)) h3 (by simp)) h4 (by simp)) h5 (by simp)⟩
  all_goals first | rfl | (simp; done) | (simp; omega)

set_option maxHeartbeats 2000000 in
set_option maxRecDepth 100000 in
theorem more_6_e (s : ByteArray) (c : Int) (hs0 : s.size = 0) (hl : 96 ≤ c) (hh : c ≤ 96) (w : World) :
    Calls Try.prog 8 #[.string s, .int .u8 c] w fun e w' => e = .returned (.bool true) ∧ Below w.heap.size w w' := by
  have hse : s = ⟨#[]⟩ := by
    apply ByteArray.ext
    apply Array.eq_empty_of_size_eq_zero
    exact hs0
  subst hse
  clear hs0
  obtain ⟨s, hse⟩ : ∃ s : ByteArray, s = ⟨#[]⟩ := ⟨_, rfl⟩
  have hs0 : s.size ≤ 0 := by rw [hse]; decide
  rw [← hse]
  have h0 : 0 ≤ c := by omega
  have h255 : c < 256 := by omega
  have h95 : (c == 95) = false := by simp; omega
  have hu : ((c.toNat.toUInt8).toNat : Int) = c := by simp; omega
  have hcv : (convert 32 9 (.slice (some ⟨w.heap.size, 0, none⟩) 1 1)).run Try.prog (w.alloc (.cells #[.int .u8 c] 5)) = _ :=
    one_byte _ w.heap.size c h0 h255 (by simp [go_sem])
  have hsz : (s ++ ⟨#[c.toNat.toUInt8]⟩ : ByteArray).size ≤ 2000000 := by rw [ByteArray.size_append]; show s.size + 1 ≤ 2000000; omega
  have HSZ := hid hsz
  have HS : Hid (s.size ≤ 2000000) := hid (by omega)
  clear hsz
  have hnil : s.data.toList = [] := by rw [hse]
  have HWD : Hid (nameB 97 122 s = false) := hid (by rw [nameB_list, hnil]; rfl)
  have HTG : Hid (nameB 65 90 s = false) := hid (by rw [nameB_list, hnil]; rfl)
  have HW2 : Hid (nameB 97 122 (s ++ ⟨#[c.toNat.toUInt8]⟩) = false) := hid (by rw [nameB_list, more_list, hnil, List.nil_append, nameL_one, hu]; simp [inB]; try omega)
  have HT2 : Hid (nameB 65 90 (s ++ ⟨#[c.toNat.toUInt8]⟩) = false) := hid (by rw [nameB_list, more_list, hnil, List.nil_append, nameL_one, hu]; simp [inB]; try omega)
  clear hnil hu hse
  go_enter Try.func8, Try.ntmps8
  go_wp2_with fail
  refine (isWord_is s HS.out _ HWD.out _).mono ?_
  rintro e w1 ⟨rfl, h1⟩
  go_wp2_with fail
  refine (isTag_is s HS.out _ HTG.out _).mono ?_
  rintro e w2 ⟨rfl, h2⟩
  go_wp2_with fail
  refine (alive_any _).mono ?_
  rintro e w3 ⟨rfl, h3⟩
  go_wp2_with fail
  refine (isWord_is _ HSZ.out _ HW2.out _).mono ?_
  rintro e w4 ⟨rfl, h4⟩
  go_wp2_with fail
  refine (isTag_is _ HSZ.out _ HT2.out _).mono ?_
  rintro e w5 ⟨rfl, h5⟩
  go_wp2
  all_goals go_ret
  all_goals refine ⟨ret_bool ?_, up (up (up (up (up ((Below.refl _ _).alloc (Nat.le_refl _) _) h1 (by simp)) h2 (by simp)) h3 (by simp)) h4 (by simp)) h5 (by simp)⟩
  all_goals first | rfl | (simp; done) | (simp; omega)

set_option maxHeartbeats 2000000 in
set_option maxRecDepth 100000 in
theorem more_7_10 (s : ByteArray) (c : Int) (hs0 : 0 < s.size) (hs1 : s.size ≤ 2000) (hl : 97 ≤ c) (hh : c ≤ 122) (hwd : nameB 97 122 s = true) (htg : nameB 65 90 s = false) (w : World) :
    Calls Try.prog 8 #[.string s, .int .u8 c] w fun e w' => e = .returned (.bool true) ∧ Below w.heap.size w w' := by
  have h0 : 0 ≤ c := by omega
  have h255 : c < 256 := by omega
  have h95 : (c == 95) = false := by simp; omega
  have hu : ((c.toNat.toUInt8).toNat : Int) = c := by simp; omega
  have hcv : (convert 32 9 (.slice (some ⟨w.heap.size, 0, none⟩) 1 1)).run Try.prog (w.alloc (.cells #[.int .u8 c] 5)) = _ :=
    one_byte _ w.heap.size c h0 h255 (by simp [go_sem])
  have hsz : (s ++ ⟨#[c.toNat.toUInt8]⟩ : ByteArray).size ≤ 2000000 := by rw [ByteArray.size_append]; show s.size + 1 ≤ 2000000; omega
  have HSZ := hid hsz
  have HS : Hid (s.size ≤ 2000000) := hid (by omega)
  clear hsz
  have hne : s.data.toList ≠ [] := by intro h; have e : s.data.toList.length = s.size := (by simp); rw [h] at e; simp at e; omega
  have hm : behB (((c.toNat.toUInt8).toNat : Nat) : Int) = true := by rw [hu]; simp [behB, inB]; try omega
  have HW2 : Hid (nameB 97 122 (s ++ ⟨#[c.toNat.toUInt8]⟩) = true) := hid (by rw [nameB_list, more_list, nameL_more _ _ _ _ hne, ← nameB_list, hwd, hm]; rfl)
  have HT2 : Hid (nameB 65 90 (s ++ ⟨#[c.toNat.toUInt8]⟩) = false) := hid (by rw [nameB_list, more_list, nameL_more _ _ _ _ hne, ← nameB_list, htg, hm]; rfl)
  have HWD := hid hwd
  have HTG := hid htg
  clear hwd htg hne hm hu
  go_enter Try.func8, Try.ntmps8
  go_wp2_with fail
  refine (isWord_is s HS.out _ HWD.out _).mono ?_
  rintro e w1 ⟨rfl, h1⟩
  go_wp2_with fail
  refine (isTag_is s HS.out _ HTG.out _).mono ?_
  rintro e w2 ⟨rfl, h2⟩
  go_wp2_with fail
  refine (isWord_is _ HSZ.out _ HW2.out _).mono ?_
  rintro e w3 ⟨rfl, h3⟩
  go_wp2_with fail
  refine (isTag_is _ HSZ.out _ HT2.out _).mono ?_
  rintro e w4 ⟨rfl, h4⟩
  go_wp2_with fail
  refine (alive_any _).mono ?_
  rintro e w5 ⟨rfl, h5⟩
  go_wp2
  all_goals go_ret
  all_goals refine ⟨ret_bool ?_, up (up (up (up (up ((Below.refl _ _).alloc (Nat.le_refl _) _) h1 (by simp)) h2 (by simp)) h3 (by simp)) h4 (by simp)) h5 (by simp)⟩
  all_goals first | rfl | (simp; done) | (simp; omega)

set_option maxHeartbeats 2000000 in
set_option maxRecDepth 100000 in
theorem more_7_01 (s : ByteArray) (c : Int) (hs0 : 0 < s.size) (hs1 : s.size ≤ 2000) (hl : 97 ≤ c) (hh : c ≤ 122) (hwd : nameB 97 122 s = false) (htg : nameB 65 90 s = true) (w : World) :
    Calls Try.prog 8 #[.string s, .int .u8 c] w fun e w' => e = .returned (.bool true) ∧ Below w.heap.size w w' := by
  have h0 : 0 ≤ c := by omega
  have h255 : c < 256 := by omega
  have h95 : (c == 95) = false := by simp; omega
  have hu : ((c.toNat.toUInt8).toNat : Int) = c := by simp; omega
  have hcv : (convert 32 9 (.slice (some ⟨w.heap.size, 0, none⟩) 1 1)).run Try.prog (w.alloc (.cells #[.int .u8 c] 5)) = _ :=
    one_byte _ w.heap.size c h0 h255 (by simp [go_sem])
  have hsz : (s ++ ⟨#[c.toNat.toUInt8]⟩ : ByteArray).size ≤ 2000000 := by rw [ByteArray.size_append]; show s.size + 1 ≤ 2000000; omega
  have HSZ := hid hsz
  have HS : Hid (s.size ≤ 2000000) := hid (by omega)
  clear hsz
  have hne : s.data.toList ≠ [] := by intro h; have e : s.data.toList.length = s.size := (by simp); rw [h] at e; simp at e; omega
  have hm : behB (((c.toNat.toUInt8).toNat : Nat) : Int) = true := by rw [hu]; simp [behB, inB]; try omega
  have HW2 : Hid (nameB 97 122 (s ++ ⟨#[c.toNat.toUInt8]⟩) = false) := hid (by rw [nameB_list, more_list, nameL_more _ _ _ _ hne, ← nameB_list, hwd, hm]; rfl)
  have HT2 : Hid (nameB 65 90 (s ++ ⟨#[c.toNat.toUInt8]⟩) = true) := hid (by rw [nameB_list, more_list, nameL_more _ _ _ _ hne, ← nameB_list, htg, hm]; rfl)
  have HWD := hid hwd
  have HTG := hid htg
  clear hwd htg hne hm hu
  go_enter Try.func8, Try.ntmps8
  go_wp2_with fail
  refine (isWord_is s HS.out _ HWD.out _).mono ?_
  rintro e w1 ⟨rfl, h1⟩
  go_wp2_with fail
  refine (isTag_is s HS.out _ HTG.out _).mono ?_
  rintro e w2 ⟨rfl, h2⟩
  go_wp2_with fail
  refine (isWord_is _ HSZ.out _ HW2.out _).mono ?_
  rintro e w3 ⟨rfl, h3⟩
  go_wp2_with fail
  refine (isTag_is _ HSZ.out _ HT2.out _).mono ?_
  rintro e w4 ⟨rfl, h4⟩
  go_wp2_with fail
  refine (alive_any _).mono ?_
  rintro e w5 ⟨rfl, h5⟩
  go_wp2
  all_goals go_ret
  all_goals refine ⟨ret_bool ?_, up (up (up (up (up ((Below.refl _ _).alloc (Nat.le_refl _) _) h1 (by simp)) h2 (by simp)) h3 (by simp)) h4 (by simp)) h5 (by simp)⟩
  all_goals first | rfl | (simp; done) | (simp; omega)

set_option maxHeartbeats 2000000 in
set_option maxRecDepth 100000 in
theorem more_7_00 (s : ByteArray) (c : Int) (hs0 : 0 < s.size) (hs1 : s.size ≤ 2000) (hl : 97 ≤ c) (hh : c ≤ 122) (hwd : nameB 97 122 s = false) (htg : nameB 65 90 s = false) (w : World) :
    Calls Try.prog 8 #[.string s, .int .u8 c] w fun e w' => e = .returned (.bool true) ∧ Below w.heap.size w w' := by
  have h0 : 0 ≤ c := by omega
  have h255 : c < 256 := by omega
  have h95 : (c == 95) = false := by simp; omega
  have hu : ((c.toNat.toUInt8).toNat : Int) = c := by simp; omega
  have hcv : (convert 32 9 (.slice (some ⟨w.heap.size, 0, none⟩) 1 1)).run Try.prog (w.alloc (.cells #[.int .u8 c] 5)) = _ :=
    one_byte _ w.heap.size c h0 h255 (by simp [go_sem])
  have hsz : (s ++ ⟨#[c.toNat.toUInt8]⟩ : ByteArray).size ≤ 2000000 := by rw [ByteArray.size_append]; show s.size + 1 ≤ 2000000; omega
  have HSZ := hid hsz
  have HS : Hid (s.size ≤ 2000000) := hid (by omega)
  clear hsz
  have hne : s.data.toList ≠ [] := by intro h; have e : s.data.toList.length = s.size := (by simp); rw [h] at e; simp at e; omega
  have hm : behB (((c.toNat.toUInt8).toNat : Nat) : Int) = true := by rw [hu]; simp [behB, inB]; try omega
  have HW2 : Hid (nameB 97 122 (s ++ ⟨#[c.toNat.toUInt8]⟩) = false) := hid (by rw [nameB_list, more_list, nameL_more _ _ _ _ hne, ← nameB_list, hwd, hm]; rfl)
  have HT2 : Hid (nameB 65 90 (s ++ ⟨#[c.toNat.toUInt8]⟩) = false) := hid (by rw [nameB_list, more_list, nameL_more _ _ _ _ hne, ← nameB_list, htg, hm]; rfl)
  have HWD := hid hwd
  have HTG := hid htg
  clear hwd htg hne hm hu
  go_enter Try.func8, Try.ntmps8
  go_wp2_with fail
  refine (isWord_is s HS.out _ HWD.out _).mono ?_
  rintro e w1 ⟨rfl, h1⟩
  go_wp2_with fail
  refine (isTag_is s HS.out _ HTG.out _).mono ?_
  rintro e w2 ⟨rfl, h2⟩
  go_wp2_with fail
  refine (isWord_is _ HSZ.out _ HW2.out _).mono ?_
  rintro e w3 ⟨rfl, h3⟩
  go_wp2_with fail
  refine (isTag_is _ HSZ.out _ HT2.out _).mono ?_
  rintro e w4 ⟨rfl, h4⟩
  go_wp2_with fail
  refine (alive_any _).mono ?_
  rintro e w5 ⟨rfl, h5⟩
  go_wp2
  all_goals go_ret
  all_goals refine ⟨ret_bool ?_, up (up (up (up (up ((Below.refl _ _).alloc (Nat.le_refl _) _) h1 (by simp)) h2 (by simp)) h3 (by simp)) h4 (by simp)) h5 (by simp)⟩
  all_goals first | rfl | (simp; done) | (simp; omega)

set_option maxHeartbeats 2000000 in
set_option maxRecDepth 100000 in
theorem more_7_e (s : ByteArray) (c : Int) (hs0 : s.size = 0) (hl : 97 ≤ c) (hh : c ≤ 122) (w : World) :
    Calls Try.prog 8 #[.string s, .int .u8 c] w fun e w' => e = .returned (.bool true) ∧ Below w.heap.size w w' := by
  have hse : s = ⟨#[]⟩ := by
    apply ByteArray.ext
    apply Array.eq_empty_of_size_eq_zero
    exact hs0
  subst hse
  clear hs0
  obtain ⟨s, hse⟩ : ∃ s : ByteArray, s = ⟨#[]⟩ := ⟨_, rfl⟩
  have hs0 : s.size ≤ 0 := by rw [hse]; decide
  rw [← hse]
  have h0 : 0 ≤ c := by omega
  have h255 : c < 256 := by omega
  have h95 : (c == 95) = false := by simp; omega
  have hu : ((c.toNat.toUInt8).toNat : Int) = c := by simp; omega
  have hcv : (convert 32 9 (.slice (some ⟨w.heap.size, 0, none⟩) 1 1)).run Try.prog (w.alloc (.cells #[.int .u8 c] 5)) = _ :=
    one_byte _ w.heap.size c h0 h255 (by simp [go_sem])
  have hsz : (s ++ ⟨#[c.toNat.toUInt8]⟩ : ByteArray).size ≤ 2000000 := by rw [ByteArray.size_append]; show s.size + 1 ≤ 2000000; omega
  have HSZ := hid hsz
  have HS : Hid (s.size ≤ 2000000) := hid (by omega)
  clear hsz
  have hnil : s.data.toList = [] := by rw [hse]
  have HWD : Hid (nameB 97 122 s = false) := hid (by rw [nameB_list, hnil]; rfl)
  have HTG : Hid (nameB 65 90 s = false) := hid (by rw [nameB_list, hnil]; rfl)
  have HW2 : Hid (nameB 97 122 (s ++ ⟨#[c.toNat.toUInt8]⟩) = true) := hid (by rw [nameB_list, more_list, hnil, List.nil_append, nameL_one, hu]; simp [inB]; try omega)
  have HT2 : Hid (nameB 65 90 (s ++ ⟨#[c.toNat.toUInt8]⟩) = false) := hid (by rw [nameB_list, more_list, hnil, List.nil_append, nameL_one, hu]; simp [inB]; try omega)
  clear hnil hu hse
  go_enter Try.func8, Try.ntmps8
  go_wp2_with fail
  refine (isWord_is s HS.out _ HWD.out _).mono ?_
  rintro e w1 ⟨rfl, h1⟩
  go_wp2_with fail
  refine (isTag_is s HS.out _ HTG.out _).mono ?_
  rintro e w2 ⟨rfl, h2⟩
  go_wp2_with fail
  refine (alive_any _).mono ?_
  rintro e w3 ⟨rfl, h3⟩
  go_wp2_with fail
  refine (isWord_is _ HSZ.out _ HW2.out _).mono ?_
  rintro e w4 ⟨rfl, h4⟩
  go_wp2_with fail
  refine (isTag_is _ HSZ.out _ HT2.out _).mono ?_
  rintro e w5 ⟨rfl, h5⟩
  go_wp2
  all_goals go_ret
  all_goals refine ⟨ret_bool ?_, up (up (up (up (up ((Below.refl _ _).alloc (Nat.le_refl _) _) h1 (by simp)) h2 (by simp)) h3 (by simp)) h4 (by simp)) h5 (by simp)⟩
  all_goals first | rfl | (simp; done) | (simp; omega)

set_option maxHeartbeats 2000000 in
set_option maxRecDepth 100000 in
theorem more_8_10 (s : ByteArray) (c : Int) (hs0 : 0 < s.size) (hs1 : s.size ≤ 2000) (hl : 123 ≤ c) (hh : c ≤ 255) (hwd : nameB 97 122 s = true) (htg : nameB 65 90 s = false) (w : World) :
    Calls Try.prog 8 #[.string s, .int .u8 c] w fun e w' => e = .returned (.bool true) ∧ Below w.heap.size w w' := by
  have h0 : 0 ≤ c := by omega
  have h255 : c < 256 := by omega
  have h95 : (c == 95) = false := by simp; omega
  have hu : ((c.toNat.toUInt8).toNat : Int) = c := by simp; omega
  have hcv : (convert 32 9 (.slice (some ⟨w.heap.size, 0, none⟩) 1 1)).run Try.prog (w.alloc (.cells #[.int .u8 c] 5)) = _ :=
    one_byte _ w.heap.size c h0 h255 (by simp [go_sem])
  have hsz : (s ++ ⟨#[c.toNat.toUInt8]⟩ : ByteArray).size ≤ 2000000 := by rw [ByteArray.size_append]; show s.size + 1 ≤ 2000000; omega
  have HSZ := hid hsz
  have HS : Hid (s.size ≤ 2000000) := hid (by omega)
  clear hsz
  have hne : s.data.toList ≠ [] := by intro h; have e : s.data.toList.length = s.size := (by simp); rw [h] at e; simp at e; omega
  have hm : behB (((c.toNat.toUInt8).toNat : Nat) : Int) = false := by rw [hu]; simp [behB, inB]; try omega
  have HW2 : Hid (nameB 97 122 (s ++ ⟨#[c.toNat.toUInt8]⟩) = false) := hid (by rw [nameB_list, more_list, nameL_more _ _ _ _ hne, ← nameB_list, hwd, hm]; rfl)
  have HT2 : Hid (nameB 65 90 (s ++ ⟨#[c.toNat.toUInt8]⟩) = false) := hid (by rw [nameB_list, more_list, nameL_more _ _ _ _ hne, ← nameB_list, htg, hm]; rfl)
  have HWD := hid hwd
  have HTG := hid htg
  clear hwd htg hne hm hu
  go_enter Try.func8, Try.ntmps8
  go_wp2_with fail
  refine (isWord_is s HS.out _ HWD.out _).mono ?_
  rintro e w1 ⟨rfl, h1⟩
  go_wp2_with fail
  refine (isTag_is s HS.out _ HTG.out _).mono ?_
  rintro e w2 ⟨rfl, h2⟩
  go_wp2_with fail
  refine (isWord_is _ HSZ.out _ HW2.out _).mono ?_
  rintro e w3 ⟨rfl, h3⟩
  go_wp2_with fail
  refine (isTag_is _ HSZ.out _ HT2.out _).mono ?_
  rintro e w4 ⟨rfl, h4⟩
  go_wp2_with fail
  refine (alive_any _).mono ?_
  rintro e w5 ⟨rfl, h5⟩
  go_wp2
  all_goals go_ret
  all_goals refine ⟨ret_bool ?_, up (up (up (up (up ((Below.refl _ _).alloc (Nat.le_refl _) _) h1 (by simp)) h2 (by simp)) h3 (by simp)) h4 (by simp)) h5 (by simp)⟩
  all_goals first | rfl | (simp; done) | (simp; omega)

set_option maxHeartbeats 2000000 in
set_option maxRecDepth 100000 in
theorem more_8_01 (s : ByteArray) (c : Int) (hs0 : 0 < s.size) (hs1 : s.size ≤ 2000) (hl : 123 ≤ c) (hh : c ≤ 255) (hwd : nameB 97 122 s = false) (htg : nameB 65 90 s = true) (w : World) :
    Calls Try.prog 8 #[.string s, .int .u8 c] w fun e w' => e = .returned (.bool true) ∧ Below w.heap.size w w' := by
  have h0 : 0 ≤ c := by omega
  have h255 : c < 256 := by omega
  have h95 : (c == 95) = false := by simp; omega
  have hu : ((c.toNat.toUInt8).toNat : Int) = c := by simp; omega
  have hcv : (convert 32 9 (.slice (some ⟨w.heap.size, 0, none⟩) 1 1)).run Try.prog (w.alloc (.cells #[.int .u8 c] 5)) = _ :=
    one_byte _ w.heap.size c h0 h255 (by simp [go_sem])
  have hsz : (s ++ ⟨#[c.toNat.toUInt8]⟩ : ByteArray).size ≤ 2000000 := by rw [ByteArray.size_append]; show s.size + 1 ≤ 2000000; omega
  have HSZ := hid hsz
  have HS : Hid (s.size ≤ 2000000) := hid (by omega)
  clear hsz
  have hne : s.data.toList ≠ [] := by intro h; have e : s.data.toList.length = s.size := (by simp); rw [h] at e; simp at e; omega
  have hm : behB (((c.toNat.toUInt8).toNat : Nat) : Int) = false := by rw [hu]; simp [behB, inB]; try omega
  have HW2 : Hid (nameB 97 122 (s ++ ⟨#[c.toNat.toUInt8]⟩) = false) := hid (by rw [nameB_list, more_list, nameL_more _ _ _ _ hne, ← nameB_list, hwd, hm]; rfl)
  have HT2 : Hid (nameB 65 90 (s ++ ⟨#[c.toNat.toUInt8]⟩) = false) := hid (by rw [nameB_list, more_list, nameL_more _ _ _ _ hne, ← nameB_list, htg, hm]; rfl)
  have HWD := hid hwd
  have HTG := hid htg
  clear hwd htg hne hm hu
  go_enter Try.func8, Try.ntmps8
  go_wp2_with fail
  refine (isWord_is s HS.out _ HWD.out _).mono ?_
  rintro e w1 ⟨rfl, h1⟩
  go_wp2_with fail
  refine (isTag_is s HS.out _ HTG.out _).mono ?_
  rintro e w2 ⟨rfl, h2⟩
  go_wp2_with fail
  refine (isWord_is _ HSZ.out _ HW2.out _).mono ?_
  rintro e w3 ⟨rfl, h3⟩
  go_wp2_with fail
  refine (isTag_is _ HSZ.out _ HT2.out _).mono ?_
  rintro e w4 ⟨rfl, h4⟩
  go_wp2_with fail
  refine (alive_any _).mono ?_
  rintro e w5 ⟨rfl, h5⟩
  go_wp2
  all_goals go_ret
  all_goals refine ⟨ret_bool ?_, up (up (up (up (up ((Below.refl _ _).alloc (Nat.le_refl _) _) h1 (by simp)) h2 (by simp)) h3 (by simp)) h4 (by simp)) h5 (by simp)⟩
  all_goals first | rfl | (simp; done) | (simp; omega)

set_option maxHeartbeats 2000000 in
set_option maxRecDepth 100000 in
theorem more_8_00 (s : ByteArray) (c : Int) (hs0 : 0 < s.size) (hs1 : s.size ≤ 2000) (hl : 123 ≤ c) (hh : c ≤ 255) (hwd : nameB 97 122 s = false) (htg : nameB 65 90 s = false) (w : World) :
    Calls Try.prog 8 #[.string s, .int .u8 c] w fun e w' => e = .returned (.bool true) ∧ Below w.heap.size w w' := by
  have h0 : 0 ≤ c := by omega
  have h255 : c < 256 := by omega
  have h95 : (c == 95) = false := by simp; omega
  have hu : ((c.toNat.toUInt8).toNat : Int) = c := by simp; omega
  have hcv : (convert 32 9 (.slice (some ⟨w.heap.size, 0, none⟩) 1 1)).run Try.prog (w.alloc (.cells #[.int .u8 c] 5)) = _ :=
    one_byte _ w.heap.size c h0 h255 (by simp [go_sem])
  have hsz : (s ++ ⟨#[c.toNat.toUInt8]⟩ : ByteArray).size ≤ 2000000 := by rw [ByteArray.size_append]; show s.size + 1 ≤ 2000000; omega
  have HSZ := hid hsz
  have HS : Hid (s.size ≤ 2000000) := hid (by omega)
  clear hsz
  have hne : s.data.toList ≠ [] := by intro h; have e : s.data.toList.length = s.size := (by simp); rw [h] at e; simp at e; omega
  have hm : behB (((c.toNat.toUInt8).toNat : Nat) : Int) = false := by rw [hu]; simp [behB, inB]; try omega
  have HW2 : Hid (nameB 97 122 (s ++ ⟨#[c.toNat.toUInt8]⟩) = false) := hid (by rw [nameB_list, more_list, nameL_more _ _ _ _ hne, ← nameB_list, hwd, hm]; rfl)
  have HT2 : Hid (nameB 65 90 (s ++ ⟨#[c.toNat.toUInt8]⟩) = false) := hid (by rw [nameB_list, more_list, nameL_more _ _ _ _ hne, ← nameB_list, htg, hm]; rfl)
  have HWD := hid hwd
  have HTG := hid htg
  clear hwd htg hne hm hu
  go_enter Try.func8, Try.ntmps8
  go_wp2_with fail
  refine (isWord_is s HS.out _ HWD.out _).mono ?_
  rintro e w1 ⟨rfl, h1⟩
  go_wp2_with fail
  refine (isTag_is s HS.out _ HTG.out _).mono ?_
  rintro e w2 ⟨rfl, h2⟩
  go_wp2_with fail
  refine (isWord_is _ HSZ.out _ HW2.out _).mono ?_
  rintro e w3 ⟨rfl, h3⟩
  go_wp2_with fail
  refine (isTag_is _ HSZ.out _ HT2.out _).mono ?_
  rintro e w4 ⟨rfl, h4⟩
  go_wp2_with fail
  refine (alive_any _).mono ?_
  rintro e w5 ⟨rfl, h5⟩
  go_wp2
  all_goals go_ret
  all_goals refine ⟨ret_bool ?_, up (up (up (up (up ((Below.refl _ _).alloc (Nat.le_refl _) _) h1 (by simp)) h2 (by simp)) h3 (by simp)) h4 (by simp)) h5 (by simp)⟩
  all_goals first | rfl | (simp; done) | (simp; omega)

set_option maxHeartbeats 2000000 in
set_option maxRecDepth 100000 in
theorem more_8_e (s : ByteArray) (c : Int) (hs0 : s.size = 0) (hl : 123 ≤ c) (hh : c ≤ 255) (w : World) :
    Calls Try.prog 8 #[.string s, .int .u8 c] w fun e w' => e = .returned (.bool true) ∧ Below w.heap.size w w' := by
  have hse : s = ⟨#[]⟩ := by
    apply ByteArray.ext
    apply Array.eq_empty_of_size_eq_zero
    exact hs0
  subst hse
  clear hs0
  obtain ⟨s, hse⟩ : ∃ s : ByteArray, s = ⟨#[]⟩ := ⟨_, rfl⟩
  have hs0 : s.size ≤ 0 := by rw [hse]; decide
  rw [← hse]
  have h0 : 0 ≤ c := by omega
  have h255 : c < 256 := by omega
  have h95 : (c == 95) = false := by simp; omega
  have hu : ((c.toNat.toUInt8).toNat : Int) = c := by simp; omega
  have hcv : (convert 32 9 (.slice (some ⟨w.heap.size, 0, none⟩) 1 1)).run Try.prog (w.alloc (.cells #[.int .u8 c] 5)) = _ :=
    one_byte _ w.heap.size c h0 h255 (by simp [go_sem])
  have hsz : (s ++ ⟨#[c.toNat.toUInt8]⟩ : ByteArray).size ≤ 2000000 := by rw [ByteArray.size_append]; show s.size + 1 ≤ 2000000; omega
  have HSZ := hid hsz
  have HS : Hid (s.size ≤ 2000000) := hid (by omega)
  clear hsz
  have hnil : s.data.toList = [] := by rw [hse]
  have HWD : Hid (nameB 97 122 s = false) := hid (by rw [nameB_list, hnil]; rfl)
  have HTG : Hid (nameB 65 90 s = false) := hid (by rw [nameB_list, hnil]; rfl)
  have HW2 : Hid (nameB 97 122 (s ++ ⟨#[c.toNat.toUInt8]⟩) = false) := hid (by rw [nameB_list, more_list, hnil, List.nil_append, nameL_one, hu]; simp [inB]; try omega)
  have HT2 : Hid (nameB 65 90 (s ++ ⟨#[c.toNat.toUInt8]⟩) = false) := hid (by rw [nameB_list, more_list, hnil, List.nil_append, nameL_one, hu]; simp [inB]; try omega)
  clear hnil hu hse
  go_enter Try.func8, Try.ntmps8
  go_wp2_with fail
  refine (isWord_is s HS.out _ HWD.out _).mono ?_
  rintro e w1 ⟨rfl, h1⟩
  go_wp2_with fail
  refine (isTag_is s HS.out _ HTG.out _).mono ?_
  rintro e w2 ⟨rfl, h2⟩
  go_wp2_with fail
  refine (alive_any _).mono ?_
  rintro e w3 ⟨rfl, h3⟩
  go_wp2_with fail
  refine (isWord_is _ HSZ.out _ HW2.out _).mono ?_
  rintro e w4 ⟨rfl, h4⟩
  go_wp2_with fail
  refine (isTag_is _ HSZ.out _ HT2.out _).mono ?_
  rintro e w5 ⟨rfl, h5⟩
  go_wp2
  all_goals go_ret
  all_goals refine ⟨ret_bool ?_, up (up (up (up (up ((Below.refl _ _).alloc (Nat.le_refl _) _) h1 (by simp)) h2 (by simp)) h3 (by simp)) h4 (by simp)) h5 (by simp)⟩
  all_goals first | rfl | (simp; done) | (simp; omega)


end Go.Proofs.Ytieggbmniheiiaa
