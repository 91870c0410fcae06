/-
  The walks of the reference's IsWord, IsTag and Place and of glyph's Place: each returns what plain lists of bytes say; the world grows above what was there. Condition: strings of at most 2000000 bytes.
-/
import Derived.Test.YtieggbmniheiiaaGlyU
namespace Go.Proofs.Ytieggbmniheiiaa
open Go.RowKit

set_option maxHeartbeats 400000 in
theorem refWord_any (s : ByteArray) (hs : s.size ≤ 2000000) (w : World) :
    Calls Try.prog 13 #[.string s] w fun e w' => e = .returned (.bool (nameB 97 122 s)) ∧ w = w' := by
  by_cases h0 : 0 < s.size
  · have HB := hid (byteAt_eq s 0 h0)
    go_enter Try.func13, Try.ntmps13
    go_wp2_with (first | (go_at_call 25; refine (within_any _ _ _ _).mono ?_; rintro e w' ⟨rfl, rfl⟩) | (go_at_call 26; refine (all_any s hs _).mono ?_; rintro e w' ⟨rfl, rfl⟩))
    all_goals go_ret
    all_goals refine ⟨ret_bool ?_, rfl⟩
    all_goals rw [HB.out] at *
    all_goals simp_all [nameB]
  · go_enter Try.func13, Try.ntmps13
    go_wp2
    go_ret
    exact ⟨ret_bool (by simp [nameB, h0]), rfl⟩

set_option maxHeartbeats 400000 in
theorem refTag_any (s : ByteArray) (hs : s.size ≤ 2000000) (w : World) :
    Calls Try.prog 15 #[.string s] w fun e w' => e = .returned (.bool (nameB 65 90 s)) ∧ w = w' := by
  by_cases h0 : 0 < s.size
  · have HB := hid (byteAt_eq s 0 h0)
    go_enter Try.func15, Try.ntmps15
    go_wp2_with (first | (go_at_call 25; refine (within_any _ _ _ _).mono ?_; rintro e w' ⟨rfl, rfl⟩) | (go_at_call 26; refine (all_any s hs _).mono ?_; rintro e w' ⟨rfl, rfl⟩))
    all_goals go_ret
    all_goals refine ⟨ret_bool ?_, rfl⟩
    all_goals rw [HB.out] at *
    all_goals simp_all [nameB]
  · go_enter Try.func15, Try.ntmps15
    go_wp2
    go_ret
    exact ⟨ret_bool (by simp [nameB, h0]), rfl⟩

theorem drop_nil {s : ByteArray} {i : Nat} (hi : ¬ i < s.size) : s.data.toList.drop i = [] := by
  apply List.drop_eq_nil_of_le
  simp
  omega

theorem runeL_is {s : ByteArray} {pos : Nat} (hp : pos < s.size) : ∃ r, G.runeL (s.data.toList.drop pos) = (r, G.wid (s.data.toList.drop pos)) ∧ r ≤ 2147483647 ∧ (r = 10 ↔ G.at0 (s.data.toList.drop pos) 0 = 10) := by
  refine ⟨(G.runeL (s.data.toList.drop pos)).1, ?_, ?_, ?_⟩
  · rw [Prod.ext_iff]; exact ⟨rfl, G.runeL_wid (drop_ne hp)⟩
  · rw [← G.decode_eq]; exact decode_le s pos
  · rcases G.rune_long _ (drop_ne hp) with ⟨_, h, h3⟩ | ⟨_, _, _, _, _, ⟨_, _, h3⟩ | ⟨h1, _, h3⟩⟩
    · rw [h]; constructor
      · intro h4; simp at h4
      · intro h4; omega
    · rw [h3]
    · omega

theorem longL_le4 {l : List UInt8} (hl : l ≠ []) : G.longL l ≤ 4 := by
  rcases G.rune_long l hl with ⟨h, _, _⟩ | ⟨_, _, h, _⟩ <;> omega

theorem ret_two {a b c d : Int} (h : a = c) (h2 : b = d) : Ending.returned (.tuple #[.int .i64 a, .int .i64 b]) = .returned (.tuple #[.int .i64 c, .int .i64 d]) := by rw [h, h2]

/-- What Place returns. -/
def placeV (s : ByteArray) (k : Int) : Value := .tuple #[.int .i64 (G.placeL s.size k s.data.toList 1 1).1, .int .i64 (G.placeL s.size k s.data.toList 1 1).2]

set_option maxHeartbeats 1000000 in
set_option maxRecDepth 100000 in
theorem place_any (s : ByteArray) (hs : s.size ≤ 2000000) (k : Int) (w : World) :
    Calls Try.prog 20 #[.string s, .int .i64 k] w fun e w' => e = .returned (placeV s k) ∧ Below w.heap.size w w' := by
  go_enter Try.func20, Try.ntmps20
  go_wp2
  go_loopw [6, 7] (fun va vb wr => ∃ pos f a b : Nat, wr = w.iter s pos ∧ va = .int .i64 a ∧ vb = .int .i64 b ∧ G.placeL f (k - pos) (s.data.toList.drop pos) a b = G.placeL s.size k s.data.toList 1 1 ∧ s.size ≤ pos + f ∧ a ≤ pos + 1 ∧ b ≤ pos + 1) (fun _ _ wr => s.size - wr.iterPos w.heap.size)
  case atStart => exact ⟨0, s.size, 1, 1, rfl, rfl, rfl, by simp, by omega, by omega, by omega⟩
  case round =>
    obtain ⟨pos, f, a, b, rfl, rfl, rfl, hpl, hf, ha, hb⟩ := hrel
    have HR := hid hpl
    clear hpl
    by_cases hp : pos < s.size
    · obtain ⟨r, hd, hr2, hr10⟩ := runeL_is hp
      have hnx : ∀ ty, (Instr.next (.pointer (some ⟨w.heap.size, 0, none⟩)) true ty).run Try.prog (w.iter s pos) = _ := fun ty => next_at w s pos ty hp _ _ hd
      clear hd
      have HW := hid (G.wid_pos (s.data.toList.drop pos))
      have H10 := hid hr10
      clear hr10
      by_cases hk : k ≤ pos
      · go_wp2
        go_ret2
        refine ⟨?_, (Below.refl _ _).alloc (Nat.le_refl _) _⟩
        unfold placeV
        rw [← HR.out, G.placeL_stop (Or.inr (by omega))]
        rfl
      · obtain ⟨g, rfl⟩ : ∃ g, f = g + 1 := ⟨f - 1, by omega⟩
        by_cases hr : r = 10
        · have hrb : ((r : Int) == 10) = true := by simp; omega
          have HE := hid hr
          clear hr
          go_wp2
          go_roundw
          case rel =>
            have hw := HW.out
            refine ⟨pos + G.wid (s.data.toList.drop pos), g, a + 1, 1, rfl, rfl, rfl, ?_, by omega, by omega, by omega⟩
            rw [← HR.out, G.placeL, if_neg (by intro h; rcases h with h | h; exact drop_ne hp h; omega), if_pos (H10.out.1 HE.out), List.drop_drop]
            congr 1
            omega
          case measure => have hw := HW.out; simp; omega
        · have hrb : ((r : Int) == 10) = false := by simp; omega
          have HE := hid hr
          clear hr
          go_wp2
          go_roundw
          case rel =>
            have hw := HW.out
            refine ⟨pos + G.wid (s.data.toList.drop pos), g, a, b + 1, rfl, rfl, rfl, ?_, by omega, by omega, by omega⟩
            rw [← HR.out, G.placeL, if_neg (by intro h; rcases h with h | h; exact drop_ne hp h; omega), if_neg (fun h => HE.out (H10.out.2 h)), List.drop_drop]
            congr 1
            omega
          case measure => have hw := HW.out; simp; omega
    · have hnx : ∀ ty, (Instr.next (.pointer (some ⟨w.heap.size, 0, none⟩)) true ty).run Try.prog (w.iter s pos) = _ := fun ty => run_next_end w s pos ty hp
      go_wp2
      go_ret2
      refine ⟨?_, (Below.refl _ _).alloc (Nat.le_refl _) _⟩
      unfold placeV
      rw [← HR.out, G.placeL_stop (Or.inl (drop_nil hp))]
      rfl

set_option maxHeartbeats 1000000 in
set_option maxRecDepth 100000 in
theorem refPlace_any (s : ByteArray) (hs : s.size ≤ 2000000) (k : Int) (w : World) :
    Calls Try.prog 21 #[.string s, .int .i64 k] w fun e w' => e = .returned (placeV s k) ∧ w = w' := by
  go_enter Try.func21, Try.ntmps21
  go_wp2
  generalize hm : min (max k 0) (s.size : Int) = m
  have hm1 : m ≤ s.size := by omega
  have hm2 : 0 ≤ m := by omega
  have HM := hid hm
  clear hm
  go_loop [6, 7, 8] (fun va vb vi => ∃ pos f a b : Nat, va = .int .i64 a ∧ vb = .int .i64 b ∧ vi = .int .i64 pos ∧ G.placeL f (k - pos) (s.data.toList.drop pos) a b = G.placeL s.size k s.data.toList 1 1 ∧ s.size ≤ pos + f ∧ a ≤ pos + 1 ∧ b ≤ pos + 1 ∧ pos ≤ s.size) (fun _ _ vi => s.size - (intOf vi).toNat)
  case atStart => exact ⟨0, s.size, 1, 1, rfl, rfl, rfl, by simp, by omega, by omega, by omega, by omega⟩
  case round =>
    obtain ⟨pos, f, a, b, rfl, rfl, rfl, hpl, hf, ha, hb, hps⟩ := hrel
    have HR := hid hpl
    clear hpl
    by_cases hk : (pos : Int) < m
    · have hp : pos < s.size := by omega
      have HP := hid hp
      have HB := hid (byteAt_eq s pos hp)
      obtain ⟨g, rfl⟩ : ∃ g, f = g + 1 := ⟨f - 1, by omega⟩
      have HW := hid (G.wid_pos (s.data.toList.drop pos))
      have HW2 := hid (G.wid_le (drop_ne hp))
      have hl4 : G.longL (s.data.toList.drop pos) ≤ 4 := longL_le4 (drop_ne hp)
      have HK : Hid ((pos : Int) < k) := hid (by have := HM.out; omega)
      by_cases hr : byteAt s pos = 10
      · have hrb : (((s[pos]'hp).toNat : Int) == 10) = true := by rw [HB.out, hr]; rfl
        have HE := hid hr
        clear hr
        have hrb1 : (s[pos]'hp).toNat ≤ 10 := by have := HB.out; have := HE.out; omega
        have hrb2 : 10 ≤ (s[pos]'hp).toNat := by have := HB.out; have := HE.out; omega
        go_wp2_with (go_at_call 22; refine (long_any s pos hp hs _).mono ?_; rintro e w' ⟨rfl, rfl⟩)
        go_round
        case rel =>
          have hw := HW2.out
          have hw3 : (s.data.toList.drop pos).length = s.size - pos := by simp
          refine ⟨pos + G.wid (s.data.toList.drop pos), g, a + 1, 1, rfl, rfl, ?_, ?_, ?_, ?_, ?_, ?_⟩
          · unfold G.wid; go_num
          · have hk := HK.out
            rw [← HR.out, G.placeL, if_neg (by intro h; rcases h with h | h; exact drop_ne HP.out h; omega), if_pos (show G.at0 (s.data.toList.drop pos) 0 = 10 from HE.out), List.drop_drop]
            congr 1
            omega
          · have := HW.out; omega
          · have := HW.out; omega
          · omega
          · have := HP.out; omega
        case measure => have := HP.out; simp [intOf]; omega
      · have hrb : (((s[pos]'hp).toNat : Int) == 10) = false := by rw [HB.out]; simp; omega
        have HE := hid hr
        clear hr
        have HX := hid hrb
        go_wp2_with (go_at_call 22; refine (long_any s pos hp hs _).mono ?_; rintro e w' ⟨rfl, rfl⟩)
        go_round
        case rel =>
          have hw := HW2.out
          have hw3 : (s.data.toList.drop pos).length = s.size - pos := by simp
          refine ⟨pos + G.wid (s.data.toList.drop pos), g, a, b + 1, rfl, rfl, ?_, ?_, ?_, ?_, ?_, ?_⟩
          · unfold G.wid; go_num
          · have hk := HK.out
            rw [← HR.out, G.placeL, if_neg (by intro h; rcases h with h | h; exact drop_ne HP.out h; omega), if_neg (show ¬ G.at0 (s.data.toList.drop pos) 0 = 10 from HE.out), List.drop_drop]
            congr 1
            omega
          · have := HW.out; omega
          · have := HW.out; omega
          · have := HW.out; omega
          · have := HP.out; omega
        case measure => have := HP.out; simp [intOf]; omega
    · go_wp2
      go_ret2
      refine ⟨?_, rfl⟩
      unfold placeV
      have : s.data.toList.drop pos = [] ∨ k - pos ≤ 0 := by
        by_cases h : pos < s.size
        · right; have := HM.out; omega
        · left; exact drop_nil h
      rw [← HR.out, G.placeL_stop this]
      rfl

end Go.Proofs.Ytieggbmniheiiaa
