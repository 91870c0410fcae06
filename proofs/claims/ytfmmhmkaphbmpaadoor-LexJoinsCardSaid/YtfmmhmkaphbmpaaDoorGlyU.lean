/-
  The walks of isStray and of the functions that tell words and tags: each returns what plain lists of bytes say; the world grows above what was there. Condition: strings of at most 2000000 bytes.
-/
import Derived.Test.YtfmmhmkaphbmpaaDoorGlyV
namespace Go.Proofs.YtfmmhmkaphbmpaaDoor
open Go.RowKit

set_option maxHeartbeats 400000 in
theorem stray_no (s : ByteArray) (i : Nat) (r : Int) (hr : r < 65533 ∨ 65533 < r) (w : World) :
    Calls Tryd.prog 52 #[.string s, .int .i64 i, .int .i32 r] w fun e w' => e = .returned (.bool false) ∧ w = w' := by
  have h0 : (r == 65533) = false := by simp; omega
  go_enter Tryd.func52, Tryd.ntmps52
  go_wp2
  go_ret
  exact ⟨rfl, rfl⟩

set_option maxHeartbeats 400000 in
theorem stray_yes (s : ByteArray) (i : Nat) (hi : i ≤ s.size) (_hs : s.size ≤ 2000000) (w : World) :
    Calls Tryd.prog 52 #[.string s, .int .i64 i, .int .i32 65533] w fun e w' => e = .returned (.bool (!Lib.hasPrefix (s.data.toList.drop i) [239, 191, 189])) ∧ w = w' := by
  go_enter Tryd.func52, Tryd.ntmps52
  go_wp2_with (go_at_call 39; refine (Tryd.strings_HasPrefix _ _ _).mono ?_; rintro e w' ⟨rfl, rfl⟩)
  go_ret
  refine ⟨ret_bool ?_, rfl⟩
  rw [List.take_of_length_le (by simp)]

theorem prefix_of_long {l : List UInt8} (hl : l ≠ []) (h1 : 1 ≤ G.longL l) (hr : (G.runeL l).1 = 65533) : Lib.hasPrefix l [239, 191, 189] = true := by
  rcases G.rune_long l hl with ⟨h, _, _⟩ | ⟨_, hle, _, _, he, _⟩
  · omega
  · rw [hr] at he
    have e3 : Lib.encodeRune ((65533 : Nat) : Int) = [239, 191, 189] := by decide +kernel
    rw [e3] at he
    have : l = [239, 191, 189] ++ l.drop (G.longL l) := by
      have h := (List.take_append_drop (G.longL l) l).symm
      rw [← he] at h
      exact h
    rw [this]
    simp [Lib.hasPrefix, List.isPrefixOf]

theorem long_of_prefix {l : List UInt8} (h : Lib.hasPrefix l [239, 191, 189] = true) : G.longL l = 3 := by
  have h2 : [239, 191, 189] <+: l := by simpa [Lib.hasPrefix] using h
  obtain ⟨t, rfl⟩ := h2
  have a0 : G.at0 ([239, 191, 189] ++ t) 0 = 239 := rfl
  have a1 : G.at0 ([239, 191, 189] ++ t) 1 = 191 := rfl
  have a2 : G.at0 ([239, 191, 189] ++ t) 2 = 189 := rfl
  rw [G.longL_3 (lo := 128) (hi := 191) (by omega) (by omega) (by rw [a0]; rfl) (by rw [a0]; rfl)]
  rw [if_pos (by unfold G.contL; rw [a1, a2]; simp)]

theorem stray_true (s : ByteArray) (i : Nat) (hi : i < s.size) (hs : s.size ≤ 2000000) (hz : G.longL (s.data.toList.drop i) = 0) (w : World) :
    Calls Tryd.prog 52 #[.string s, .int .i64 i, .int .i32 65533] w fun e w' => e = .returned (.bool true) ∧ w = w' := by
  refine (stray_yes s i (by omega) hs w).mono fun e w' ⟨he, hw⟩ => ⟨he.trans (ret_bool ?_), hw⟩
  cases h : Lib.hasPrefix (s.data.toList.drop i) [239, 191, 189]
  · rfl
  · rw [long_of_prefix h] at hz
    omega

theorem stray_false (s : ByteArray) (i : Nat) (hi : i < s.size) (hs : s.size ≤ 2000000) (r : Nat) (hz : 1 ≤ G.longL (s.data.toList.drop i)) (hr : (G.runeL (s.data.toList.drop i)).1 = r) (w : World) :
    Calls Tryd.prog 52 #[.string s, .int .i64 i, .int .i32 r] w fun e w' => e = .returned (.bool false) ∧ w = w' := by
  by_cases h : r = 65533
  · subst h
    refine (stray_yes s i (by omega) hs w).mono fun e w' ⟨he, hw⟩ => ⟨he.trans (ret_bool ?_), hw⟩
    rw [prefix_of_long (by intro hn; have := congrArg List.length hn; simp at this; omega) hz hr]
    rfl
  · exact stray_no s i r (by omega) w

theorem drop_ne {s : ByteArray} {i : Nat} (hi : i < s.size) : s.data.toList.drop i ≠ [] := by
  intro hn
  have := congrArg List.length hn
  simp at this
  omega

/-- 'next' at a rune, with its numbers named. -/
theorem next_at (w : World) (s : ByteArray) (pos : Nat) (ty : TypeId) (h : pos < s.size) (r n : Nat) (hd : G.runeL (s.data.toList.drop pos) = (r, n)) :
    (Instr.next (.pointer (some ⟨w.heap.size, 0, none⟩)) true ty).run Tryd.prog (w.iter s pos) = .ok (.tuple #[.bool true, .int .i64 pos, .int .i32 r]) (w.iter s (pos + n)) := by
  rw [run_next_any w s pos ty h, G.decode_eq, hd]

/-- A word, or a tag: the first byte from lo to hi, all others such as may stand in one. -/
def nameB (lo hi : Int) (s : ByteArray) : Bool := decide (0 < s.size) && (inB (byteAt s 0) lo hi && allB s.size s 1)

theorem behB_of_in {lo hi c : Int} (h : (lo = 97 ∧ hi = 122) ∨ (lo = 65 ∧ hi = 90)) (hb : inB c lo hi = true) : behB c = true := by
  rcases h with ⟨rfl, rfl⟩ | ⟨rfl, rfl⟩ <;> simp [behB, hb]

theorem behB_high {c : Int} (h : 128 ≤ c) : behB c = false := by
  unfold behB inB
  have a : decide (c ≤ 122) = false := by simp; omega
  have b : decide (c ≤ 90) = false := by simp; omega
  have d : decide (c ≤ 57) = false := by simp; omega
  have e : (c == 95) = false := by simp; omega
  simp [a, b, d, e]

/-- Somewhere from i on stands a byte that may not. -/
theorem allB_bad (s : ByteArray) (f i j : Nat) (hij : i ≤ j) (hj : j < s.size) (hf : s.size ≤ i + f) (hb : behB (byteAt s j) = false) : allB f s i = false := by
  induction f generalizing i with
  | zero => omega
  | succ f ih =>
    rw [allB, if_pos (by omega)]
    by_cases e : i = j
    · subst e; rw [hb]; rfl
    · rw [ih (i + 1) (by omega) (by omega)]; simp

theorem ne_empty {s : ByteArray} (h : 0 < s.size) : s.toList.isEmpty = false := by
  rw [Lib.toList_data]
  cases hl : s.data.toList with
  | nil =>
    have e : s.data.toList.length = s.size := by simp
    rw [hl] at e
    simp at e
    omega
  | cons _ _ => rfl
theorem is_empty {s : ByteArray} (h : s.size = 0) : s.toList.isEmpty = true := by
  rw [Lib.toList_data]
  cases hl : s.data.toList with
  | nil => rfl
  | cons _ _ =>
    have e : s.data.toList.length = s.size := by simp
    rw [hl] at e
    simp at e
    omega

theorem runeL_low {s : ByteArray} {pos : Nat} (hp : pos < s.size) (hc : byteAt s pos < 128) : G.runeL (s.data.toList.drop pos) = (byteAt s pos, 1) := by
  have e : byteAt s pos = G.at0 (s.data.toList.drop pos) 0 := rfl
  rcases G.rune_long _ (drop_ne hp) with ⟨_, _, h⟩ | ⟨_, _, _, h2, _, ⟨_, h3, h4⟩ | ⟨h3, _, _⟩⟩
  · omega
  · rw [Prod.ext_iff]; exact ⟨h4, h2.trans h3⟩
  · omega

theorem runeL_high {s : ByteArray} {pos : Nat} (hp : pos < s.size) (hc : 128 ≤ byteAt s pos) : ∃ r n, G.runeL (s.data.toList.drop pos) = (r, n) ∧ 128 ≤ r := by
  have e : byteAt s pos = G.at0 (s.data.toList.drop pos) 0 := rfl
  rcases G.rune_long _ (drop_ne hp) with ⟨_, h, _⟩ | ⟨_, _, _, h2, _, ⟨h3, _, _⟩ | ⟨_, _, h3⟩⟩
  · exact ⟨_, _, h, by omega⟩
  · omega
  · exact ⟨_, _, rfl, h3⟩

theorem continues_yes (c : Int) (h : behB c = true) (w : World) : Calls Tryd.prog 71 #[.int .i32 c] w fun e w' => e = .returned (.bool true) ∧ w = w' :=
  (continues_any c w).mono fun _ _ ⟨he, hw⟩ => ⟨he.trans (ret_bool h), hw⟩
theorem continues_no (c : Int) (h : behB c = false) (w : World) : Calls Tryd.prog 71 #[.int .i32 c] w fun e w' => e = .returned (.bool false) ∧ w = w' :=
  (continues_any c w).mono fun _ _ ⟨he, hw⟩ => ⟨he.trans (ret_bool h), hw⟩
theorem small_yes (c : Int) (h : inB c 97 122 = true) (w : World) : Calls Tryd.prog 66 #[.int .i32 c] w fun e w' => e = .returned (.bool true) ∧ w = w' :=
  (small_any c w).mono fun _ _ ⟨he, hw⟩ => ⟨he.trans (ret_bool h), hw⟩
theorem small_no (c : Int) (h : inB c 97 122 = false) (w : World) : Calls Tryd.prog 66 #[.int .i32 c] w fun e w' => e = .returned (.bool false) ∧ w = w' :=
  (small_any c w).mono fun _ _ ⟨he, hw⟩ => ⟨he.trans (ret_bool h), hw⟩
theorem capital_yes (c : Int) (h : inB c 65 90 = true) (w : World) : Calls Tryd.prog 67 #[.int .i32 c] w fun e w' => e = .returned (.bool true) ∧ w = w' :=
  (capital_any c w).mono fun _ _ ⟨he, hw⟩ => ⟨he.trans (ret_bool h), hw⟩
theorem capital_no (c : Int) (h : inB c 65 90 = false) (w : World) : Calls Tryd.prog 67 #[.int .i32 c] w fun e w' => e = .returned (.bool false) ∧ w = w' :=
  (capital_any c w).mono fun _ _ ⟨he, hw⟩ => ⟨he.trans (ret_bool h), hw⟩

set_option maxHeartbeats 2000000 in
set_option maxRecDepth 100000 in
theorem isName_small (s : ByteArray) (hs : s.size ≤ 2000000) (w : World) :
    Calls Tryd.prog 65 #[.string s, .func (.func 66) #[] #[]] w fun e w' => e = .returned (.bool (nameB 97 122 s)) ∧ Below w.heap.size w w' := by
  go_enter Tryd.func65, Tryd.ntmps65
  go_wp2
  go_loopw [] (fun wr => ∃ pos f : Nat, wr = w.iter s pos ∧ (pos = 0 ∨ (0 < pos ∧ 0 < s.size ∧ inB (byteAt s 0) 97 122 = true ∧ allB f s pos = allB s.size s 1 ∧ s.size ≤ pos + f))) (fun wr => s.size - wr.iterPos w.heap.size)
  case atStart => exact ⟨0, 0, rfl, Or.inl rfl⟩
  case round =>
    obtain ⟨pos, f, rfl, hrel⟩ := hrel
    have HR := hid hrel
    clear hrel
    by_cases hp : pos < s.size
    · by_cases hc : byteAt s pos < 128
      · have hd : G.runeL (s.data.toList.drop pos) = (byteAt s pos, 1) := runeL_low hp hc
        have hnx : ∀ ty, (Instr.next (.pointer (some ⟨w.heap.size, 0, none⟩)) true ty).run Tryd.prog (w.iter s pos) = _ := fun ty => next_at w s pos ty hp _ _ hd
        clear hd
        by_cases h0 : 0 < pos
        · have hne : ((pos : Int) == 0) = false := by simp; omega
          go_wp2_with (go_at_call 71; refine (continues_any _ _).mono ?_; rintro e w' ⟨rfl, rfl⟩)
          · have ht : (!behB (byteAt s pos : Int)) = true := by assumption
            go_ret
            refine ⟨ret_bool ?_, (Below.refl _ _).alloc (Nat.le_refl _) _⟩
            rcases HR.out with h | ⟨_, h1, h2, h3, h4⟩
            · omega
            · simp only [nameB]
              rw [← h3, allB_bad s f pos pos (Nat.le_refl _) hp h4 (by simpa using ht)]
              simp
          · have ht : (!behB (byteAt s pos : Int)) = false := by first | assumption | simp_all
            go_roundw
            case rel =>
              refine ⟨pos + 1, f - 1, rfl, Or.inr ?_⟩
              rcases HR.out with h | ⟨_, h1, h2, h3, h4⟩
              · omega
              · refine ⟨by omega, h1, h2, ?_, by omega⟩
                rw [← h3]
                obtain ⟨g, rfl⟩ : ∃ g, f = g + 1 := ⟨f - 1, by omega⟩
                rw [allB, if_pos hp]
                simp at ht
                simp [ht]
            case measure => simp; omega
        · obtain rfl : pos = 0 := by omega
          by_cases hb : inB (byteAt s 0) 97 122 = true
          · have hbe := behB_of_in (by decide) hb
            go_wp2_with (first | (go_at_call 71; refine (continues_yes _ hbe _).mono ?_; rintro e w' ⟨rfl, rfl⟩) | (go_at_call 66; refine (small_yes _ hb _).mono ?_; rintro e w' ⟨rfl, rfl⟩))
            go_roundw
            case rel => exact ⟨1, s.size, rfl, Or.inr ⟨by omega, hp, hb, rfl, by omega⟩⟩
            case measure => simp; omega
          · simp only [Bool.not_eq_true] at hb
            go_wp2_with (go_at_call 66; refine (small_no _ hb _).mono ?_; rintro e w' ⟨rfl, rfl⟩)
            go_ret
            refine ⟨ret_bool ?_, (Below.refl _ _).alloc (Nat.le_refl _) _⟩
            simp [nameB, hb]
      · obtain ⟨r, n, hd, hr⟩ : ∃ r n, G.runeL (s.data.toList.drop pos) = (r, n) ∧ 128 ≤ r := runeL_high hp (by omega)
        have hr2 : r ≤ 2147483647 := by have := decode_le s pos; rw [G.decode_eq, hd] at this; exact this
        have hnx : ∀ ty, (Instr.next (.pointer (some ⟨w.heap.size, 0, none⟩)) true ty).run Tryd.prog (w.iter s pos) = _ := fun ty => next_at w s pos ty hp _ _ hd
        clear hd
        have hbe : behB (r : Int) = false := behB_high (by omega)
        have hbs : behB (byteAt s pos : Int) = false := behB_high (by omega)
        have HX := hid hbs
        clear hbs
        by_cases h0 : 0 < pos
        · have hne : ((pos : Int) == 0) = false := by simp; omega
          go_wp2_with (go_at_call 71; refine (continues_no _ hbe _).mono ?_; rintro e w' ⟨rfl, rfl⟩)
          go_ret
          refine ⟨ret_bool ?_, (Below.refl _ _).alloc (Nat.le_refl _) _⟩
          rcases HR.out with h | ⟨_, h1, h2, h3, h4⟩
          · omega
          · simp only [nameB]
            rw [← h3, allB_bad s f pos pos (Nat.le_refl _) hp h4 HX.out]
            simp
        · obtain rfl : pos = 0 := by omega
          have hb : inB (r : Int) 97 122 = false := by
            cases h : inB (r : Int) 97 122
            · rfl
            · rw [behB_of_in (by decide) h] at hbe; exact hbe
          have hb2 : inB (byteAt s 0 : Int) 97 122 = false := by
            cases h : inB (byteAt s 0 : Int) 97 122
            · rfl
            · have := HX.out; rw [behB_of_in (by decide) h] at this; exact this
          have HY := hid hb2
          clear hb2
          go_wp2_with (go_at_call 66; refine (small_no _ hb _).mono ?_; rintro e w' ⟨rfl, rfl⟩)
          go_ret
          refine ⟨ret_bool ?_, (Below.refl _ _).alloc (Nat.le_refl _) _⟩
          simp [nameB, HY.out]
    · have hnx : ∀ ty, (Instr.next (.pointer (some ⟨w.heap.size, 0, none⟩)) true ty).run Tryd.prog (w.iter s pos) = _ := fun ty => run_next_end w s pos ty hp
      by_cases hz : 0 < s.size
      · go_wp2
        go_ret
        refine ⟨ret_bool ?_, (Below.refl _ _).alloc (Nat.le_refl _) _⟩
        rcases HR.out with h | ⟨_, h1, h2, h3, h4⟩
        · omega
        · have hE : allB f s pos = true := allB_end s f pos hp
          rw [h3] at hE
          simp [nameB, hE, h2, hz, ne_empty hz]
      · go_wp2
        go_ret
        refine ⟨ret_bool ?_, (Below.refl _ _).alloc (Nat.le_refl _) _⟩
        simp [nameB, hz, is_empty (show s.size = 0 by omega)]

set_option maxHeartbeats 400000 in
theorem isWord_any (s : ByteArray) (hs : s.size ≤ 2000000) (w : World) :
    Calls Tryd.prog 57 #[.string s] w fun e w' => e = .returned (.bool (nameB 97 122 s)) ∧ Below w.heap.size w w' := by
  go_enter Tryd.func57, Tryd.ntmps57
  go_wp2_with (go_at_call 65; refine (isName_small s hs _).mono ?_; rintro e w' ⟨rfl, hb⟩)
  go_ret
  exact ⟨rfl, hb⟩

set_option maxHeartbeats 2000000 in
set_option maxRecDepth 100000 in
theorem isName_capital (s : ByteArray) (hs : s.size ≤ 2000000) (w : World) :
    Calls Tryd.prog 65 #[.string s, .func (.func 67) #[] #[]] w fun e w' => e = .returned (.bool (nameB 65 90 s)) ∧ Below w.heap.size w w' := by
  go_enter Tryd.func65, Tryd.ntmps65
  go_wp2
  go_loopw [] (fun wr => ∃ pos f : Nat, wr = w.iter s pos ∧ (pos = 0 ∨ (0 < pos ∧ 0 < s.size ∧ inB (byteAt s 0) 65 90 = true ∧ allB f s pos = allB s.size s 1 ∧ s.size ≤ pos + f))) (fun wr => s.size - wr.iterPos w.heap.size)
  case atStart => exact ⟨0, 0, rfl, Or.inl rfl⟩
  case round =>
    obtain ⟨pos, f, rfl, hrel⟩ := hrel
    have HR := hid hrel
    clear hrel
    by_cases hp : pos < s.size
    · by_cases hc : byteAt s pos < 128
      · have hd : G.runeL (s.data.toList.drop pos) = (byteAt s pos, 1) := runeL_low hp hc
        have hnx : ∀ ty, (Instr.next (.pointer (some ⟨w.heap.size, 0, none⟩)) true ty).run Tryd.prog (w.iter s pos) = _ := fun ty => next_at w s pos ty hp _ _ hd
        clear hd
        by_cases h0 : 0 < pos
        · have hne : ((pos : Int) == 0) = false := by simp; omega
          go_wp2_with (go_at_call 71; refine (continues_any _ _).mono ?_; rintro e w' ⟨rfl, rfl⟩)
          · have ht : (!behB (byteAt s pos : Int)) = true := by assumption
            go_ret
            refine ⟨ret_bool ?_, (Below.refl _ _).alloc (Nat.le_refl _) _⟩
            rcases HR.out with h | ⟨_, h1, h2, h3, h4⟩
            · omega
            · simp only [nameB]
              rw [← h3, allB_bad s f pos pos (Nat.le_refl _) hp h4 (by simpa using ht)]
              simp
          · have ht : (!behB (byteAt s pos : Int)) = false := by first | assumption | simp_all
            go_roundw
            case rel =>
              refine ⟨pos + 1, f - 1, rfl, Or.inr ?_⟩
              rcases HR.out with h | ⟨_, h1, h2, h3, h4⟩
              · omega
              · refine ⟨by omega, h1, h2, ?_, by omega⟩
                rw [← h3]
                obtain ⟨g, rfl⟩ : ∃ g, f = g + 1 := ⟨f - 1, by omega⟩
                rw [allB, if_pos hp]
                simp at ht
                simp [ht]
            case measure => simp; omega
        · obtain rfl : pos = 0 := by omega
          by_cases hb : inB (byteAt s 0) 65 90 = true
          · have hbe := behB_of_in (by decide) hb
            go_wp2_with (first | (go_at_call 71; refine (continues_yes _ hbe _).mono ?_; rintro e w' ⟨rfl, rfl⟩) | (go_at_call 67; refine (capital_yes _ hb _).mono ?_; rintro e w' ⟨rfl, rfl⟩))
            go_roundw
            case rel => exact ⟨1, s.size, rfl, Or.inr ⟨by omega, hp, hb, rfl, by omega⟩⟩
            case measure => simp; omega
          · simp only [Bool.not_eq_true] at hb
            go_wp2_with (go_at_call 67; refine (capital_no _ hb _).mono ?_; rintro e w' ⟨rfl, rfl⟩)
            go_ret
            refine ⟨ret_bool ?_, (Below.refl _ _).alloc (Nat.le_refl _) _⟩
            simp [nameB, hb]
      · obtain ⟨r, n, hd, hr⟩ : ∃ r n, G.runeL (s.data.toList.drop pos) = (r, n) ∧ 128 ≤ r := runeL_high hp (by omega)
        have hr2 : r ≤ 2147483647 := by have := decode_le s pos; rw [G.decode_eq, hd] at this; exact this
        have hnx : ∀ ty, (Instr.next (.pointer (some ⟨w.heap.size, 0, none⟩)) true ty).run Tryd.prog (w.iter s pos) = _ := fun ty => next_at w s pos ty hp _ _ hd
        clear hd
        have hbe : behB (r : Int) = false := behB_high (by omega)
        have hbs : behB (byteAt s pos : Int) = false := behB_high (by omega)
        have HX := hid hbs
        clear hbs
        by_cases h0 : 0 < pos
        · have hne : ((pos : Int) == 0) = false := by simp; omega
          go_wp2_with (go_at_call 71; refine (continues_no _ hbe _).mono ?_; rintro e w' ⟨rfl, rfl⟩)
          go_ret
          refine ⟨ret_bool ?_, (Below.refl _ _).alloc (Nat.le_refl _) _⟩
          rcases HR.out with h | ⟨_, h1, h2, h3, h4⟩
          · omega
          · simp only [nameB]
            rw [← h3, allB_bad s f pos pos (Nat.le_refl _) hp h4 HX.out]
            simp
        · obtain rfl : pos = 0 := by omega
          have hb : inB (r : Int) 65 90 = false := by
            cases h : inB (r : Int) 65 90
            · rfl
            · rw [behB_of_in (by decide) h] at hbe; exact hbe
          have hb2 : inB (byteAt s 0 : Int) 65 90 = false := by
            cases h : inB (byteAt s 0 : Int) 65 90
            · rfl
            · have := HX.out; rw [behB_of_in (by decide) h] at this; exact this
          have HY := hid hb2
          clear hb2
          go_wp2_with (go_at_call 67; refine (capital_no _ hb _).mono ?_; rintro e w' ⟨rfl, rfl⟩)
          go_ret
          refine ⟨ret_bool ?_, (Below.refl _ _).alloc (Nat.le_refl _) _⟩
          simp [nameB, HY.out]
    · have hnx : ∀ ty, (Instr.next (.pointer (some ⟨w.heap.size, 0, none⟩)) true ty).run Tryd.prog (w.iter s pos) = _ := fun ty => run_next_end w s pos ty hp
      by_cases hz : 0 < s.size
      · go_wp2
        go_ret
        refine ⟨ret_bool ?_, (Below.refl _ _).alloc (Nat.le_refl _) _⟩
        rcases HR.out with h | ⟨_, h1, h2, h3, h4⟩
        · omega
        · have hE : allB f s pos = true := allB_end s f pos hp
          rw [h3] at hE
          simp [nameB, hE, h2, hz, ne_empty hz]
      · go_wp2
        go_ret
        refine ⟨ret_bool ?_, (Below.refl _ _).alloc (Nat.le_refl _) _⟩
        simp [nameB, hz, is_empty (show s.size = 0 by omega)]

set_option maxHeartbeats 400000 in
theorem isTag_any (s : ByteArray) (hs : s.size ≤ 2000000) (w : World) :
    Calls Tryd.prog 58 #[.string s] w fun e w' => e = .returned (.bool (nameB 65 90 s)) ∧ Below w.heap.size w w' := by
  go_enter Tryd.func58, Tryd.ntmps58
  go_wp2_with (go_at_call 65; refine (isName_capital s hs _).mono ?_; rintro e w' ⟨rfl, hb⟩)
  go_ret
  exact ⟨rfl, hb⟩

end Go.Proofs.YtfmmhmkaphbmpaaDoor
