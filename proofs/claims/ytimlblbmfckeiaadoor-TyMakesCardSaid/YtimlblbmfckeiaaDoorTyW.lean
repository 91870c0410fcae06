/-
  The walks of words and tags, the program's and the reference's: each returns what plain arithmetic on the bytes says. Condition: strings of at most 2000000 bytes.
-/
import Derived.Test.YtimlblbmfckeiaaDoorGlyM
import Derived.Test.YtimlblbmfckeiaaDoorShelf
import Derived.WalkKit
import Derived.WalkSpells
import Derived.WalkLawsBesides
namespace Go.Proofs.YtimlblbmfckeiaaDoor
open Go.RowKit

theorem hid {p : Prop} (h : p) : Hid p := h

def inB (c a b : Int) : Bool := decide (a ≤ c) && decide (c ≤ b)

theorem ret_bool {a b : Bool} (h : a = b) : Ending.returned (.bool a) = .returned (.bool b) := by rw [h]

set_option maxHeartbeats 400000 in
theorem within_any (c a b : Int) (w : World) : Calls Tryd.prog 64 #[.int .u8 c, .int .u8 a, .int .u8 b] w fun e w' => e = .returned (.bool (inB c a b)) ∧ w = w' := by
  by_cases h1 : a ≤ c
  · by_cases h2 : c ≤ b
    · go_enter Tryd.func64, Tryd.ntmps64
      go_wp2
      go_ret
      exact ⟨ret_bool (by simp [inB, h1, h2]), rfl⟩
    · go_enter Tryd.func64, Tryd.ntmps64
      go_wp2
      go_ret
      exact ⟨ret_bool (by simp [inB, h1, h2]), rfl⟩
  · go_enter Tryd.func64, Tryd.ntmps64
    go_wp2
    go_ret
    exact ⟨ret_bool (by simp [inB]; omega), rfl⟩

set_option maxHeartbeats 400000 in
theorem small_any (c : Int) (w : World) : Calls Tryd.prog 78 #[.int .i32 c] w fun e w' => e = .returned (.bool (inB c 97 122)) ∧ w = w' := by
  go_enter Tryd.func78, Tryd.ntmps78
  go_wp2
  all_goals go_ret
  all_goals exact ⟨ret_bool (by simp [inB]; omega), rfl⟩

set_option maxHeartbeats 400000 in
theorem capital_any (c : Int) (w : World) : Calls Tryd.prog 79 #[.int .i32 c] w fun e w' => e = .returned (.bool (inB c 65 90)) ∧ w = w' := by
  go_enter Tryd.func79, Tryd.ntmps79
  go_wp2
  all_goals go_ret
  all_goals exact ⟨ret_bool (by simp [inB]; omega), rfl⟩

/-- May a byte, or a rune, stand behind the first one of a word? -/
def behB (c : Int) : Bool := inB c 97 122 || inB c 65 90 || inB c 48 57 || c == 95

set_option maxHeartbeats 400000 in
theorem behind_any (c : Int) (w : World) : Calls Tryd.prog 75 #[.int .u8 c] w fun e w' => e = .returned (.bool (behB c)) ∧ w = w' := by
  go_enter Tryd.func75, Tryd.ntmps75
  go_wp2_with (go_at_call 64; refine (within_any _ _ _ _).mono ?_; rintro e w' ⟨rfl, rfl⟩)
  all_goals go_ret
  all_goals exact ⟨ret_bool (by simp_all [behB]), rfl⟩

set_option maxHeartbeats 400000 in
theorem continues_any (c : Int) (w : World) : Calls Tryd.prog 95 #[.int .i32 c] w fun e w' => e = .returned (.bool (behB c)) ∧ w = w' := by
  go_enter Tryd.func95, Tryd.ntmps95
  go_wp2_with (first | (go_at_call 78; refine (small_any _ _).mono ?_; rintro e w' ⟨rfl, rfl⟩) | (go_at_call 79; refine (capital_any _ _).mono ?_; rintro e w' ⟨rfl, rfl⟩))
  all_goals go_ret
  all_goals exact ⟨ret_bool (by rw [Bool.eq_iff_iff]; simp_all [behB, inB]; try omega), rfl⟩

/-- Byte i of a string, as a number. -/
def byteAt (s : ByteArray) (i : Nat) : Nat := G.at0 (s.data.toList.drop i) 0

theorem byteAt_eq (s : ByteArray) (i : Nat) (h : i < s.size) : (s[i]'h).toNat = byteAt s i := by
  have h2 : i < s.data.toList.length := by simpa using h
  unfold byteAt G.at0
  rw [List.getD_eq_getElem?_getD, List.getElem?_drop, Nat.add_zero, List.getElem?_eq_getElem h2]
  rfl

/-- From byte i on all bytes may stand in a word. -/
def allB : Nat → ByteArray → Nat → Bool
  | 0, _, _ => true
  | f + 1, s, i => if i < s.size then behB (byteAt s i) && allB f s (i + 1) else true

theorem allB_end (s : ByteArray) (f i : Nat) (h : ¬ i < s.size) : allB f s i = true := by
  cases f with
  | zero => rfl
  | succ f => simp [allB, h]

set_option maxHeartbeats 400000 in
theorem all_any (s : ByteArray) (hs : s.size ≤ 2000000) (w : World) : Calls Tryd.prog 65 #[.string s] w fun e w' => e = .returned (.bool (allB s.size s 1)) ∧ w = w' := by
  go_enter Tryd.func65, Tryd.ntmps65
  go_wp2
  go_loop [3] (fun i => ∃ k f : Nat, k ≤ s.size + 1 ∧ i = .int .i64 k ∧ allB f s k = allB s.size s 1 ∧ s.size ≤ k + f) (fun i => s.size + 1 - (intOf i).toNat)
  case atStart => exact ⟨1, s.size, by omega, rfl, rfl, by omega⟩
  case round =>
    obtain ⟨k, f, hk, rfl, ha, hf⟩ := hrel
    have HA := hid ha
    clear ha
    by_cases hlt : k < s.size
    · have hb := byteAt_eq s k hlt
      obtain ⟨f, rfl⟩ : ∃ g, f = g + 1 := ⟨f - 1, by omega⟩
      have HB := hid hb
      clear hb
      go_wp2_with (go_at_call 75; refine (behind_any _ _).mono ?_; rintro e w' ⟨rfl, rfl⟩)
      · go_ret
        have ht : (!behB ((s[k]'hlt).toNat : Int)) = true := by assumption
        rw [HB.out] at ht
        exact ⟨ret_bool (by rw [← HA.out]; simp at ht; simp [allB, hlt, ht]), rfl⟩
      · go_round
        case rel =>
          have ht : (!behB ((s[k]'hlt).toNat : Int)) = false := by first | assumption | simp_all
          rw [HB.out] at ht
          exact ⟨k + 1, f, by omega, by go_num, by rw [← HA.out]; simp at ht; simp [allB, hlt, ht], by omega⟩
        case measure => simp [intOf]; omega
    · go_wp2
      go_ret
      exact ⟨ret_bool (by rw [← HA.out, allB_end s f k hlt]), rfl⟩

theorem ret_int {k : IntKind} {a b : Int} (h : a = b) : Ending.returned (.int k a) = .returned (.int k b) := by rw [h]

theorem drop_ne {s : ByteArray} {i : Nat} (hi : i < s.size) : s.data.toList.drop i ≠ [] := by
  intro hn
  have := congrArg List.length hn
  simp at this
  omega

/-- 'next' at a rune, with its numbers named. -/
theorem next_at (w : World) (s : ByteArray) (pos : Nat) (ty : TypeId) (h : pos < s.size) (r n : Nat) (hd : G.runeL (s.data.toList.drop pos) = (r, n)) :
    (Instr.next (.pointer (some ⟨w.heap.size, 0, none⟩)) true ty).run Tryd.prog (w.iter s pos) = .ok (.tuple #[.bool true, .int .i64 pos, .int .i32 r]) (w.iter s (pos + n)) := by
  rw [run_next_any w s pos ty h, G.decode_eq, hd]

/-- A word, or a tag: the first byte from lo to hi, all others such as may stand in one. -/
def nameB (lo hi : Int) (s : ByteArray) : Bool := decide (0 < s.size) && (inB (byteAt s 0) lo hi && allB s.size s 1)

theorem behB_of_in {lo hi c : Int} (h : (lo = 97 ∧ hi = 122) ∨ (lo = 65 ∧ hi = 90)) (hb : inB c lo hi = true) : behB c = true := by
  rcases h with ⟨rfl, rfl⟩ | ⟨rfl, rfl⟩ <;> simp [behB, hb]

theorem behB_high {c : Int} (h : 128 ≤ c) : behB c = false := by
  unfold behB inB
  have a : decide (c ≤ 122) = false := by simp; omega
  have b : decide (c ≤ 90) = false := by simp; omega
  have d : decide (c ≤ 57) = false := by simp; omega
  have e : (c == 95) = false := by simp; omega
  simp [a, b, d, e]

/-- Somewhere from i on stands a byte that may not. -/
theorem allB_bad (s : ByteArray) (f i j : Nat) (hij : i ≤ j) (hj : j < s.size) (hf : s.size ≤ i + f) (hb : behB (byteAt s j) = false) : allB f s i = false := by
  induction f generalizing i with
  | zero => omega
  | succ f ih =>
    rw [allB, if_pos (by omega)]
    by_cases e : i = j
    · subst e; rw [hb]; rfl
    · rw [ih (i + 1) (by omega) (by omega)]; simp

theorem ne_empty {s : ByteArray} (h : 0 < s.size) : s.toList.isEmpty = false := by
  rw [Lib.toList_data]
  cases hl : s.data.toList with
  | nil =>
    have e : s.data.toList.length = s.size := by simp
    rw [hl] at e
    simp at e
    omega
  | cons _ _ => rfl
theorem is_empty {s : ByteArray} (h : s.size = 0) : s.toList.isEmpty = true := by
  rw [Lib.toList_data]
  cases hl : s.data.toList with
  | nil => rfl
  | cons _ _ =>
    have e : s.data.toList.length = s.size := by simp
    rw [hl] at e
    simp at e
    omega

theorem runeL_low {s : ByteArray} {pos : Nat} (hp : pos < s.size) (hc : byteAt s pos < 128) : G.runeL (s.data.toList.drop pos) = (byteAt s pos, 1) := by
  have e : byteAt s pos = G.at0 (s.data.toList.drop pos) 0 := rfl
  rcases G.rune_long _ (drop_ne hp) with ⟨_, _, h⟩ | ⟨_, _, _, h2, _, ⟨_, h3, h4⟩ | ⟨h3, _, _⟩⟩
  · omega
  · rw [Prod.ext_iff]; exact ⟨h4, h2.trans h3⟩
  · omega

theorem runeL_high {s : ByteArray} {pos : Nat} (hp : pos < s.size) (hc : 128 ≤ byteAt s pos) : ∃ r n, G.runeL (s.data.toList.drop pos) = (r, n) ∧ 128 ≤ r := by
  have e : byteAt s pos = G.at0 (s.data.toList.drop pos) 0 := rfl
  rcases G.rune_long _ (drop_ne hp) with ⟨_, h, _⟩ | ⟨_, _, _, h2, _, ⟨h3, _, _⟩ | ⟨_, _, h3⟩⟩
  · exact ⟨_, _, h, by omega⟩
  · omega
  · exact ⟨_, _, rfl, h3⟩

theorem continues_yes (c : Int) (h : behB c = true) (w : World) : Calls Tryd.prog 95 #[.int .i32 c] w fun e w' => e = .returned (.bool true) ∧ w = w' :=
  (continues_any c w).mono fun _ _ ⟨he, hw⟩ => ⟨he.trans (ret_bool h), hw⟩
theorem continues_no (c : Int) (h : behB c = false) (w : World) : Calls Tryd.prog 95 #[.int .i32 c] w fun e w' => e = .returned (.bool false) ∧ w = w' :=
  (continues_any c w).mono fun _ _ ⟨he, hw⟩ => ⟨he.trans (ret_bool h), hw⟩
theorem small_yes (c : Int) (h : inB c 97 122 = true) (w : World) : Calls Tryd.prog 78 #[.int .i32 c] w fun e w' => e = .returned (.bool true) ∧ w = w' :=
  (small_any c w).mono fun _ _ ⟨he, hw⟩ => ⟨he.trans (ret_bool h), hw⟩
theorem small_no (c : Int) (h : inB c 97 122 = false) (w : World) : Calls Tryd.prog 78 #[.int .i32 c] w fun e w' => e = .returned (.bool false) ∧ w = w' :=
  (small_any c w).mono fun _ _ ⟨he, hw⟩ => ⟨he.trans (ret_bool h), hw⟩
theorem capital_yes (c : Int) (h : inB c 65 90 = true) (w : World) : Calls Tryd.prog 79 #[.int .i32 c] w fun e w' => e = .returned (.bool true) ∧ w = w' :=
  (capital_any c w).mono fun _ _ ⟨he, hw⟩ => ⟨he.trans (ret_bool h), hw⟩
theorem capital_no (c : Int) (h : inB c 65 90 = false) (w : World) : Calls Tryd.prog 79 #[.int .i32 c] w fun e w' => e = .returned (.bool false) ∧ w = w' :=
  (capital_any c w).mono fun _ _ ⟨he, hw⟩ => ⟨he.trans (ret_bool h), hw⟩

set_option maxHeartbeats 2000000 in
set_option maxRecDepth 100000 in
theorem isName_small (s : ByteArray) (hs : s.size ≤ 2000000) (w : World) :
    Calls Tryd.prog 77 #[.string s, .func (.func 78) #[] #[]] w fun e w' => e = .returned (.bool (nameB 97 122 s)) ∧ Below w.heap.size w w' := by
  go_enter Tryd.func77, Tryd.ntmps77
  go_wp2
  go_loopw [] (fun wr => ∃ pos f : Nat, wr = w.iter s pos ∧ (pos = 0 ∨ (0 < pos ∧ 0 < s.size ∧ inB (byteAt s 0) 97 122 = true ∧ allB f s pos = allB s.size s 1 ∧ s.size ≤ pos + f))) (fun wr => s.size - wr.iterPos w.heap.size)
  case atStart => exact ⟨0, 0, rfl, Or.inl rfl⟩
  case round =>
    obtain ⟨pos, f, rfl, hrel⟩ := hrel
    have HR := hid hrel
    clear hrel
    by_cases hp : pos < s.size
    · by_cases hc : byteAt s pos < 128
      · have hd : G.runeL (s.data.toList.drop pos) = (byteAt s pos, 1) := runeL_low hp hc
        have hnx : ∀ ty, (Instr.next (.pointer (some ⟨w.heap.size, 0, none⟩)) true ty).run Tryd.prog (w.iter s pos) = _ := fun ty => next_at w s pos ty hp _ _ hd
        clear hd
        by_cases h0 : 0 < pos
        · have hne : ((pos : Int) == 0) = false := by simp; omega
          go_wp2_with (go_at_call 95; refine (continues_any _ _).mono ?_; rintro e w' ⟨rfl, rfl⟩)
          · have ht : (!behB (byteAt s pos : Int)) = true := by assumption
            go_ret
            refine ⟨ret_bool ?_, (Below.refl _ _).alloc (Nat.le_refl _) _⟩
            rcases HR.out with h | ⟨_, h1, h2, h3, h4⟩
            · omega
            · simp only [nameB]
              rw [← h3, allB_bad s f pos pos (Nat.le_refl _) hp h4 (by simpa using ht)]
              simp
          · have ht : (!behB (byteAt s pos : Int)) = false := by first | assumption | simp_all
            go_roundw
            case rel =>
              refine ⟨pos + 1, f - 1, rfl, Or.inr ?_⟩
              rcases HR.out with h | ⟨_, h1, h2, h3, h4⟩
              · omega
              · refine ⟨by omega, h1, h2, ?_, by omega⟩
                rw [← h3]
                obtain ⟨g, rfl⟩ : ∃ g, f = g + 1 := ⟨f - 1, by omega⟩
                rw [allB, if_pos hp]
                simp at ht
                simp [ht]
            case measure => simp; omega
        · obtain rfl : pos = 0 := by omega
          by_cases hb : inB (byteAt s 0) 97 122 = true
          · have hbe := behB_of_in (by decide) hb
            go_wp2_with (first | (go_at_call 95; refine (continues_yes _ hbe _).mono ?_; rintro e w' ⟨rfl, rfl⟩) | (go_at_call 78; refine (small_yes _ hb _).mono ?_; rintro e w' ⟨rfl, rfl⟩))
            go_roundw
            case rel => exact ⟨1, s.size, rfl, Or.inr ⟨by omega, hp, hb, rfl, by omega⟩⟩
            case measure => simp; omega
          · simp only [Bool.not_eq_true] at hb
            go_wp2_with (go_at_call 78; refine (small_no _ hb _).mono ?_; rintro e w' ⟨rfl, rfl⟩)
            go_ret
            refine ⟨ret_bool ?_, (Below.refl _ _).alloc (Nat.le_refl _) _⟩
            simp [nameB, hb]
      · obtain ⟨r, n, hd, hr⟩ : ∃ r n, G.runeL (s.data.toList.drop pos) = (r, n) ∧ 128 ≤ r := runeL_high hp (by omega)
        have hr2 : r ≤ 2147483647 := by have := decode_le s pos; rw [G.decode_eq, hd] at this; exact this
        have hnx : ∀ ty, (Instr.next (.pointer (some ⟨w.heap.size, 0, none⟩)) true ty).run Tryd.prog (w.iter s pos) = _ := fun ty => next_at w s pos ty hp _ _ hd
        clear hd
        have hbe : behB (r : Int) = false := behB_high (by omega)
        have hbs : behB (byteAt s pos : Int) = false := behB_high (by omega)
        have HX := hid hbs
        clear hbs
        by_cases h0 : 0 < pos
        · have hne : ((pos : Int) == 0) = false := by simp; omega
          go_wp2_with (go_at_call 95; refine (continues_no _ hbe _).mono ?_; rintro e w' ⟨rfl, rfl⟩)
          go_ret
          refine ⟨ret_bool ?_, (Below.refl _ _).alloc (Nat.le_refl _) _⟩
          rcases HR.out with h | ⟨_, h1, h2, h3, h4⟩
          · omega
          · simp only [nameB]
            rw [← h3, allB_bad s f pos pos (Nat.le_refl _) hp h4 HX.out]
            simp
        · obtain rfl : pos = 0 := by omega
          have hb : inB (r : Int) 97 122 = false := by
            cases h : inB (r : Int) 97 122
            · rfl
            · rw [behB_of_in (by decide) h] at hbe; exact hbe
          have hb2 : inB (byteAt s 0 : Int) 97 122 = false := by
            cases h : inB (byteAt s 0 : Int) 97 122
            · rfl
            · have := HX.out; rw [behB_of_in (by decide) h] at this; exact this
          have HY := hid hb2
          clear hb2
          go_wp2_with (go_at_call 78; refine (small_no _ hb _).mono ?_; rintro e w' ⟨rfl, rfl⟩)
          go_ret
          refine ⟨ret_bool ?_, (Below.refl _ _).alloc (Nat.le_refl _) _⟩
          simp [nameB, HY.out]
    · have hnx : ∀ ty, (Instr.next (.pointer (some ⟨w.heap.size, 0, none⟩)) true ty).run Tryd.prog (w.iter s pos) = _ := fun ty => run_next_end w s pos ty hp
      by_cases hz : 0 < s.size
      · go_wp2
        go_ret
        refine ⟨ret_bool ?_, (Below.refl _ _).alloc (Nat.le_refl _) _⟩
        rcases HR.out with h | ⟨_, h1, h2, h3, h4⟩
        · omega
        · have hE : allB f s pos = true := allB_end s f pos hp
          rw [h3] at hE
          simp [nameB, hE, h2, hz, ne_empty hz]
      · go_wp2
        go_ret
        refine ⟨ret_bool ?_, (Below.refl _ _).alloc (Nat.le_refl _) _⟩
        simp [nameB, hz, is_empty (show s.size = 0 by omega)]

set_option maxHeartbeats 400000 in
theorem isWord_any (s : ByteArray) (hs : s.size ≤ 2000000) (w : World) :
    Calls Tryd.prog 69 #[.string s] w fun e w' => e = .returned (.bool (nameB 97 122 s)) ∧ Below w.heap.size w w' := by
  go_enter Tryd.func69, Tryd.ntmps69
  go_wp2_with (go_at_call 77; refine (isName_small s hs _).mono ?_; rintro e w' ⟨rfl, hb⟩)
  go_ret
  exact ⟨rfl, hb⟩

set_option maxHeartbeats 2000000 in
set_option maxRecDepth 100000 in
theorem isName_capital (s : ByteArray) (hs : s.size ≤ 2000000) (w : World) :
    Calls Tryd.prog 77 #[.string s, .func (.func 79) #[] #[]] w fun e w' => e = .returned (.bool (nameB 65 90 s)) ∧ Below w.heap.size w w' := by
  go_enter Tryd.func77, Tryd.ntmps77
  go_wp2
  go_loopw [] (fun wr => ∃ pos f : Nat, wr = w.iter s pos ∧ (pos = 0 ∨ (0 < pos ∧ 0 < s.size ∧ inB (byteAt s 0) 65 90 = true ∧ allB f s pos = allB s.size s 1 ∧ s.size ≤ pos + f))) (fun wr => s.size - wr.iterPos w.heap.size)
  case atStart => exact ⟨0, 0, rfl, Or.inl rfl⟩
  case round =>
    obtain ⟨pos, f, rfl, hrel⟩ := hrel
    have HR := hid hrel
    clear hrel
    by_cases hp : pos < s.size
    · by_cases hc : byteAt s pos < 128
      · have hd : G.runeL (s.data.toList.drop pos) = (byteAt s pos, 1) := runeL_low hp hc
        have hnx : ∀ ty, (Instr.next (.pointer (some ⟨w.heap.size, 0, none⟩)) true ty).run Tryd.prog (w.iter s pos) = _ := fun ty => next_at w s pos ty hp _ _ hd
        clear hd
        by_cases h0 : 0 < pos
        · have hne : ((pos : Int) == 0) = false := by simp; omega
          go_wp2_with (go_at_call 95; refine (continues_any _ _).mono ?_; rintro e w' ⟨rfl, rfl⟩)
          · have ht : (!behB (byteAt s pos : Int)) = true := by assumption
            go_ret
            refine ⟨ret_bool ?_, (Below.refl _ _).alloc (Nat.le_refl _) _⟩
            rcases HR.out with h | ⟨_, h1, h2, h3, h4⟩
            · omega
            · simp only [nameB]
              rw [← h3, allB_bad s f pos pos (Nat.le_refl _) hp h4 (by simpa using ht)]
              simp
          · have ht : (!behB (byteAt s pos : Int)) = false := by first | assumption | simp_all
            go_roundw
            case rel =>
              refine ⟨pos + 1, f - 1, rfl, Or.inr ?_⟩
              rcases HR.out with h | ⟨_, h1, h2, h3, h4⟩
              · omega
              · refine ⟨by omega, h1, h2, ?_, by omega⟩
                rw [← h3]
                obtain ⟨g, rfl⟩ : ∃ g, f = g + 1 := ⟨f - 1, by omega⟩
                rw [allB, if_pos hp]
                simp at ht
                simp [ht]
            case measure => simp; omega
        · obtain rfl : pos = 0 := by omega
          by_cases hb : inB (byteAt s 0) 65 90 = true
          · have hbe := behB_of_in (by decide) hb
            go_wp2_with (first | (go_at_call 95; refine (continues_yes _ hbe _).mono ?_; rintro e w' ⟨rfl, rfl⟩) | (go_at_call 79; refine (capital_yes _ hb _).mono ?_; rintro e w' ⟨rfl, rfl⟩))
            go_roundw
            case rel => exact ⟨1, s.size, rfl, Or.inr ⟨by omega, hp, hb, rfl, by omega⟩⟩
            case measure => simp; omega
          · simp only [Bool.not_eq_true] at hb
            go_wp2_with (go_at_call 79; refine (capital_no _ hb _).mono ?_; rintro e w' ⟨rfl, rfl⟩)
            go_ret
            refine ⟨ret_bool ?_, (Below.refl _ _).alloc (Nat.le_refl _) _⟩
            simp [nameB, hb]
      · obtain ⟨r, n, hd, hr⟩ : ∃ r n, G.runeL (s.data.toList.drop pos) = (r, n) ∧ 128 ≤ r := runeL_high hp (by omega)
        have hr2 : r ≤ 2147483647 := by have := decode_le s pos; rw [G.decode_eq, hd] at this; exact this
        have hnx : ∀ ty, (Instr.next (.pointer (some ⟨w.heap.size, 0, none⟩)) true ty).run Tryd.prog (w.iter s pos) = _ := fun ty => next_at w s pos ty hp _ _ hd
        clear hd
        have hbe : behB (r : Int) = false := behB_high (by omega)
        have hbs : behB (byteAt s pos : Int) = false := behB_high (by omega)
        have HX := hid hbs
        clear hbs
        by_cases h0 : 0 < pos
        · have hne : ((pos : Int) == 0) = false := by simp; omega
          go_wp2_with (go_at_call 95; refine (continues_no _ hbe _).mono ?_; rintro e w' ⟨rfl, rfl⟩)
          go_ret
          refine ⟨ret_bool ?_, (Below.refl _ _).alloc (Nat.le_refl _) _⟩
          rcases HR.out with h | ⟨_, h1, h2, h3, h4⟩
          · omega
          · simp only [nameB]
            rw [← h3, allB_bad s f pos pos (Nat.le_refl _) hp h4 HX.out]
            simp
        · obtain rfl : pos = 0 := by omega
          have hb : inB (r : Int) 65 90 = false := by
            cases h : inB (r : Int) 65 90
            · rfl
            · rw [behB_of_in (by decide) h] at hbe; exact hbe
          have hb2 : inB (byteAt s 0 : Int) 65 90 = false := by
            cases h : inB (byteAt s 0 : Int) 65 90
            · rfl
            · have := HX.out; rw [behB_of_in (by decide) h] at this; exact this
          have HY := hid hb2
          clear hb2
          go_wp2_with (go_at_call 79; refine (capital_no _ hb _).mono ?_; rintro e w' ⟨rfl, rfl⟩)
          go_ret
          refine ⟨ret_bool ?_, (Below.refl _ _).alloc (Nat.le_refl _) _⟩
          simp [nameB, HY.out]
    · have hnx : ∀ ty, (Instr.next (.pointer (some ⟨w.heap.size, 0, none⟩)) true ty).run Tryd.prog (w.iter s pos) = _ := fun ty => run_next_end w s pos ty hp
      by_cases hz : 0 < s.size
      · go_wp2
        go_ret
        refine ⟨ret_bool ?_, (Below.refl _ _).alloc (Nat.le_refl _) _⟩
        rcases HR.out with h | ⟨_, h1, h2, h3, h4⟩
        · omega
        · have hE : allB f s pos = true := allB_end s f pos hp
          rw [h3] at hE
          simp [nameB, hE, h2, hz, ne_empty hz]
      · go_wp2
        go_ret
        refine ⟨ret_bool ?_, (Below.refl _ _).alloc (Nat.le_refl _) _⟩
        simp [nameB, hz, is_empty (show s.size = 0 by omega)]

set_option maxHeartbeats 400000 in
theorem isTag_any (s : ByteArray) (hs : s.size ≤ 2000000) (w : World) :
    Calls Tryd.prog 70 #[.string s] w fun e w' => e = .returned (.bool (nameB 65 90 s)) ∧ Below w.heap.size w w' := by
  go_enter Tryd.func70, Tryd.ntmps70
  go_wp2_with (go_at_call 77; refine (isName_capital s hs _).mono ?_; rintro e w' ⟨rfl, hb⟩)
  go_ret
  exact ⟨rfl, hb⟩

set_option maxHeartbeats 400000 in
theorem refWord_any (s : ByteArray) (hs : s.size ≤ 2000000) (w : World) :
    Calls Tryd.prog 50 #[.string s] w fun e w' => e = .returned (.bool (nameB 97 122 s)) ∧ w = w' := by
  by_cases h0 : 0 < s.size
  · have HB := hid (byteAt_eq s 0 h0)
    go_enter Tryd.func50, Tryd.ntmps50
    go_wp2_with (first | (go_at_call 64; refine (within_any _ _ _ _).mono ?_; rintro e w' ⟨rfl, rfl⟩) | (go_at_call 65; refine (all_any s hs _).mono ?_; rintro e w' ⟨rfl, rfl⟩))
    all_goals go_ret
    all_goals refine ⟨ret_bool ?_, rfl⟩
    all_goals rw [HB.out] at *
    all_goals simp_all [nameB]
  · go_enter Tryd.func50, Tryd.ntmps50
    go_wp2
    go_ret
    exact ⟨ret_bool (by simp [nameB, h0]), rfl⟩

set_option maxHeartbeats 400000 in
theorem refTag_any (s : ByteArray) (hs : s.size ≤ 2000000) (w : World) :
    Calls Tryd.prog 51 #[.string s] w fun e w' => e = .returned (.bool (nameB 65 90 s)) ∧ w = w' := by
  by_cases h0 : 0 < s.size
  · have HB := hid (byteAt_eq s 0 h0)
    go_enter Tryd.func51, Tryd.ntmps51
    go_wp2_with (first | (go_at_call 64; refine (within_any _ _ _ _).mono ?_; rintro e w' ⟨rfl, rfl⟩) | (go_at_call 65; refine (all_any s hs _).mono ?_; rintro e w' ⟨rfl, rfl⟩))
    all_goals go_ret
    all_goals refine ⟨ret_bool ?_, rfl⟩
    all_goals rw [HB.out] at *
    all_goals simp_all [nameB]
  · go_enter Tryd.func51, Tryd.ntmps51
    go_wp2
    go_ret
    exact ⟨ret_bool (by simp [nameB, h0]), rfl⟩

theorem drop_nil {s : ByteArray} {i : Nat} (hi : ¬ i < s.size) : s.data.toList.drop i = [] := by
  apply List.drop_eq_nil_of_le
  simp
  omega

theorem ret_two {a b c d : Int} (h : a = c) (h2 : b = d) : Ending.returned (.tuple #[.int .i64 a, .int .i64 b]) = .returned (.tuple #[.int .i64 c, .int .i64 d]) := by rw [h, h2]

end Go.Proofs.YtimlblbmfckeiaaDoor
