/-
  The texts GlyMx, GlyW, GlyV, GlyU, GlyPw, GlyB, GlyS, GlyN, GlyQ, GlyR, GlyE, GlyF, GlyO, GlyT, GlyX, GlyK, GlyK2, GlyK3, GlyJ, one behind the other. Conditions: those that each of them names.
-/
import Derived.Lib.RuneBytes
import Derived.Laws.RangeAny
import Derived.Test.YthbieinbpfjgkaaGreatDoorShelf
import Derived.WalkKit
import Derived.WalkSpells
import Derived.WalkLawsBesides
import Derived.BigCall
import Derived.Shelf.Strings.BuilderRune
import Derived.RegionTactic
import Derived.ChangeAlike
import Derived.IntWalk
import Derived.Deep.RegionWith
section
/-
  Plain lists of bytes, no program: what a rune at a list's head is and how long it is, what quoting, unquoting, places and words come to. No conditions but those that each lemma names.
-/
namespace Go.Proofs.YthbieinbpfjgkaaGreatDoor.X.G
open Go

def at0 (l : List UInt8) (k : Nat) : Nat := (l.getD k 0).toNat
def contL (l : List UInt8) (k a b : Nat) : Bool := decide (k < l.length) && (decide (a ≤ at0 l k) && decide (at0 l k ≤ b))

/-- How many bytes the rune at the head has; 0: the first byte is part of none. -/
def longL (l : List UInt8) : Nat :=
  if at0 l 0 < 128 then 1
  else if (decide (194 ≤ at0 l 0) && decide (at0 l 0 ≤ 223)) && contL l 1 128 191 then 2
  else if (decide (224 ≤ at0 l 0) && decide (at0 l 0 ≤ 239)) && contL l 1 (if at0 l 0 = 224 then 160 else 128) (if at0 l 0 = 237 then 159 else 191) && contL l 2 128 191 then 3
  else if (decide (240 ≤ at0 l 0) && decide (at0 l 0 ≤ 244)) && contL l 1 (if at0 l 0 = 240 then 144 else 128) (if at0 l 0 = 244 then 143 else 191) && contL l 2 128 191 && contL l 3 128 191 then 4
  else 0

/-- The rune at the head and its width, as a range over a string sees it. -/
def runeL (l : List UInt8) : Nat × Nat :=
  let cont (k : Nat) : Bool := decide (k < l.length) && at0 l k / 64 == 2
  if at0 l 0 < 0x80 then (at0 l 0, 1)
  else if at0 l 0 / 32 == 6 && cont 1 then
    let c := (at0 l 0 % 32) * 64 + at0 l 1 % 64
    if c ≥ 0x80 then (c, 2) else (Utf8.runeError, 1)
  else if at0 l 0 / 16 == 14 && cont 1 && cont 2 then
    let c := (at0 l 0 % 16) * 4096 + (at0 l 1 % 64) * 64 + at0 l 2 % 64
    if c ≥ 0x800 && Utf8.valid c then (c, 3) else (Utf8.runeError, 1)
  else if at0 l 0 / 8 == 30 && cont 1 && cont 2 && cont 3 then
    let c := (at0 l 0 % 8) * 262144 + (at0 l 1 % 64) * 4096 + (at0 l 2 % 64) * 64 + at0 l 3 % 64
    if c ≥ 0x10000 && Utf8.valid c then (c, 4) else (Utf8.runeError, 1)
  else (Utf8.runeError, 1)

theorem get_drop (s : ByteArray) (i k : Nat) : (s.get! (i + k)).toNat = at0 (s.data.toList.drop i) k := by
  unfold at0
  by_cases h : i + k < s.size
  · have h2 : i + k < s.data.toList.length := by simpa using h
    have : s.get! (i + k) = s.data.toList[i + k] := by
      simp [ByteArray.get!, getElem!_pos, h]
    rw [this, List.getD_eq_getElem?_getD, List.getElem?_drop, List.getElem?_eq_getElem h2]
    rfl
  · have h2 : s.data.toList.length ≤ i + k := by simpa using h
    have : s.get! (i + k) = 0 := by
      have h3 : ¬ i + k < s.data.size := by simpa using h
      show s.data[i + k]! = 0
      rw [getElem!_neg s.data (i + k) h3]
      rfl
    rw [this, List.getD_eq_getElem?_getD, List.getElem?_drop, List.getElem?_eq_none h2]
    rfl

theorem decode_eq (s : ByteArray) (i : Nat) : Utf8.decode s i = runeL (s.data.toList.drop i) := by
  have hl : ∀ k, (decide (i + k < s.size)) = decide (k < (s.data.toList.drop i).length) := by
    intro k
    have : (s.data.toList.drop i).length = s.size - i := by simp
    rw [this]
    congr 1
    apply propext
    constructor <;> intro h <;> omega
  simp only [Utf8.decode, runeL, get_drop, hl]

theorem at0_lt (l : List UInt8) (k : Nat) : at0 l k < 256 := UInt8.toNat_lt _

/-- The bytes that stand for a number. -/
theorem u8_of (c : UInt8) (x : Int) (h : x = c.toNat) : x.toNat.toUInt8 = c := by
  subst h
  simp

theorem take_getD (l : List UInt8) (n : Nat) (h : n ≤ l.length) : l.take n = (List.range n).map (fun k => l.getD k 0) := by
  apply List.ext_getElem
  · simp [h]
  · intro i h1 h2
    simp at h1 h2
    simp [List.getElem?_eq_getElem (show i < l.length by omega)]

theorem valid_iff (c : Nat) : Utf8.valid c = decide (c < 55296 ∨ (57344 ≤ c ∧ c ≤ 1114111)) := by
  unfold Utf8.valid
  by_cases h : c < 55296 ∨ (57344 ≤ c ∧ c ≤ 1114111)
  · rw [decide_eq_true h]; rcases h with h | h <;> simp <;> omega
  · rw [decide_eq_false h]; simp; omega

/-- What a range sees is what the bytes say: no rune: U+FFFD of one byte; else the rune's own bytes. -/
theorem rune_long (l : List UInt8) (hl : l ≠ []) :
    (longL l = 0 ∧ runeL l = (65533, 1) ∧ 128 ≤ at0 l 0) ∨
    (1 ≤ longL l ∧ longL l ≤ l.length ∧ longL l ≤ 4 ∧ (runeL l).2 = longL l ∧ Lib.encodeRune ((runeL l).1 : Int) = l.take (longL l) ∧
      ((at0 l 0 < 128 ∧ longL l = 1 ∧ (runeL l).1 = at0 l 0) ∨ (128 ≤ at0 l 0 ∧ 2 ≤ longL l ∧ 128 ≤ (runeL l).1))) := by
  have hlen : 0 < l.length := List.length_pos_iff.mpr hl
  have b0 := at0_lt l 0; have b1 := at0_lt l 1; have b2 := at0_lt l 2; have b3 := at0_lt l 3
  have u : ∀ k (x : Int), x = at0 l k → x.toNat.toUInt8 = l.getD k 0 := fun k x h => u8_of _ _ h
  by_cases c1 : at0 l 0 < 128
  · right
    have e1 : longL l = 1 := by simp [longL, c1]
    have e2 : runeL l = (at0 l 0, 1) := by simp [runeL, c1]
    rw [e1, e2]
    refine ⟨by omega, by omega, by omega, rfl, ?_, Or.inl ⟨c1, rfl, rfl⟩⟩
    rw [take_getD l 1 (by omega)]
    simp only [Lib.encodeRune, Lib.encodeRuneZ_one (r := (at0 l 0 : Int)) (by omega) (by omega)]
    simp [List.range_succ, at0]
  by_cases c2 : 194 ≤ at0 l 0 ∧ at0 l 0 ≤ 223 ∧ 1 < l.length ∧ 128 ≤ at0 l 1 ∧ at0 l 1 ≤ 191
  · right
    obtain ⟨h1, h2, h3, h4, h5⟩ := c2
    have e1 : longL l = 2 := by simp [longL, contL, c1, h1, h2, h3, h4, h5]
    have e2 : runeL l = ((at0 l 0 % 32) * 64 + at0 l 1 % 64, 2) := by
      have a1 : at0 l 0 / 32 = 6 := by omega
      have a2 : at0 l 1 / 64 = 2 := by omega
      have a3 : 128 ≤ (at0 l 0 % 32) * 64 + at0 l 1 % 64 := by omega
      simp [runeL, c1, a1, a2, a3, h3]
    rw [e1, e2]
    refine ⟨by omega, by omega, by omega, rfl, ?_, Or.inr ⟨by omega, by omega, by show 128 ≤ (at0 l 0 % 32) * 64 + at0 l 1 % 64; omega⟩⟩
    rw [take_getD l 2 (by omega)]
    simp only [Lib.encodeRune, Lib.encodeRuneZ_two (r := (((at0 l 0 % 32) * 64 + at0 l 1 % 64 : Nat) : Int)) (by omega) (by omega)]
    simp only [List.map_cons, List.map_nil, List.range_succ, List.range_zero, List.nil_append, List.cons_append]
    rw [u 0 _ (by omega), u 1 _ (by omega)]
  by_cases c3 : 224 ≤ at0 l 0 ∧ at0 l 0 ≤ 239 ∧ 1 < l.length ∧ (if at0 l 0 = 224 then 160 else 128) ≤ at0 l 1 ∧ at0 l 1 ≤ (if at0 l 0 = 237 then 159 else 191) ∧ 2 < l.length ∧ 128 ≤ at0 l 2 ∧ at0 l 2 ≤ 191
  · right
    obtain ⟨h1, h2, h3, h4, h5, h6, h7, h8⟩ := c3
    have n2 : ¬ at0 l 0 ≤ 223 := by omega
    have e1 : longL l = 3 := by
      unfold longL
      rw [if_neg c1, if_neg (by simp; omega), if_pos (by simp [contL, h1, h2, h3, h4, h5, h6, h7, h8])]
    have e2 : runeL l = ((at0 l 0 % 16) * 4096 + (at0 l 1 % 64) * 64 + at0 l 2 % 64, 3) := by
      have a1 : at0 l 0 / 32 ≠ 6 := by omega
      have a0 : at0 l 0 / 16 = 14 := by omega
      have a2 : at0 l 1 / 64 = 2 := by split at h4 <;> split at h5 <;> omega
      have a4 : at0 l 2 / 64 = 2 := by omega
      have a3 : 2048 ≤ (at0 l 0 % 16) * 4096 + (at0 l 1 % 64) * 64 + at0 l 2 % 64 := by split at h4 <;> split at h5 <;> omega
      have a5 : Utf8.valid (((at0 l 0 % 16) * 4096 + (at0 l 1 % 64) * 64 + at0 l 2 % 64 : Nat) : Int) = true := by
        rw [valid_iff]
        apply decide_eq_true
        split at h4 <;> split at h5 <;> omega
      unfold runeL
      simp only
      rw [if_neg c1, if_neg (by simp [a1]), if_pos (by simp [a0, a2, a4, h3, h6]), if_pos (by rw [a5]; simp [a3])]
    rw [e1, e2]
    have hr : (2048 ≤ (((at0 l 0 % 16) * 4096 + (at0 l 1 % 64) * 64 + at0 l 2 % 64 : Nat) : Int) ∧ (((at0 l 0 % 16) * 4096 + (at0 l 1 % 64) * 64 + at0 l 2 % 64 : Nat) : Int) < 55296) ∨ (57343 < (((at0 l 0 % 16) * 4096 + (at0 l 1 % 64) * 64 + at0 l 2 % 64 : Nat) : Int) ∧ (((at0 l 0 % 16) * 4096 + (at0 l 1 % 64) * 64 + at0 l 2 % 64 : Nat) : Int) ≤ 65535) := by
      split at h4 <;> split at h5 <;> omega
    have g1 : 128 ≤ at0 l 1 ∧ at0 l 1 ≤ 191 := by split at h4 <;> split at h5 <;> omega
    refine ⟨by omega, by omega, by omega, rfl, ?_, Or.inr ⟨by omega, by omega, by show 128 ≤ (at0 l 0 % 16) * 4096 + (at0 l 1 % 64) * 64 + at0 l 2 % 64; omega⟩⟩
    rw [take_getD l 3 (by omega)]
    simp only [Lib.encodeRune, Lib.encodeRuneZ_three hr]
    simp only [List.map_cons, List.map_nil, List.range_succ, List.range_zero, List.nil_append, List.cons_append]
    rw [u 0 _ (by omega), u 1 _ (by omega), u 2 _ (by omega)]
  by_cases c4 : 240 ≤ at0 l 0 ∧ at0 l 0 ≤ 244 ∧ 1 < l.length ∧ (if at0 l 0 = 240 then 144 else 128) ≤ at0 l 1 ∧ at0 l 1 ≤ (if at0 l 0 = 244 then 143 else 191) ∧ 2 < l.length ∧ 128 ≤ at0 l 2 ∧ at0 l 2 ≤ 191 ∧ 3 < l.length ∧ 128 ≤ at0 l 3 ∧ at0 l 3 ≤ 191
  · right
    obtain ⟨h1, h2, h3, h4, h5, h6, h7, h8, h9, h10, h11⟩ := c4
    have e1 : longL l = 4 := by
      unfold longL
      rw [if_neg c1, if_neg (by simp; omega), if_neg (by simp; omega), if_pos (by simp [contL, h1, h2, h3, h4, h5, h6, h7, h8, h9, h10, h11])]
    have g1 : 128 ≤ at0 l 1 ∧ at0 l 1 ≤ 191 := by split at h4 <;> split at h5 <;> omega
    have g2 : 65536 ≤ (at0 l 0 % 8) * 262144 + (at0 l 1 % 64) * 4096 + (at0 l 2 % 64) * 64 + at0 l 3 % 64 ∧ (at0 l 0 % 8) * 262144 + (at0 l 1 % 64) * 4096 + (at0 l 2 % 64) * 64 + at0 l 3 % 64 ≤ 1114111 := by
      split at h4 <;> split at h5 <;> omega
    have e2 : runeL l = ((at0 l 0 % 8) * 262144 + (at0 l 1 % 64) * 4096 + (at0 l 2 % 64) * 64 + at0 l 3 % 64, 4) := by
      have a1 : at0 l 0 / 32 ≠ 6 := by omega
      have a0 : at0 l 0 / 16 ≠ 14 := by omega
      have a6 : at0 l 0 / 8 = 30 := by omega
      have a2 : at0 l 1 / 64 = 2 := by omega
      have a4 : at0 l 2 / 64 = 2 := by omega
      have a7 : at0 l 3 / 64 = 2 := by omega
      have a5 : Utf8.valid (((at0 l 0 % 8) * 262144 + (at0 l 1 % 64) * 4096 + (at0 l 2 % 64) * 64 + at0 l 3 % 64 : Nat) : Int) = true := by
        rw [valid_iff]
        apply decide_eq_true
        omega
      unfold runeL
      simp only
      rw [if_neg c1, if_neg (by simp [a1]), if_neg (by simp [a0]), if_pos (by simp [a6, a2, a4, a7, h3, h6, h9]), if_pos (by rw [a5]; simp; exact g2.1)]
    rw [e1, e2]
    refine ⟨by omega, by omega, by omega, rfl, ?_, Or.inr ⟨by omega, by omega, by show 128 ≤ (at0 l 0 % 8) * 262144 + (at0 l 1 % 64) * 4096 + (at0 l 2 % 64) * 64 + at0 l 3 % 64; omega⟩⟩
    rw [take_getD l 4 (by omega)]
    simp only [Lib.encodeRune, Lib.encodeRuneZ_four (r := (((at0 l 0 % 8) * 262144 + (at0 l 1 % 64) * 4096 + (at0 l 2 % 64) * 64 + at0 l 3 % 64 : Nat) : Int)) (by omega) (by omega)]
    simp only [List.map_cons, List.map_nil, List.range_succ, List.range_zero, List.nil_append, List.cons_append]
    rw [u 0 _ (by omega), u 1 _ (by omega), u 2 _ (by omega), u 3 _ (by omega)]
  · left
    have e1 : longL l = 0 := by
      unfold longL
      rw [if_neg c1, if_neg, if_neg, if_neg]
      · simp only [contL, Bool.and_eq_true, decide_eq_true_eq]
        rintro ⟨⟨⟨⟨p, q⟩, r, s, t⟩, r2, s2, t2⟩, r3, s3, t3⟩
        exact c4 ⟨p, q, r, s, t, r2, s2, t2, r3, s3, t3⟩
      · simp only [contL, Bool.and_eq_true, decide_eq_true_eq]
        rintro ⟨⟨⟨p, q⟩, r, s, t⟩, r2, s2, t2⟩
        exact c3 ⟨p, q, r, s, t, r2, s2, t2⟩
      · simp only [contL, Bool.and_eq_true, decide_eq_true_eq]
        rintro ⟨⟨p, q⟩, r, s, t⟩
        exact c2 ⟨p, q, r, s, t⟩
    refine ⟨e1, ?_, by omega⟩
    unfold runeL
    simp only
    rw [if_neg c1]
    split
    · rename_i h
      simp only [Bool.and_eq_true, decide_eq_true_eq, beq_iff_eq] at h
      rw [if_neg (by intro z; apply c2; refine ⟨by omega, by omega, h.2.1, by omega, by omega⟩)]
      rfl
    split
    · rename_i h
      simp only [Bool.and_eq_true, decide_eq_true_eq, beq_iff_eq] at h
      rw [if_neg]
      · rfl
      · rw [valid_iff]
        simp only [Bool.and_eq_true, decide_eq_true_eq]
        rintro ⟨z, y⟩
        apply c3
        refine ⟨by omega, by omega, h.1.2.1, ?_, ?_, h.2.1, by omega, by omega⟩
        · split <;> omega
        · split <;> omega
    split
    · rename_i h
      simp only [Bool.and_eq_true, decide_eq_true_eq, beq_iff_eq] at h
      rw [if_neg]
      · rfl
      · rw [valid_iff]
        simp only [Bool.and_eq_true, decide_eq_true_eq]
        rintro ⟨z, y⟩
        apply c4
        refine ⟨by omega, by omega, h.1.1.2.1, ?_, ?_, h.1.2.1, by omega, by omega, h.2.1, by omega, by omega⟩
        · split <;> omega
        · split <;> omega
    · rfl

theorem longL_1 {l : List UInt8} (h : at0 l 0 < 128) : longL l = 1 := by unfold longL; rw [if_pos h]
theorem longL_2 {l : List UInt8} (h : 194 ≤ at0 l 0) (h2 : at0 l 0 ≤ 223) : longL l = if contL l 1 128 191 then 2 else 0 := by
  unfold longL
  rw [if_neg (by omega)]
  cases hc : contL l 1 128 191
  · rw [if_neg (by simp), if_neg (by simp; omega), if_neg (by simp; omega), if_neg (by simp)]
  · rw [if_pos (by simp; omega), if_pos rfl]
theorem longL_3 {l : List UInt8} (h : 224 ≤ at0 l 0) (h2 : at0 l 0 ≤ 239) {lo hi : Nat} (hlo : lo = if at0 l 0 = 224 then 160 else 128) (hhi : hi = if at0 l 0 = 237 then 159 else 191) :
    longL l = if contL l 1 lo hi && contL l 2 128 191 then 3 else 0 := by
  unfold longL
  rw [if_neg (by omega), if_neg (by simp; omega), ← hlo, ← hhi]
  have a : (decide (224 ≤ at0 l 0) && decide (at0 l 0 ≤ 239)) = true := by simp; omega
  have b : (decide (240 ≤ at0 l 0) && decide (at0 l 0 ≤ 244)) = false := by simp; omega
  rw [a, b]
  simp
theorem longL_4 {l : List UInt8} (h : 240 ≤ at0 l 0) (h2 : at0 l 0 ≤ 244) {lo hi : Nat} (hlo : lo = if at0 l 0 = 240 then 144 else 128) (hhi : hi = if at0 l 0 = 244 then 143 else 191) :
    longL l = if contL l 1 lo hi && contL l 2 128 191 && contL l 3 128 191 then 4 else 0 := by
  unfold longL
  rw [if_neg (by omega), if_neg (by simp; omega), if_neg (by simp; omega), ← hlo, ← hhi]
  have b : (decide (240 ≤ at0 l 0) && decide (at0 l 0 ≤ 244)) = true := by simp; omega
  rw [b]
  simp
theorem longL_0 {l : List UInt8} (h : 128 ≤ at0 l 0) (h2 : at0 l 0 < 194 ∨ 245 ≤ at0 l 0) : longL l = 0 := by
  unfold longL
  rw [if_neg (by omega), if_neg (by simp; omega), if_neg (by simp; omega), if_neg (by simp; omega)]

/-- How far a step goes: the rune's bytes, or one. -/
def wid (l : List UInt8) : Nat := max (longL l) 1

theorem runeL_wid {l : List UInt8} (hl : l ≠ []) : (runeL l).2 = wid l := by
  unfold wid
  rcases rune_long l hl with ⟨h, h2, _⟩ | ⟨h, _, _, h2, _⟩
  · rw [h2, h]; rfl
  · rw [h2]; omega
theorem wid_pos (l : List UInt8) : 1 ≤ wid l := by unfold wid; omega
theorem wid_le {l : List UInt8} (hl : l ≠ []) : wid l ≤ l.length := by
  have := List.length_pos_iff.mpr hl
  unfold wid
  rcases rune_long l hl with ⟨h, _, _⟩ | ⟨_, h, _⟩ <;> omega

/-- The line and the column of a place, from a line and a column on. -/
def placeL : Nat → Int → List UInt8 → Nat → Nat → Nat × Nat
  | 0, _, _, a, b => (a, b)
  | f + 1, k, l, a, b => if l = [] ∨ k ≤ 0 then (a, b) else if at0 l 0 = 10 then placeL f (k - wid l) (l.drop (wid l)) (a + 1) 1 else placeL f (k - wid l) (l.drop (wid l)) a (b + 1)

theorem placeL_stop {f : Nat} {k : Int} {l : List UInt8} {a b : Nat} (h : l = [] ∨ k ≤ 0) : placeL f k l a b = (a, b) := by
  cases f with
  | zero => rfl
  | succ f => rw [placeL, if_pos h]

end Go.Proofs.YthbieinbpfjgkaaGreatDoor.X.G
end

section
/-
  The walks of the small functions under glyph and its reference: each returns what plain arithmetic says and leaves the world as it was. No conditions but the arguments' ranges.
-/
namespace Go.Proofs.YthbieinbpfjgkaaGreatDoor.X
open Go.RowKit

theorem hid {p : Prop} (h : p) : Hid p := h

def inB (c a b : Int) : Bool := decide (a ≤ c) && decide (c ≤ b)

theorem ret_bool {a b : Bool} (h : a = b) : Ending.returned (.bool a) = .returned (.bool b) := by rw [h]

set_option maxHeartbeats 400000 in
theorem within_any (c a b : Int) (w : World) : Calls Tryz.prog 89 #[.int .u8 c, .int .u8 a, .int .u8 b] w fun e w' => e = .returned (.bool (inB c a b)) ∧ w = w' := by
  by_cases h1 : a ≤ c
  · by_cases h2 : c ≤ b
    · go_enter Tryz.func89, Tryz.ntmps89
      go_wp2
      go_ret
      exact ⟨ret_bool (by simp [inB, h1, h2]), rfl⟩
    · go_enter Tryz.func89, Tryz.ntmps89
      go_wp2
      go_ret
      exact ⟨ret_bool (by simp [inB, h1, h2]), rfl⟩
  · go_enter Tryz.func89, Tryz.ntmps89
    go_wp2
    go_ret
    exact ⟨ret_bool (by simp [inB]; omega), rfl⟩

set_option maxHeartbeats 400000 in
theorem small_any (c : Int) (w : World) : Calls Tryz.prog 86 #[.int .i32 c] w fun e w' => e = .returned (.bool (inB c 97 122)) ∧ w = w' := by
  go_enter Tryz.func86, Tryz.ntmps86
  go_wp2
  all_goals go_ret
  all_goals exact ⟨ret_bool (by simp [inB]; omega), rfl⟩

set_option maxHeartbeats 400000 in
theorem capital_any (c : Int) (w : World) : Calls Tryz.prog 88 #[.int .i32 c] w fun e w' => e = .returned (.bool (inB c 65 90)) ∧ w = w' := by
  go_enter Tryz.func88, Tryz.ntmps88
  go_wp2
  all_goals go_ret
  all_goals exact ⟨ret_bool (by simp [inB]; omega), rfl⟩

set_option maxHeartbeats 400000 in
theorem control_any (c : Int) (w : World) : Calls Tryz.prog 131 #[.int .i32 c] w fun e w' => e = .returned (.bool (decide (c < 32) || c == 127)) ∧ w = w' := by
  go_enter Tryz.func131, Tryz.ntmps131
  go_wp2
  all_goals go_ret
  all_goals exact ⟨ret_bool (by first | rfl | (simp; done) | (rw [Bool.eq_iff_iff]; simp; omega)), rfl⟩

/-- May a byte, or a rune, stand behind the first one of a word? -/
def behB (c : Int) : Bool := inB c 97 122 || inB c 65 90 || inB c 48 57 || c == 95

set_option maxHeartbeats 400000 in
theorem behind_any (c : Int) (w : World) : Calls Tryz.prog 123 #[.int .u8 c] w fun e w' => e = .returned (.bool (behB c)) ∧ w = w' := by
  go_enter Tryz.func123, Tryz.ntmps123
  go_wp2_with (go_at_call 89; refine (within_any _ _ _ _).mono ?_; rintro e w' ⟨rfl, rfl⟩)
  all_goals go_ret
  all_goals exact ⟨ret_bool (by simp_all [behB]), rfl⟩

set_option maxHeartbeats 400000 in
theorem continues_any (c : Int) (w : World) : Calls Tryz.prog 120 #[.int .i32 c] w fun e w' => e = .returned (.bool (behB c)) ∧ w = w' := by
  go_enter Tryz.func120, Tryz.ntmps120
  go_wp2_with (first | (go_at_call 86; refine (small_any _ _).mono ?_; rintro e w' ⟨rfl, rfl⟩) | (go_at_call 88; refine (capital_any _ _).mono ?_; rintro e w' ⟨rfl, rfl⟩))
  all_goals go_ret
  all_goals exact ⟨ret_bool (by rw [Bool.eq_iff_iff]; simp_all [behB, inB]; try omega), rfl⟩

/-- Byte i of a string, as a number. -/
def byteAt (s : ByteArray) (i : Nat) : Nat := G.at0 (s.data.toList.drop i) 0

theorem byteAt_eq (s : ByteArray) (i : Nat) (h : i < s.size) : (s[i]'h).toNat = byteAt s i := by
  have h2 : i < s.data.toList.length := by simpa using h
  unfold byteAt G.at0
  rw [List.getD_eq_getElem?_getD, List.getElem?_drop, Nat.add_zero, List.getElem?_eq_getElem h2]
  rfl

/-- From byte i on all bytes may stand in a word. -/
def allB : Nat → ByteArray → Nat → Bool
  | 0, _, _ => true
  | f + 1, s, i => if i < s.size then behB (byteAt s i) && allB f s (i + 1) else true

theorem allB_end (s : ByteArray) (f i : Nat) (h : ¬ i < s.size) : allB f s i = true := by
  cases f with
  | zero => rfl
  | succ f => simp [allB, h]

set_option maxHeartbeats 400000 in
theorem all_any (s : ByteArray) (hs : s.size ≤ 2000000) (w : World) : Calls Tryz.prog 90 #[.string s] w fun e w' => e = .returned (.bool (allB s.size s 1)) ∧ w = w' := by
  go_enter Tryz.func90, Tryz.ntmps90
  go_wp2
  go_loop [3] (fun i => ∃ k f : Nat, k ≤ s.size + 1 ∧ i = .int .i64 k ∧ allB f s k = allB s.size s 1 ∧ s.size ≤ k + f) (fun i => s.size + 1 - (intOf i).toNat)
  case atStart => exact ⟨1, s.size, by omega, rfl, rfl, by omega⟩
  case round =>
    obtain ⟨k, f, hk, rfl, ha, hf⟩ := hrel
    have HA := hid ha
    clear ha
    by_cases hlt : k < s.size
    · have hb := byteAt_eq s k hlt
      obtain ⟨f, rfl⟩ : ∃ g, f = g + 1 := ⟨f - 1, by omega⟩
      have HB := hid hb
      clear hb
      go_wp2_with (go_at_call 123; refine (behind_any _ _).mono ?_; rintro e w' ⟨rfl, rfl⟩)
      · go_ret
        have ht : (!behB ((s[k]'hlt).toNat : Int)) = true := by assumption
        rw [HB.out] at ht
        exact ⟨ret_bool (by rw [← HA.out]; simp at ht; simp [allB, hlt, ht]), rfl⟩
      · go_round
        case rel =>
          have ht : (!behB ((s[k]'hlt).toNat : Int)) = false := by first | assumption | simp_all
          rw [HB.out] at ht
          exact ⟨k + 1, f, by omega, by go_num, by rw [← HA.out]; simp at ht; simp [allB, hlt, ht], by omega⟩
        case measure => simp [intOf]; omega
    · go_wp2
      go_ret
      exact ⟨ret_bool (by rw [← HA.out, allB_end s f k hlt]), rfl⟩

theorem at0_drop (l : List UInt8) (i k : Nat) : G.at0 (l.drop i) k = G.at0 (l.drop (i + k)) 0 := by
  unfold G.at0
  rw [List.getD_eq_getElem?_getD, List.getD_eq_getElem?_getD, List.getElem?_drop, List.getElem?_drop, Nat.add_zero]

def contB (s : ByteArray) (j a b : Int) : Bool := decide (j < s.size) && inB (byteAt s j.toNat) a b

set_option maxHeartbeats 400000 in
theorem cont_any (s : ByteArray) (j a b : Int) (h0 : 0 ≤ j) (hj : j ≤ 4000000) (_hs : s.size ≤ 2000000) (w : World) : Calls Tryz.prog 157 #[.string s, .int .i64 j, .int .u8 a, .int .u8 b] w fun e w' => e = .returned (.bool (contB s j a b)) ∧ w = w' := by
  obtain ⟨n, rfl⟩ := Int.eq_ofNat_of_zero_le h0
  by_cases hlt : n < s.size
  · have hb := byteAt_eq s n hlt
    have HB := hid hb
    clear hb
    go_enter Tryz.func157, Tryz.ntmps157
    go_wp2_with (go_at_call 89; refine (within_any _ _ _ _).mono ?_; rintro e w' ⟨rfl, rfl⟩)
    go_ret
    refine ⟨ret_bool ?_, rfl⟩
    rw [HB.out]
    simp [contB, hlt]
  · go_enter Tryz.func157, Tryz.ntmps157
    go_wp2
    go_ret
    exact ⟨ret_bool (by simp [contB]; omega), rfl⟩

theorem ret_int {k : IntKind} {a b : Int} (h : a = b) : Ending.returned (.int k a) = .returned (.int k b) := by rw [h]

theorem within_yes (c a b : Int) (h1 : a ≤ c) (h2 : c ≤ b) (w : World) : Calls Tryz.prog 89 #[.int .u8 c, .int .u8 a, .int .u8 b] w fun e w' => e = .returned (.bool true) ∧ w = w' :=
  (within_any c a b w).mono fun e w' ⟨he, hw⟩ => ⟨he.trans (ret_bool (by simp [inB]; omega)), hw⟩
theorem within_no (c a b : Int) (h : c < a ∨ b < c) (w : World) : Calls Tryz.prog 89 #[.int .u8 c, .int .u8 a, .int .u8 b] w fun e w' => e = .returned (.bool false) ∧ w = w' :=
  (within_any c a b w).mono fun e w' ⟨he, hw⟩ => ⟨he.trans (ret_bool (by simp [inB]; omega)), hw⟩

theorem contB_L (s : ByteArray) (i : Nat) (k : Nat) (a b : Nat) (j : Int) (hj : j = (i : Int) + (k : Int)) : contB s j a b = G.contL (s.data.toList.drop i) k a b := by
  subst hj
  unfold contB G.contL
  rw [at0_drop]
  have : (s.data.toList.drop i).length = s.size - i := by simp
  rw [this, show ((i : Int) + (k : Int)).toNat = i + k by omega]
  have e : decide ((i : Int) + (k : Int) < (s.size : Int)) = decide (k < s.size - i) := by
    congr 1; apply propext; omega
  rw [e]
  unfold inB byteAt
  simp

set_option maxHeartbeats 1000000 in
set_option maxRecDepth 100000 in
theorem long_one (s : ByteArray) (i : Nat) (hi : i < s.size) (_hs : s.size ≤ 2000000) (hc : (s[i]'hi).toNat < 128) (w : World) : Calls Tryz.prog 137 #[.string s, .int .i64 i] w fun e w' => e = .returned (.int .i64 (G.longL (s.data.toList.drop i))) ∧ w = w' := by
  have hb := byteAt_eq s i hi
  have HF := hid (G.longL_1 (l := s.data.toList.drop i) (show byteAt s i < 128 by omega))
  clear hb
  go_enter Tryz.func137, Tryz.ntmps137
  go_wp2
  go_ret
  exact ⟨ret_int (by rw [HF.out]; rfl), rfl⟩

set_option maxHeartbeats 1000000 in
set_option maxRecDepth 100000 in
theorem long_two (s : ByteArray) (i : Nat) (hi : i < s.size) (hs : s.size ≤ 2000000) (h1 : 194 ≤ (s[i]'hi).toNat) (h2 : (s[i]'hi).toNat ≤ 223) (w : World) : Calls Tryz.prog 137 #[.string s, .int .i64 i] w fun e w' => e = .returned (.int .i64 (G.longL (s.data.toList.drop i))) ∧ w = w' := by
  have hb := byteAt_eq s i hi
  have HF := hid (G.longL_2 (l := s.data.toList.drop i) (show 194 ≤ byteAt s i by omega) (show byteAt s i ≤ 223 by omega))
  have HC := hid (contB_L s i 1 128 191 ((i : Int) + 1) rfl)
  clear hb
  go_enter Tryz.func137, Tryz.ntmps137
  go_wp2_with (first | (go_at_call 89; first | (refine (within_yes _ _ _ (by omega) (by omega) _).mono ?_; rintro e w' ⟨rfl, rfl⟩) | (refine (within_no _ _ _ (by omega) _).mono ?_; rintro e w' ⟨rfl, rfl⟩)) | (go_at_call 157; refine (cont_any s _ _ _ (by omega) (by omega) hs _).mono ?_; rintro e w' ⟨rfl, rfl⟩))
  all_goals go_ret
  all_goals refine ⟨ret_int ?_, rfl⟩
  all_goals rw [HF.out, ← HC.out]
  all_goals simp_all

end Go.Proofs.YthbieinbpfjgkaaGreatDoor.X
end

section
/-
  The walks of the reference's Long at longer runes, of isStray, and of the functions that tell words and tags: each returns what plain lists of bytes say. Condition: strings of at most 2000000 bytes.
-/
namespace Go.Proofs.YthbieinbpfjgkaaGreatDoor.X
open Go.RowKit

set_option maxHeartbeats 1000000 in
set_option maxRecDepth 100000 in
theorem long_three (s : ByteArray) (i : Nat) (hi : i < s.size) (hs : s.size ≤ 2000000) (lo hh : Nat)
    (hc : ((s[i]'hi).toNat = 224 ∧ lo = 160 ∧ hh = 191) ∨ (225 ≤ (s[i]'hi).toNat ∧ (s[i]'hi).toNat ≤ 236 ∧ lo = 128 ∧ hh = 191) ∨ ((s[i]'hi).toNat = 237 ∧ lo = 128 ∧ hh = 159) ∨ (238 ≤ (s[i]'hi).toNat ∧ (s[i]'hi).toNat ≤ 239 ∧ lo = 128 ∧ hh = 191)) (w : World) :
    Calls Tryz.prog 137 #[.string s, .int .i64 i] w fun e w' => e = .returned (.int .i64 (G.longL (s.data.toList.drop i))) ∧ w = w' := by
  have hb := byteAt_eq s i hi
  have HF := hid (G.longL_3 (l := s.data.toList.drop i) (lo := lo) (hi := hh) (show 224 ≤ byteAt s i by omega) (show byteAt s i ≤ 239 by omega) (show lo = if byteAt s i = 224 then 160 else 128 by split <;> omega) (show hh = if byteAt s i = 237 then 159 else 191 by split <;> omega))
  have HC := hid (contB_L s i 1 lo hh ((i : Int) + 1) rfl)
  have HD := hid (contB_L s i 2 128 191 ((i : Int) + 2) rfl)
  clear hb
  rcases hc with ⟨heq, rfl, rfl⟩ | ⟨h1, h2, rfl, rfl⟩ | ⟨heq, rfl, rfl⟩ | ⟨h1, h2, rfl, rfl⟩
  all_goals have h3 : 224 ≤ (s[i]'hi).toNat := by omega
  all_goals have h4 : (s[i]'hi).toNat ≤ 239 := by omega
  all_goals try (have h5 : (s[i]'hi).toNat ≤ 224 := by omega)
  all_goals try (have h6 : 237 ≤ (s[i]'hi).toNat := by omega)
  all_goals try (have h7 : (s[i]'hi).toNat ≤ 237 := by omega)
  all_goals try clear heq
  all_goals
    go_enter Tryz.func137, Tryz.ntmps137
    go_wp2_with (first | (go_at_call 89; first | (refine (within_yes _ _ _ (by omega) (by omega) _).mono ?_; rintro e w' ⟨rfl, rfl⟩) | (refine (within_no _ _ _ (by omega) _).mono ?_; rintro e w' ⟨rfl, rfl⟩)) | (go_at_call 157; refine (cont_any s _ _ _ (by omega) (by omega) hs _).mono ?_; rintro e w' ⟨rfl, rfl⟩))
  all_goals go_ret
  all_goals refine ⟨ret_int ?_, rfl⟩
  all_goals rw [HF.out, ← HC.out, ← HD.out]
  all_goals simp_all

set_option maxHeartbeats 1000000 in
set_option maxRecDepth 100000 in
theorem long_four (s : ByteArray) (i : Nat) (hi : i < s.size) (hs : s.size ≤ 2000000) (lo hh : Nat)
    (hc : ((s[i]'hi).toNat = 240 ∧ lo = 144 ∧ hh = 191) ∨ (241 ≤ (s[i]'hi).toNat ∧ (s[i]'hi).toNat ≤ 243 ∧ lo = 128 ∧ hh = 191) ∨ ((s[i]'hi).toNat = 244 ∧ lo = 128 ∧ hh = 143)) (w : World) :
    Calls Tryz.prog 137 #[.string s, .int .i64 i] w fun e w' => e = .returned (.int .i64 (G.longL (s.data.toList.drop i))) ∧ w = w' := by
  have hb := byteAt_eq s i hi
  have HF := hid (G.longL_4 (l := s.data.toList.drop i) (lo := lo) (hi := hh) (show 240 ≤ byteAt s i by omega) (show byteAt s i ≤ 244 by omega) (show lo = if byteAt s i = 240 then 144 else 128 by split <;> omega) (show hh = if byteAt s i = 244 then 143 else 191 by split <;> omega))
  have HC := hid (contB_L s i 1 lo hh ((i : Int) + 1) rfl)
  have HD := hid (contB_L s i 2 128 191 ((i : Int) + 2) rfl)
  have HE := hid (contB_L s i 3 128 191 ((i : Int) + 3) rfl)
  clear hb
  rcases hc with ⟨heq, rfl, rfl⟩ | ⟨h1, h2, rfl, rfl⟩ | ⟨heq, rfl, rfl⟩
  all_goals have h3 : 240 ≤ (s[i]'hi).toNat := by omega
  all_goals have h4 : (s[i]'hi).toNat ≤ 244 := by omega
  all_goals try (have h5 : (s[i]'hi).toNat ≤ 240 := by omega)
  all_goals try (have h6 : 244 ≤ (s[i]'hi).toNat := by omega)
  all_goals try clear heq
  all_goals
    go_enter Tryz.func137, Tryz.ntmps137
    go_wp2_with (first | (go_at_call 89; first | (refine (within_yes _ _ _ (by omega) (by omega) _).mono ?_; rintro e w' ⟨rfl, rfl⟩) | (refine (within_no _ _ _ (by omega) _).mono ?_; rintro e w' ⟨rfl, rfl⟩)) | (go_at_call 157; refine (cont_any s _ _ _ (by omega) (by omega) hs _).mono ?_; rintro e w' ⟨rfl, rfl⟩))
  all_goals go_ret
  all_goals refine ⟨ret_int ?_, rfl⟩
  all_goals rw [HF.out, ← HC.out, ← HD.out, ← HE.out]
  all_goals simp_all

set_option maxHeartbeats 1000000 in
set_option maxRecDepth 100000 in
theorem long_zero (s : ByteArray) (i : Nat) (hi : i < s.size) (_hs : s.size ≤ 2000000) (hc : (128 ≤ (s[i]'hi).toNat ∧ (s[i]'hi).toNat ≤ 193) ∨ (245 ≤ (s[i]'hi).toNat ∧ (s[i]'hi).toNat < 256)) (w : World) :
    Calls Tryz.prog 137 #[.string s, .int .i64 i] w fun e w' => e = .returned (.int .i64 (G.longL (s.data.toList.drop i))) ∧ w = w' := by
  have hb := byteAt_eq s i hi
  have HF := hid (G.longL_0 (l := s.data.toList.drop i) (show 128 ≤ byteAt s i by omega) (show byteAt s i < 194 ∨ 245 ≤ byteAt s i by omega))
  clear hb
  rcases hc with ⟨h1, h2⟩ | ⟨h1, h2⟩
  all_goals
    go_enter Tryz.func137, Tryz.ntmps137
    go_wp2_with (first | (go_at_call 89; first | (refine (within_yes _ _ _ (by omega) (by omega) _).mono ?_; rintro e w' ⟨rfl, rfl⟩) | (refine (within_no _ _ _ (by omega) _).mono ?_; rintro e w' ⟨rfl, rfl⟩)) | (go_at_call 157; refine (cont_any s _ _ _ (by omega) (by omega) _hs _).mono ?_; rintro e w' ⟨rfl, rfl⟩))
  all_goals go_ret
  all_goals exact ⟨ret_int (by rw [HF.out]; rfl), rfl⟩

theorem long_any (s : ByteArray) (i : Nat) (hi : i < s.size) (hs : s.size ≤ 2000000) (w : World) :
    Calls Tryz.prog 137 #[.string s, .int .i64 i] w fun e w' => e = .returned (.int .i64 (G.longL (s.data.toList.drop i))) ∧ w = w' := by
  have h := UInt8.toNat_lt (s[i]'hi)
  by_cases c1 : (s[i]'hi).toNat < 128
  · exact long_one s i hi hs c1 w
  by_cases c2 : 194 ≤ (s[i]'hi).toNat ∧ (s[i]'hi).toNat ≤ 223
  · exact long_two s i hi hs c2.1 c2.2 w
  by_cases c3 : 224 ≤ (s[i]'hi).toNat ∧ (s[i]'hi).toNat ≤ 239
  · exact long_three s i hi hs (if (s[i]'hi).toNat = 224 then 160 else 128) (if (s[i]'hi).toNat = 237 then 159 else 191) (by split <;> split <;> omega) w
  by_cases c4 : 240 ≤ (s[i]'hi).toNat ∧ (s[i]'hi).toNat ≤ 244
  · exact long_four s i hi hs (if (s[i]'hi).toNat = 240 then 144 else 128) (if (s[i]'hi).toNat = 244 then 143 else 191) (by split <;> split <;> omega) w
  · exact long_zero s i hi hs (by omega) w

end Go.Proofs.YthbieinbpfjgkaaGreatDoor.X
end

section
/-
  The walks of isStray and of the functions that tell words and tags: each returns what plain lists of bytes say; the world grows above what was there. Condition: strings of at most 2000000 bytes.
-/
namespace Go.Proofs.YthbieinbpfjgkaaGreatDoor.X
open Go.RowKit

set_option maxHeartbeats 400000 in
theorem stray_no (s : ByteArray) (i : Nat) (r : Int) (hr : r < 65533 ∨ 65533 < r) (w : World) :
    Calls Tryz.prog 132 #[.string s, .int .i64 i, .int .i32 r] w fun e w' => e = .returned (.bool false) ∧ w = w' := by
  have h0 : (r == 65533) = false := by simp; omega
  go_enter Tryz.func132, Tryz.ntmps132
  go_wp2
  go_ret
  exact ⟨rfl, rfl⟩

set_option maxHeartbeats 400000 in
theorem stray_yes (s : ByteArray) (i : Nat) (hi : i ≤ s.size) (_hs : s.size ≤ 2000000) (w : World) :
    Calls Tryz.prog 132 #[.string s, .int .i64 i, .int .i32 65533] w fun e w' => e = .returned (.bool (!Lib.hasPrefix (s.data.toList.drop i) [239, 191, 189])) ∧ w = w' := by
  go_enter Tryz.func132, Tryz.ntmps132
  go_wp2_with (go_at_call 150; refine (Tryz.strings_HasPrefix _ _ _).mono ?_; rintro e w' ⟨rfl, rfl⟩)
  go_ret
  refine ⟨ret_bool ?_, rfl⟩
  rw [List.take_of_length_le (by simp)]

theorem prefix_of_long {l : List UInt8} (hl : l ≠ []) (h1 : 1 ≤ G.longL l) (hr : (G.runeL l).1 = 65533) : Lib.hasPrefix l [239, 191, 189] = true := by
  rcases G.rune_long l hl with ⟨h, _, _⟩ | ⟨_, hle, _, _, he, _⟩
  · omega
  · rw [hr] at he
    have e3 : Lib.encodeRune ((65533 : Nat) : Int) = [239, 191, 189] := by decide +kernel
    rw [e3] at he
    have : l = [239, 191, 189] ++ l.drop (G.longL l) := by
      have h := (List.take_append_drop (G.longL l) l).symm
      rw [← he] at h
      exact h
    rw [this]
    simp [Lib.hasPrefix, List.isPrefixOf]

theorem long_of_prefix {l : List UInt8} (h : Lib.hasPrefix l [239, 191, 189] = true) : G.longL l = 3 := by
  have h2 : [239, 191, 189] <+: l := by simpa [Lib.hasPrefix] using h
  obtain ⟨t, rfl⟩ := h2
  have a0 : G.at0 ([239, 191, 189] ++ t) 0 = 239 := rfl
  have a1 : G.at0 ([239, 191, 189] ++ t) 1 = 191 := rfl
  have a2 : G.at0 ([239, 191, 189] ++ t) 2 = 189 := rfl
  rw [G.longL_3 (lo := 128) (hi := 191) (by omega) (by omega) (by rw [a0]; rfl) (by rw [a0]; rfl)]
  rw [if_pos (by unfold G.contL; rw [a1, a2]; simp)]

theorem stray_true (s : ByteArray) (i : Nat) (hi : i < s.size) (hs : s.size ≤ 2000000) (hz : G.longL (s.data.toList.drop i) = 0) (w : World) :
    Calls Tryz.prog 132 #[.string s, .int .i64 i, .int .i32 65533] w fun e w' => e = .returned (.bool true) ∧ w = w' := by
  refine (stray_yes s i (by omega) hs w).mono fun e w' ⟨he, hw⟩ => ⟨he.trans (ret_bool ?_), hw⟩
  cases h : Lib.hasPrefix (s.data.toList.drop i) [239, 191, 189]
  · rfl
  · rw [long_of_prefix h] at hz
    omega

theorem stray_false (s : ByteArray) (i : Nat) (hi : i < s.size) (hs : s.size ≤ 2000000) (r : Nat) (hz : 1 ≤ G.longL (s.data.toList.drop i)) (hr : (G.runeL (s.data.toList.drop i)).1 = r) (w : World) :
    Calls Tryz.prog 132 #[.string s, .int .i64 i, .int .i32 r] w fun e w' => e = .returned (.bool false) ∧ w = w' := by
  by_cases h : r = 65533
  · subst h
    refine (stray_yes s i (by omega) hs w).mono fun e w' ⟨he, hw⟩ => ⟨he.trans (ret_bool ?_), hw⟩
    rw [prefix_of_long (by intro hn; have := congrArg List.length hn; simp at this; omega) hz hr]
    rfl
  · exact stray_no s i r (by omega) w

theorem drop_ne {s : ByteArray} {i : Nat} (hi : i < s.size) : s.data.toList.drop i ≠ [] := by
  intro hn
  have := congrArg List.length hn
  simp at this
  omega

/-- 'next' at a rune, with its numbers named. -/
theorem next_at (w : World) (s : ByteArray) (pos : Nat) (ty : TypeId) (h : pos < s.size) (r n : Nat) (hd : G.runeL (s.data.toList.drop pos) = (r, n)) :
    (Instr.next (.pointer (some ⟨w.heap.size, 0, none⟩)) true ty).run Tryz.prog (w.iter s pos) = .ok (.tuple #[.bool true, .int .i64 pos, .int .i32 r]) (w.iter s (pos + n)) := by
  rw [run_next_any w s pos ty h, G.decode_eq, hd]

/-- A word, or a tag: the first byte from lo to hi, all others such as may stand in one. -/
def nameB (lo hi : Int) (s : ByteArray) : Bool := decide (0 < s.size) && (inB (byteAt s 0) lo hi && allB s.size s 1)

theorem behB_of_in {lo hi c : Int} (h : (lo = 97 ∧ hi = 122) ∨ (lo = 65 ∧ hi = 90)) (hb : inB c lo hi = true) : behB c = true := by
  rcases h with ⟨rfl, rfl⟩ | ⟨rfl, rfl⟩ <;> simp [behB, hb]

theorem behB_high {c : Int} (h : 128 ≤ c) : behB c = false := by
  unfold behB inB
  have a : decide (c ≤ 122) = false := by simp; omega
  have b : decide (c ≤ 90) = false := by simp; omega
  have d : decide (c ≤ 57) = false := by simp; omega
  have e : (c == 95) = false := by simp; omega
  simp [a, b, d, e]

/-- Somewhere from i on stands a byte that may not. -/
theorem allB_bad (s : ByteArray) (f i j : Nat) (hij : i ≤ j) (hj : j < s.size) (hf : s.size ≤ i + f) (hb : behB (byteAt s j) = false) : allB f s i = false := by
  induction f generalizing i with
  | zero => omega
  | succ f ih =>
    rw [allB, if_pos (by omega)]
    by_cases e : i = j
    · subst e; rw [hb]; rfl
    · rw [ih (i + 1) (by omega) (by omega)]; simp

theorem ne_empty {s : ByteArray} (h : 0 < s.size) : s.toList.isEmpty = false := by
  rw [Lib.toList_data]
  cases hl : s.data.toList with
  | nil =>
    have e : s.data.toList.length = s.size := by simp
    rw [hl] at e
    simp at e
    omega
  | cons _ _ => rfl
theorem is_empty {s : ByteArray} (h : s.size = 0) : s.toList.isEmpty = true := by
  rw [Lib.toList_data]
  cases hl : s.data.toList with
  | nil => rfl
  | cons _ _ =>
    have e : s.data.toList.length = s.size := by simp
    rw [hl] at e
    simp at e
    omega

theorem runeL_low {s : ByteArray} {pos : Nat} (hp : pos < s.size) (hc : byteAt s pos < 128) : G.runeL (s.data.toList.drop pos) = (byteAt s pos, 1) := by
  have e : byteAt s pos = G.at0 (s.data.toList.drop pos) 0 := rfl
  rcases G.rune_long _ (drop_ne hp) with ⟨_, _, h⟩ | ⟨_, _, _, h2, _, ⟨_, h3, h4⟩ | ⟨h3, _, _⟩⟩
  · omega
  · rw [Prod.ext_iff]; exact ⟨h4, h2.trans h3⟩
  · omega

theorem runeL_high {s : ByteArray} {pos : Nat} (hp : pos < s.size) (hc : 128 ≤ byteAt s pos) : ∃ r n, G.runeL (s.data.toList.drop pos) = (r, n) ∧ 128 ≤ r := by
  have e : byteAt s pos = G.at0 (s.data.toList.drop pos) 0 := rfl
  rcases G.rune_long _ (drop_ne hp) with ⟨_, h, _⟩ | ⟨_, _, _, h2, _, ⟨h3, _, _⟩ | ⟨_, _, h3⟩⟩
  · exact ⟨_, _, h, by omega⟩
  · omega
  · exact ⟨_, _, rfl, h3⟩

theorem continues_yes (c : Int) (h : behB c = true) (w : World) : Calls Tryz.prog 120 #[.int .i32 c] w fun e w' => e = .returned (.bool true) ∧ w = w' :=
  (continues_any c w).mono fun _ _ ⟨he, hw⟩ => ⟨he.trans (ret_bool h), hw⟩
theorem continues_no (c : Int) (h : behB c = false) (w : World) : Calls Tryz.prog 120 #[.int .i32 c] w fun e w' => e = .returned (.bool false) ∧ w = w' :=
  (continues_any c w).mono fun _ _ ⟨he, hw⟩ => ⟨he.trans (ret_bool h), hw⟩
theorem small_yes (c : Int) (h : inB c 97 122 = true) (w : World) : Calls Tryz.prog 86 #[.int .i32 c] w fun e w' => e = .returned (.bool true) ∧ w = w' :=
  (small_any c w).mono fun _ _ ⟨he, hw⟩ => ⟨he.trans (ret_bool h), hw⟩
theorem small_no (c : Int) (h : inB c 97 122 = false) (w : World) : Calls Tryz.prog 86 #[.int .i32 c] w fun e w' => e = .returned (.bool false) ∧ w = w' :=
  (small_any c w).mono fun _ _ ⟨he, hw⟩ => ⟨he.trans (ret_bool h), hw⟩
theorem capital_yes (c : Int) (h : inB c 65 90 = true) (w : World) : Calls Tryz.prog 88 #[.int .i32 c] w fun e w' => e = .returned (.bool true) ∧ w = w' :=
  (capital_any c w).mono fun _ _ ⟨he, hw⟩ => ⟨he.trans (ret_bool h), hw⟩
theorem capital_no (c : Int) (h : inB c 65 90 = false) (w : World) : Calls Tryz.prog 88 #[.int .i32 c] w fun e w' => e = .returned (.bool false) ∧ w = w' :=
  (capital_any c w).mono fun _ _ ⟨he, hw⟩ => ⟨he.trans (ret_bool h), hw⟩

set_option maxHeartbeats 2000000 in
set_option maxRecDepth 100000 in
theorem isName_small (s : ByteArray) (hs : s.size ≤ 2000000) (w : World) :
    Calls Tryz.prog 85 #[.string s, .func (.func 86) #[] #[]] w fun e w' => e = .returned (.bool (nameB 97 122 s)) ∧ Below w.heap.size w w' := by
  go_enter Tryz.func85, Tryz.ntmps85
  go_wp2
  go_loopw [] (fun wr => ∃ pos f : Nat, wr = w.iter s pos ∧ (pos = 0 ∨ (0 < pos ∧ 0 < s.size ∧ inB (byteAt s 0) 97 122 = true ∧ allB f s pos = allB s.size s 1 ∧ s.size ≤ pos + f))) (fun wr => s.size - wr.iterPos w.heap.size)
  case atStart => exact ⟨0, 0, rfl, Or.inl rfl⟩
  case round =>
    obtain ⟨pos, f, rfl, hrel⟩ := hrel
    have HR := hid hrel
    clear hrel
    by_cases hp : pos < s.size
    · by_cases hc : byteAt s pos < 128
      · have hd : G.runeL (s.data.toList.drop pos) = (byteAt s pos, 1) := runeL_low hp hc
        have hnx : ∀ ty, (Instr.next (.pointer (some ⟨w.heap.size, 0, none⟩)) true ty).run Tryz.prog (w.iter s pos) = _ := fun ty => next_at w s pos ty hp _ _ hd
        clear hd
        by_cases h0 : 0 < pos
        · have hne : ((pos : Int) == 0) = false := by simp; omega
          go_wp2_with (go_at_call 120; refine (continues_any _ _).mono ?_; rintro e w' ⟨rfl, rfl⟩)
          · have ht : (!behB (byteAt s pos : Int)) = true := by assumption
            go_ret
            refine ⟨ret_bool ?_, (Below.refl _ _).alloc (Nat.le_refl _) _⟩
            rcases HR.out with h | ⟨_, h1, h2, h3, h4⟩
            · omega
            · simp only [nameB]
              rw [← h3, allB_bad s f pos pos (Nat.le_refl _) hp h4 (by simpa using ht)]
              simp
          · have ht : (!behB (byteAt s pos : Int)) = false := by first | assumption | simp_all
            go_roundw
            case rel =>
              refine ⟨pos + 1, f - 1, rfl, Or.inr ?_⟩
              rcases HR.out with h | ⟨_, h1, h2, h3, h4⟩
              · omega
              · refine ⟨by omega, h1, h2, ?_, by omega⟩
                rw [← h3]
                obtain ⟨g, rfl⟩ : ∃ g, f = g + 1 := ⟨f - 1, by omega⟩
                rw [allB, if_pos hp]
                simp at ht
                simp [ht]
            case measure => simp; omega
        · obtain rfl : pos = 0 := by omega
          by_cases hb : inB (byteAt s 0) 97 122 = true
          · have hbe := behB_of_in (by decide) hb
            go_wp2_with (first | (go_at_call 120; refine (continues_yes _ hbe _).mono ?_; rintro e w' ⟨rfl, rfl⟩) | (go_at_call 86; refine (small_yes _ hb _).mono ?_; rintro e w' ⟨rfl, rfl⟩))
            go_roundw
            case rel => exact ⟨1, s.size, rfl, Or.inr ⟨by omega, hp, hb, rfl, by omega⟩⟩
            case measure => simp; omega
          · simp only [Bool.not_eq_true] at hb
            go_wp2_with (go_at_call 86; refine (small_no _ hb _).mono ?_; rintro e w' ⟨rfl, rfl⟩)
            go_ret
            refine ⟨ret_bool ?_, (Below.refl _ _).alloc (Nat.le_refl _) _⟩
            simp [nameB, hb]
      · obtain ⟨r, n, hd, hr⟩ : ∃ r n, G.runeL (s.data.toList.drop pos) = (r, n) ∧ 128 ≤ r := runeL_high hp (by omega)
        have hr2 : r ≤ 2147483647 := by have := decode_le s pos; rw [G.decode_eq, hd] at this; exact this
        have hnx : ∀ ty, (Instr.next (.pointer (some ⟨w.heap.size, 0, none⟩)) true ty).run Tryz.prog (w.iter s pos) = _ := fun ty => next_at w s pos ty hp _ _ hd
        clear hd
        have hbe : behB (r : Int) = false := behB_high (by omega)
        have hbs : behB (byteAt s pos : Int) = false := behB_high (by omega)
        have HX := hid hbs
        clear hbs
        by_cases h0 : 0 < pos
        · have hne : ((pos : Int) == 0) = false := by simp; omega
          go_wp2_with (go_at_call 120; refine (continues_no _ hbe _).mono ?_; rintro e w' ⟨rfl, rfl⟩)
          go_ret
          refine ⟨ret_bool ?_, (Below.refl _ _).alloc (Nat.le_refl _) _⟩
          rcases HR.out with h | ⟨_, h1, h2, h3, h4⟩
          · omega
          · simp only [nameB]
            rw [← h3, allB_bad s f pos pos (Nat.le_refl _) hp h4 HX.out]
            simp
        · obtain rfl : pos = 0 := by omega
          have hb : inB (r : Int) 97 122 = false := by
            cases h : inB (r : Int) 97 122
            · rfl
            · rw [behB_of_in (by decide) h] at hbe; exact hbe
          have hb2 : inB (byteAt s 0 : Int) 97 122 = false := by
            cases h : inB (byteAt s 0 : Int) 97 122
            · rfl
            · have := HX.out; rw [behB_of_in (by decide) h] at this; exact this
          have HY := hid hb2
          clear hb2
          go_wp2_with (go_at_call 86; refine (small_no _ hb _).mono ?_; rintro e w' ⟨rfl, rfl⟩)
          go_ret
          refine ⟨ret_bool ?_, (Below.refl _ _).alloc (Nat.le_refl _) _⟩
          simp [nameB, HY.out]
    · have hnx : ∀ ty, (Instr.next (.pointer (some ⟨w.heap.size, 0, none⟩)) true ty).run Tryz.prog (w.iter s pos) = _ := fun ty => run_next_end w s pos ty hp
      by_cases hz : 0 < s.size
      · go_wp2
        go_ret
        refine ⟨ret_bool ?_, (Below.refl _ _).alloc (Nat.le_refl _) _⟩
        rcases HR.out with h | ⟨_, h1, h2, h3, h4⟩
        · omega
        · have hE : allB f s pos = true := allB_end s f pos hp
          rw [h3] at hE
          simp [nameB, hE, h2, hz, ne_empty hz]
      · go_wp2
        go_ret
        refine ⟨ret_bool ?_, (Below.refl _ _).alloc (Nat.le_refl _) _⟩
        simp [nameB, hz, is_empty (show s.size = 0 by omega)]

set_option maxHeartbeats 400000 in
theorem isWord_any (s : ByteArray) (hs : s.size ≤ 2000000) (w : World) :
    Calls Tryz.prog 60 #[.string s] w fun e w' => e = .returned (.bool (nameB 97 122 s)) ∧ Below w.heap.size w w' := by
  go_enter Tryz.func60, Tryz.ntmps60
  go_wp2_with (go_at_call 85; refine (isName_small s hs _).mono ?_; rintro e w' ⟨rfl, hb⟩)
  go_ret
  exact ⟨rfl, hb⟩

set_option maxHeartbeats 2000000 in
set_option maxRecDepth 100000 in
theorem isName_capital (s : ByteArray) (hs : s.size ≤ 2000000) (w : World) :
    Calls Tryz.prog 85 #[.string s, .func (.func 88) #[] #[]] w fun e w' => e = .returned (.bool (nameB 65 90 s)) ∧ Below w.heap.size w w' := by
  go_enter Tryz.func85, Tryz.ntmps85
  go_wp2
  go_loopw [] (fun wr => ∃ pos f : Nat, wr = w.iter s pos ∧ (pos = 0 ∨ (0 < pos ∧ 0 < s.size ∧ inB (byteAt s 0) 65 90 = true ∧ allB f s pos = allB s.size s 1 ∧ s.size ≤ pos + f))) (fun wr => s.size - wr.iterPos w.heap.size)
  case atStart => exact ⟨0, 0, rfl, Or.inl rfl⟩
  case round =>
    obtain ⟨pos, f, rfl, hrel⟩ := hrel
    have HR := hid hrel
    clear hrel
    by_cases hp : pos < s.size
    · by_cases hc : byteAt s pos < 128
      · have hd : G.runeL (s.data.toList.drop pos) = (byteAt s pos, 1) := runeL_low hp hc
        have hnx : ∀ ty, (Instr.next (.pointer (some ⟨w.heap.size, 0, none⟩)) true ty).run Tryz.prog (w.iter s pos) = _ := fun ty => next_at w s pos ty hp _ _ hd
        clear hd
        by_cases h0 : 0 < pos
        · have hne : ((pos : Int) == 0) = false := by simp; omega
          go_wp2_with (go_at_call 120; refine (continues_any _ _).mono ?_; rintro e w' ⟨rfl, rfl⟩)
          · have ht : (!behB (byteAt s pos : Int)) = true := by assumption
            go_ret
            refine ⟨ret_bool ?_, (Below.refl _ _).alloc (Nat.le_refl _) _⟩
            rcases HR.out with h | ⟨_, h1, h2, h3, h4⟩
            · omega
            · simp only [nameB]
              rw [← h3, allB_bad s f pos pos (Nat.le_refl _) hp h4 (by simpa using ht)]
              simp
          · have ht : (!behB (byteAt s pos : Int)) = false := by first | assumption | simp_all
            go_roundw
            case rel =>
              refine ⟨pos + 1, f - 1, rfl, Or.inr ?_⟩
              rcases HR.out with h | ⟨_, h1, h2, h3, h4⟩
              · omega
              · refine ⟨by omega, h1, h2, ?_, by omega⟩
                rw [← h3]
                obtain ⟨g, rfl⟩ : ∃ g, f = g + 1 := ⟨f - 1, by omega⟩
                rw [allB, if_pos hp]
                simp at ht
                simp [ht]
            case measure => simp; omega
        · obtain rfl : pos = 0 := by omega
          by_cases hb : inB (byteAt s 0) 65 90 = true
          · have hbe := behB_of_in (by decide) hb
            go_wp2_with (first | (go_at_call 120; refine (continues_yes _ hbe _).mono ?_; rintro e w' ⟨rfl, rfl⟩) | (go_at_call 88; refine (capital_yes _ hb _).mono ?_; rintro e w' ⟨rfl, rfl⟩))
            go_roundw
            case rel => exact ⟨1, s.size, rfl, Or.inr ⟨by omega, hp, hb, rfl, by omega⟩⟩
            case measure => simp; omega
          · simp only [Bool.not_eq_true] at hb
            go_wp2_with (go_at_call 88; refine (capital_no _ hb _).mono ?_; rintro e w' ⟨rfl, rfl⟩)
            go_ret
            refine ⟨ret_bool ?_, (Below.refl _ _).alloc (Nat.le_refl _) _⟩
            simp [nameB, hb]
      · obtain ⟨r, n, hd, hr⟩ : ∃ r n, G.runeL (s.data.toList.drop pos) = (r, n) ∧ 128 ≤ r := runeL_high hp (by omega)
        have hr2 : r ≤ 2147483647 := by have := decode_le s pos; rw [G.decode_eq, hd] at this; exact this
        have hnx : ∀ ty, (Instr.next (.pointer (some ⟨w.heap.size, 0, none⟩)) true ty).run Tryz.prog (w.iter s pos) = _ := fun ty => next_at w s pos ty hp _ _ hd
        clear hd
        have hbe : behB (r : Int) = false := behB_high (by omega)
        have hbs : behB (byteAt s pos : Int) = false := behB_high (by omega)
        have HX := hid hbs
        clear hbs
        by_cases h0 : 0 < pos
        · have hne : ((pos : Int) == 0) = false := by simp; omega
          go_wp2_with (go_at_call 120; refine (continues_no _ hbe _).mono ?_; rintro e w' ⟨rfl, rfl⟩)
          go_ret
          refine ⟨ret_bool ?_, (Below.refl _ _).alloc (Nat.le_refl _) _⟩
          rcases HR.out with h | ⟨_, h1, h2, h3, h4⟩
          · omega
          · simp only [nameB]
            rw [← h3, allB_bad s f pos pos (Nat.le_refl _) hp h4 HX.out]
            simp
        · obtain rfl : pos = 0 := by omega
          have hb : inB (r : Int) 65 90 = false := by
            cases h : inB (r : Int) 65 90
            · rfl
            · rw [behB_of_in (by decide) h] at hbe; exact hbe
          have hb2 : inB (byteAt s 0 : Int) 65 90 = false := by
            cases h : inB (byteAt s 0 : Int) 65 90
            · rfl
            · have := HX.out; rw [behB_of_in (by decide) h] at this; exact this
          have HY := hid hb2
          clear hb2
          go_wp2_with (go_at_call 88; refine (capital_no _ hb _).mono ?_; rintro e w' ⟨rfl, rfl⟩)
          go_ret
          refine ⟨ret_bool ?_, (Below.refl _ _).alloc (Nat.le_refl _) _⟩
          simp [nameB, HY.out]
    · have hnx : ∀ ty, (Instr.next (.pointer (some ⟨w.heap.size, 0, none⟩)) true ty).run Tryz.prog (w.iter s pos) = _ := fun ty => run_next_end w s pos ty hp
      by_cases hz : 0 < s.size
      · go_wp2
        go_ret
        refine ⟨ret_bool ?_, (Below.refl _ _).alloc (Nat.le_refl _) _⟩
        rcases HR.out with h | ⟨_, h1, h2, h3, h4⟩
        · omega
        · have hE : allB f s pos = true := allB_end s f pos hp
          rw [h3] at hE
          simp [nameB, hE, h2, hz, ne_empty hz]
      · go_wp2
        go_ret
        refine ⟨ret_bool ?_, (Below.refl _ _).alloc (Nat.le_refl _) _⟩
        simp [nameB, hz, is_empty (show s.size = 0 by omega)]

set_option maxHeartbeats 400000 in
theorem isTag_any (s : ByteArray) (hs : s.size ≤ 2000000) (w : World) :
    Calls Tryz.prog 63 #[.string s] w fun e w' => e = .returned (.bool (nameB 65 90 s)) ∧ Below w.heap.size w w' := by
  go_enter Tryz.func63, Tryz.ntmps63
  go_wp2_with (go_at_call 85; refine (isName_capital s hs _).mono ?_; rintro e w' ⟨rfl, hb⟩)
  go_ret
  exact ⟨rfl, hb⟩

end Go.Proofs.YthbieinbpfjgkaaGreatDoor.X
end

section
/-
  The walks of the reference's words and tags, and small facts on runes. Condition: strings of at most 2000000 bytes.
-/
namespace Go.Proofs.YthbieinbpfjgkaaGreatDoor.X
open Go.RowKit

set_option maxHeartbeats 400000 in
theorem refWord_any (s : ByteArray) (hs : s.size ≤ 2000000) (w : World) :
    Calls Tryz.prog 64 #[.string s] w fun e w' => e = .returned (.bool (nameB 97 122 s)) ∧ w = w' := by
  by_cases h0 : 0 < s.size
  · have HB := hid (byteAt_eq s 0 h0)
    go_enter Tryz.func64, Tryz.ntmps64
    go_wp2_with (first | (go_at_call 89; refine (within_any _ _ _ _).mono ?_; rintro e w' ⟨rfl, rfl⟩) | (go_at_call 90; refine (all_any s hs _).mono ?_; rintro e w' ⟨rfl, rfl⟩))
    all_goals go_ret
    all_goals refine ⟨ret_bool ?_, rfl⟩
    all_goals rw [HB.out] at *
    all_goals simp_all [nameB]
  · go_enter Tryz.func64, Tryz.ntmps64
    go_wp2
    go_ret
    exact ⟨ret_bool (by simp [nameB, h0]), rfl⟩

set_option maxHeartbeats 400000 in
theorem refTag_any (s : ByteArray) (hs : s.size ≤ 2000000) (w : World) :
    Calls Tryz.prog 65 #[.string s] w fun e w' => e = .returned (.bool (nameB 65 90 s)) ∧ w = w' := by
  by_cases h0 : 0 < s.size
  · have HB := hid (byteAt_eq s 0 h0)
    go_enter Tryz.func65, Tryz.ntmps65
    go_wp2_with (first | (go_at_call 89; refine (within_any _ _ _ _).mono ?_; rintro e w' ⟨rfl, rfl⟩) | (go_at_call 90; refine (all_any s hs _).mono ?_; rintro e w' ⟨rfl, rfl⟩))
    all_goals go_ret
    all_goals refine ⟨ret_bool ?_, rfl⟩
    all_goals rw [HB.out] at *
    all_goals simp_all [nameB]
  · go_enter Tryz.func65, Tryz.ntmps65
    go_wp2
    go_ret
    exact ⟨ret_bool (by simp [nameB, h0]), rfl⟩

theorem drop_nil {s : ByteArray} {i : Nat} (hi : ¬ i < s.size) : s.data.toList.drop i = [] := by
  apply List.drop_eq_nil_of_le
  simp
  omega

theorem runeL_is {s : ByteArray} {pos : Nat} (hp : pos < s.size) : ∃ r, G.runeL (s.data.toList.drop pos) = (r, G.wid (s.data.toList.drop pos)) ∧ r ≤ 2147483647 ∧ (r = 10 ↔ G.at0 (s.data.toList.drop pos) 0 = 10) := by
  refine ⟨(G.runeL (s.data.toList.drop pos)).1, ?_, ?_, ?_⟩
  · rw [Prod.ext_iff]; exact ⟨rfl, G.runeL_wid (drop_ne hp)⟩
  · rw [← G.decode_eq]; exact decode_le s pos
  · rcases G.rune_long _ (drop_ne hp) with ⟨_, h, h3⟩ | ⟨_, _, _, _, _, ⟨_, _, h3⟩ | ⟨h1, _, h3⟩⟩
    · rw [h]; constructor
      · intro h4; simp at h4
      · intro h4; omega
    · rw [h3]
    · omega

theorem longL_le4 {l : List UInt8} (hl : l ≠ []) : G.longL l ≤ 4 := by
  rcases G.rune_long l hl with ⟨h, _, _⟩ | ⟨_, _, h, _⟩ <;> omega

theorem ret_two {a b c d : Int} (h : a = c) (h2 : b = d) : Ending.returned (.tuple #[.int .i64 a, .int .i64 b]) = .returned (.tuple #[.int .i64 c, .int .i64 d]) := by rw [h, h2]

end Go.Proofs.YthbieinbpfjgkaaGreatDoor.X
end

section
/-
  The contracts of strings.Builder's writers (copyCheck, WriteByte, WriteString, WriteRune) over this seat's program, for a builder that the call itself has made: what it holds behind the call, and that no other block has turned but rows of bytes. Conditions: the new length takes at most 2^47 bytes.
-/
namespace Go.Proofs.YthbieinbpfjgkaaGreatDoor.X
open Go.Shelf Go.RowKit

theorem sizeBuilder : (Tryz.prog.info? 54).map (·.size) = some 2 := by kernel_rfl
theorem liesBuilder : liesAt Tryz.prog Tryz.prog.depth 54 (2 / Tryz.prog.cellsOf 54) 0 54 1 = true := by kernel_rfl
theorem infoByte : (Tryz.prog.info? 5).map (fun i => (i.zero, i.size, i.bytes)) = some (some (.int .u8 0), 1, 1) := by kernel_rfl

set_option maxHeartbeats 1000000 in
set_option maxRecDepth 100000 in
theorem copyCheck_used (b : Nat) (w : World) (h0 : w.cell? ⟨b, 0, none⟩ = some (.pointer (some ⟨b, 0, none⟩))) :
    Calls Tryz.prog 72 #[.pointer (some ⟨b, 0, none⟩)] w fun e w' => e = .returned (.tuple #[]) ∧ w' = w := by
  obtain ⟨j, hj, _⟩ := Option.map_eq_some_iff.1 sizeBuilder
  go_enter Tryz.func72, Tryz.ntmps72
  go_wp2
  rw [Lib.run_neq_ptr_same w _ Tryz.underlying51 hj]
  go_wp2
  go_end0
  exact ⟨rfl, rfl⟩

set_option maxHeartbeats 1000000 in
set_option maxRecDepth 100000 in
theorem copyCheck_fresh (b : Nat) (w : World) (h0 : w.cell? ⟨b, 0, none⟩ = some (.pointer none)) (hsh : w.shape? b = some (54, 2)) (hfz : w.frozen? ⟨b, 0, none⟩ = false) :
    Calls Tryz.prog 72 #[.pointer (some ⟨b, 0, none⟩)] w fun e w' => e = .returned (.tuple #[]) ∧ w' = w.setCell ⟨b, 0, none⟩ (.pointer (some ⟨b, 0, none⟩)) := by
  obtain ⟨j, hj, hjs⟩ := Option.map_eq_some_iff.1 sizeBuilder
  go_enter Tryz.func72, Tryz.ntmps72
  go_wp2
  rw [Lib.run_to_unsafe w ⟨b, 0, none⟩ Tryz.underlying51 Tryz.underlying85 hj (by rw [hjs]; decide) hsh (Nat.zero_lt_succ 1)]
  simp only [Result.andThen]
  rw [Oper.upon_value]
  go_wp2
  rw [run_callFunc_extern Tryz.func93 (by kernel_rfl) (by kernel_rfl) (by kernel_rfl) (e := Extern.AbiNoEscape.same) (by kernel_rfl)]
  rw [Lib.run_noEscape]
  simp only [Result.andThen]
  rw [Oper.upon_value]
  go_wp2
  rw [Lib.run_from_unsafe w ⟨b, 0, none⟩ Tryz.underlying85 Tryz.underlying51 hj hsh liesBuilder]
  simp only [Result.andThen]
  rw [Oper.upon_value]
  go_wp2
  go_end0
  exact ⟨rfl, rfl⟩

theorem copyCheck_k (B b : Nat) (bs : List Value) (w : World) (h : Lib.IsBuilderF 54 5 B b bs w) :
    Calls Tryz.prog 72 #[.pointer (some ⟨b, 0, none⟩)] w fun e w' => e = .returned (.tuple #[]) ∧ (Lib.BuilderAtF 54 5 B b (.pointer (some ⟨b, 0, none⟩)) bs w' ∧ Below B w w' ∧ Lib.OthersKept 5 (some b) w w') := by
  rcases h with h | h
  · refine (copyCheck_fresh b w h.cell0 h.shape h.frozen0).mono ?_
    rintro e w' ⟨rfl, rfl⟩
    exact ⟨rfl, h.used _, (Below.refl B w).setCell (p := ⟨b, 0, none⟩) h.1 _, (Lib.OthersKept.refl _ _ w).setCell ⟨b, 0, none⟩ rfl _⟩
  · refine (copyCheck_used b w h.cell0).mono ?_
    rintro e w' ⟨rfl, rfl⟩
    exact ⟨rfl, h, Below.refl B _, Lib.OthersKept.refl _ _ _⟩

theorem heap_lt {w : World} {b : Nat} {o : Obj} (h : w.heap[b]? = some o) : b < w.heap.size := (Array.getElem?_eq_some_iff.1 h).1

set_option maxHeartbeats 2000000 in
set_option maxRecDepth 100000 in
/-- WriteByte: one byte more. -/
theorem writeByte (B b : Nat) (bs : List Value) (c : Int) (w : World) (h : Lib.IsBuilderF 54 5 B b bs w) (hlen : bs.length + 1 ≤ 140737488355328) (hBw : B ≤ w.heap.size) :
    Calls Tryz.prog 129 #[.pointer (some ⟨b, 0, none⟩), .int .u8 c] w fun e w' => e = .returned .nilIface ∧ (Lib.BuilderAtF 54 5 B b (.pointer (some ⟨b, 0, none⟩)) (bs ++ [.int .u8 c]) w' ∧ Below B w w' ∧ Lib.OthersKept 5 (some b) w w') := by
  obtain ⟨i0, hi, hz0, hz1, hz2⟩ := info_parts infoByte
  go_enter Tryz.func129, Tryz.ntmps129
  go_wp2_with (go_at_call 72; refine (copyCheck_k B b bs _ h).mono ?_)
  rintro e w1 ⟨rfl, h1, hb1, hk1⟩
  obtain ⟨hB, v, hbk, hown, hne⟩ := h1
  have c0 : w1.cell? ⟨b, 0, none⟩ = some (.pointer (some ⟨b, 0, none⟩)) := by rw [Lib.cell_of_heap hbk]; rfl
  have c1 : w1.cell? ⟨b, 1, none⟩ = some v := by rw [Lib.cell_of_heap hbk]; rfl
  go_wp2_with (at_builtin; refine wpList_append_ownF _ rfl _ _ 52 rfl B 5 i0 (.int .u8 0) 1 1 Tryz.underlying52 hi hz0 hz1 hz2 rfl (by decide) _ _ _ rfl (hown.alloc _) ⟨w1.heap.size, 0, none⟩ 1 1 [.int .u8 c] rfl rfl ?c1 ?c2 ?c3 ?c4 ?c5 ?_)
  case c1 =>
    intro j u hj
    match j, hj with
    | 0, hj => simp at hj; subst hj; simp [Addr.add]
  case c2 => intro u hu; simp at hu; subst hu; rfl
  case c3 => unfold maxLen; omega
  case c4 => omega
  case c5 => have := hb1.size; simp; omega
  intro v' w2 hown' hgrow _
  have hlt : b < w1.heap.size := heap_lt hbk
  have hb2 : w2.heap[b]? = some (.cells #[.pointer (some ⟨b, 0, none⟩), v] 54 (0, 0)) := by
    rw [hgrow.block b (by simp; omega) (fun e => hne e.symm), Lib.alloc_old w1 _ b hlt]
    exact hbk
  have d0 : w2.cell? ⟨b, 0, none⟩ = some (.pointer (some ⟨b, 0, none⟩)) := by rw [Lib.cell_of_heap hb2]; rfl
  have d1 : w2.cell? ⟨b, 1, none⟩ = some v := by rw [Lib.cell_of_heap hb2]; rfl
  have f1 : w2.frozen? ⟨b, 1, none⟩ = false := Lib.frozen_of_heap hb2 1
  obtain ⟨g, cap, rfl⟩ : ∃ g cap, v' = .slice (some ⟨g, 0, none⟩) (bs.length + 1) cap := by
    rcases hown'.2 with ⟨_, h0⟩ | ⟨g, cap, cur, fz, hv, _⟩
    · omega
    · exact ⟨g, cap, hv⟩
  go_wp2
  go_ret
  refine ⟨rfl, ?_, ?_, ((hk1.alloc _).grown hgrow (Lib.ownsRowF_kind (hown.alloc _))).setCell ⟨b, 1, none⟩ rfl _⟩
  · exact Lib.BuilderAtF.put (T := 54) (e := 5) hB hb2 (bs' := bs ++ [.int .u8 c]) (by simpa using hown') (by decide)
  · exact ((hb1.alloc (by have := hb1.size; omega) _).grown hgrow (by have := hb1.size; simp; omega) (fun k hk => (hown.lt k hk).1)).setCell (p := ⟨b, 1, none⟩) hB _

set_option maxHeartbeats 2000000 in
set_option maxRecDepth 100000 in
/-- WriteString: the string's bytes more. -/
theorem writeString (B b : Nat) (bs : List Value) (s : ByteArray) (w : World) (h : Lib.IsBuilderF 54 5 B b bs w) (hlen : bs.length + s.size ≤ 140737488355328) (hBw : B ≤ w.heap.size) :
    Calls Tryz.prog 43 #[.pointer (some ⟨b, 0, none⟩), .string s] w fun e w' => e = .returned (.tuple #[.int .i64 s.size, .nilIface]) ∧ (Lib.BuilderAtF 54 5 B b (.pointer (some ⟨b, 0, none⟩)) (bs ++ Lib.strCells s) w' ∧ Below B w w' ∧ Lib.OthersKept 5 (some b) w w') := by
  obtain ⟨i0, hi, hz0, hz1, hz2⟩ := info_parts infoByte
  go_enter Tryz.func43, Tryz.ntmps43
  go_wp2_with (go_at_call 72; refine (copyCheck_k B b bs _ h).mono ?_)
  rintro e w1 ⟨rfl, h1, hb1, hk1⟩
  obtain ⟨hB, v, hbk, hown, hne⟩ := h1
  have c0 : w1.cell? ⟨b, 0, none⟩ = some (.pointer (some ⟨b, 0, none⟩)) := by rw [Lib.cell_of_heap hbk]; rfl
  have c1 : w1.cell? ⟨b, 1, none⟩ = some v := by rw [Lib.cell_of_heap hbk]; rfl
  go_wp2_with (at_builtin; refine Lib.wpList_append_own_stringF _ rfl _ _ 52 9 rfl B 5 i0 Tryz.underlying52 Tryz.underlying9 hi hz0 hz1 hz2 _ _ _ rfl hown s rfl ?c3 ?c4 ?c5 ?_)
  case c3 => unfold maxLen; omega
  case c4 => omega
  case c5 => have := hb1.size; omega
  intro v' w2 hown' hgrow _
  have hlt : b < w1.heap.size := heap_lt hbk
  have hb2 : w2.heap[b]? = some (.cells #[.pointer (some ⟨b, 0, none⟩), v] 54 (0, 0)) := by
    rw [hgrow.block b hlt (fun e => hne e.symm)]
    exact hbk
  have d0 : w2.cell? ⟨b, 0, none⟩ = some (.pointer (some ⟨b, 0, none⟩)) := by rw [Lib.cell_of_heap hb2]; rfl
  have d1 : w2.cell? ⟨b, 1, none⟩ = some v := by rw [Lib.cell_of_heap hb2]; rfl
  have f1 : w2.frozen? ⟨b, 1, none⟩ = false := Lib.frozen_of_heap hb2 1
  obtain ⟨ao, n', cap, rfl⟩ : ∃ ao n' cap, v' = .slice ao n' cap := by
    rcases hown'.2 with ⟨hv, _⟩ | ⟨g, cap, cur, fz, hv, _⟩
    · exact ⟨_, _, _, hv⟩
    · exact ⟨_, _, _, hv⟩
  go_wp2
  go_ret2
  refine ⟨rfl, ?_, ?_, (hk1.grown hgrow (Lib.ownsRowF_kind hown)).setCell ⟨b, 1, none⟩ rfl _⟩
  · exact Lib.BuilderAtF.put (T := 54) (e := 5) hB hb2 (bs' := bs ++ Lib.strCells s) (by simpa [Lib.strCells_length] using hown') (by decide)
  · exact (hb1.grown hgrow (by have := hb1.size; omega) (fun k hk => (hown.lt k hk).1)).setCell (p := ⟨b, 1, none⟩) hB _

set_option maxHeartbeats 4000000 in
set_option maxRecDepth 100000 in
/-- WriteRune: the rune's bytes more. -/
theorem writeRune (B b : Nat) (bs : List Value) (r : Int) (hr0 : -2147483648 ≤ r) (hr1 : r ≤ 2147483647) (w : World) (h : Lib.IsBuilderF 54 5 B b bs w) (hlen : bs.length + 4 ≤ 140737488355328) (hBw : B ≤ w.heap.size) :
    Calls Tryz.prog 130 #[.pointer (some ⟨b, 0, none⟩), .int .i32 r] w fun e w' => e = .returned (.tuple #[.int .i64 (Lib.runeCells r).length, .nilIface]) ∧ (Lib.BuilderAtF 54 5 B b (.pointer (some ⟨b, 0, none⟩)) (bs ++ Lib.runeCells r) w' ∧ Below B w w' ∧ Lib.OthersKept 5 (some b) w w') := by
  have hk4 := Lib.runeCells_le r
  go_enter Tryz.func130, Tryz.ntmps130
  go_wp2_with (go_at_call 72; refine (copyCheck_k B b bs _ h).mono ?_)
  rintro e w1 ⟨rfl, h1, hb1, hk1⟩
  obtain ⟨hB, v, hbk, hown, hne⟩ := h1
  obtain ⟨ao, cap, rfl⟩ : ∃ ao cap, v = .slice ao bs.length cap := by
    rcases hown.2 with ⟨hv, h0⟩ | ⟨g, cap, cur, fz, hv, _⟩
    · exact ⟨none, 0, by rw [hv, h0]⟩
    · exact ⟨_, _, hv⟩
  have c0 : w1.cell? ⟨b, 0, none⟩ = some (.pointer (some ⟨b, 0, none⟩)) := by rw [Lib.cell_of_heap hbk]; rfl
  have c1 : w1.cell? ⟨b, 1, none⟩ = some (.slice ao bs.length cap) := by rw [Lib.cell_of_heap hbk]; rfl
  go_wp2_with (go_at_call 149; refine (Tryz.utf8_AppendRune_row B _ bs.length bs r hr0 hr1 _ hown hlen (by have := hb1.size; omega)).mono ?_)
  rintro e w2 ⟨v', rfl, hown', o, hgrow⟩
  have hlt : b < w1.heap.size := heap_lt hbk
  have hb2 : w2.heap[b]? = some (.cells #[.pointer (some ⟨b, 0, none⟩), .slice ao bs.length cap] 54 (0, 0)) := by
    rw [hgrow.block b (by simp; omega) (fun e => hne e.symm), Lib.alloc_old w1 _ b hlt]
    exact hbk
  have d0 : w2.cell? ⟨b, 0, none⟩ = some (.pointer (some ⟨b, 0, none⟩)) := by rw [Lib.cell_of_heap hb2]; rfl
  have d1 : w2.cell? ⟨b, 1, none⟩ = some (.slice ao bs.length cap) := by rw [Lib.cell_of_heap hb2]; rfl
  have f1 : w2.frozen? ⟨b, 1, none⟩ = false := Lib.frozen_of_heap hb2 1
  obtain ⟨g, cap', rfl⟩ : ∃ g cap', v' = .slice (some ⟨g, 0, none⟩) (bs.length + (Lib.runeCells r).length) cap' := by
    rcases hown'.2 with ⟨_, h0⟩ | ⟨g, cap', cur, fz, hv, _⟩
    · omega
    · exact ⟨g, cap', hv⟩
  go_wp2
  go_ret2
  refine ⟨?_, ?_, ?_, ((hk1.alloc _).grown hgrow (Lib.ownsRowF_kind (hown.alloc _))).setCell ⟨b, 1, none⟩ rfl _⟩
  · have e : ((bs.length : Int) + ((Lib.runeCells r).length : Int) - (bs.length : Int)) = ((Lib.runeCells r).length : Int) := by omega
    simp [e]
  · exact Lib.BuilderAtF.put (T := 54) (e := 5) hB hb2 (bs' := bs ++ Lib.runeCells r) (by simpa using hown') (by decide)
  · exact ((hb1.alloc (by have := hb1.size; omega) _).grown hgrow (by have := hb1.size; simp; omega) (fun k hk => (hown.lt k hk).1)).setCell (p := ⟨b, 1, none⟩) hB _

end Go.Proofs.YthbieinbpfjgkaaGreatDoor.X
end

section
/-
  A builder of the call's own beside a range over a string: one word for the state of both, and the writers' contracts in that word. Condition: what is held stays below 9000000 bytes.
-/
namespace Go.Proofs.YthbieinbpfjgkaaGreatDoor.X
open Go.RowKit

/-- Block B is a builder that holds acc, block K is the range's iterator at pos of s, and below B nothing has turned since w. -/
def St (s : ByteArray) (B K pos : Nat) (acc : List UInt8) (w wr : World) : Prop :=
  Lib.IsBuilderF 54 5 B B (Lib.byteCells acc) wr ∧ wr.heap[K]? = some (.stringIter s pos) ∧ Below B w wr ∧ B < K

theorem St.below {s : ByteArray} {B K pos : Nat} {acc : List UInt8} {w wr : World} (h : St s B K pos acc w wr) : Below B w wr := h.2.2.1
theorem St.size {s : ByteArray} {B K pos : Nat} {acc : List UInt8} {w wr : World} (h : St s B K pos acc w wr) : B ≤ wr.heap.size := by
  have := (Array.getElem?_eq_some_iff.1 h.2.1).1
  have := h.2.2.2
  omega
theorem St.pos {s : ByteArray} {B K pos : Nat} {acc : List UInt8} {w wr : World} (h : St s B K pos acc w wr) : wr.iterPos K = pos := by
  simp [World.iterPos, h.2.1]

theorem St.step {s : ByteArray} {B K pos : Nat} {acc : List UInt8} {w wr : World} (h : St s B K pos acc w wr) (p : Nat) : St s B K p acc w (wr.iterAt K s p) :=
  ⟨h.1.iterAt h.2.1 p, Lib.iterAt_heap wr K s pos p h.2.1, Lib.below_iterAt h.2.2.1 (by have := h.2.2.2; omega) s p, h.2.2.2⟩

theorem st_next {s : ByteArray} {B K pos : Nat} {acc : List UInt8} {w wr : World} (h : St s B K pos acc w wr) (hp : pos < s.size) (r n : Nat) (hd : G.runeL (s.data.toList.drop pos) = (r, n)) (ty : TypeId) :
    (Instr.next (.pointer (some ⟨K, 0, none⟩)) true ty).run Tryz.prog wr = .ok (.tuple #[.bool true, .int .i64 pos, .int .i32 r]) (wr.iterAt K s (pos + n)) := by
  have := Lib.run_next_any_at (P := Tryz.prog) wr K s pos ty h.2.1 hp
  rw [this, G.decode_eq, hd]

theorem st_end {s : ByteArray} {B K pos : Nat} {acc : List UInt8} {w wr : World} (h : St s B K pos acc w wr) (hp : ¬ pos < s.size) (ty : TypeId) :
    (Instr.next (.pointer (some ⟨K, 0, none⟩)) true ty).run Tryz.prog wr = .ok (.tuple #[.bool false]) wr :=
  Lib.run_next_end_at (P := Tryz.prog) wr K s pos ty h.2.1 hp

theorem st_byte {s : ByteArray} {B K pos : Nat} {acc : List UInt8} {w wr : World} (h : St s B K pos acc w wr) (hl : acc.length ≤ 9000000) (c : Int) (h0 : 0 ≤ c) (h1 : c < 256) :
    Calls Tryz.prog 129 #[.pointer (some ⟨B, 0, none⟩), .int .u8 c] wr fun e w' => e = .returned .nilIface ∧ St s B K pos (acc ++ [c.toNat.toUInt8]) w w' := by
  refine (writeByte B B _ c wr h.1 (by rw [Lib.byteCells_length]; omega) h.size).mono ?_
  rintro e w' ⟨rfl, h2, b2, k2⟩
  refine ⟨rfl, ?_, k2.iter h.2.1 (by have := h.2.2.2; omega), h.2.2.1.trans b2, h.2.2.2⟩
  rw [Lib.byteCells_append]
  have : Lib.byteCells [c.toNat.toUInt8] = [.int .u8 c] := by
    simp [Lib.byteCells]
    omega
  rw [this]
  exact Or.inr h2

theorem st_string {s : ByteArray} {B K pos : Nat} {acc : List UInt8} {w wr : World} (h : St s B K pos acc w wr) (hl : acc.length ≤ 9000000) (t : ByteArray) (ht : t.size ≤ 9000000) :
    Calls Tryz.prog 43 #[.pointer (some ⟨B, 0, none⟩), .string t] wr fun e w' => e = .returned (.tuple #[.int .i64 t.size, .nilIface]) ∧ St s B K pos (acc ++ t.data.toList) w w' := by
  refine (writeString B B _ t wr h.1 (by rw [Lib.byteCells_length]; omega) h.size).mono ?_
  rintro e w' ⟨rfl, h2, b2, k2⟩
  refine ⟨rfl, ?_, k2.iter h.2.1 (by have := h.2.2.2; omega), h.2.2.1.trans b2, h.2.2.2⟩
  rw [Lib.byteCells_append, ← Lib.strCells_eq]
  exact Or.inr h2

theorem st_rune {s : ByteArray} {B K pos : Nat} {acc : List UInt8} {w wr : World} (h : St s B K pos acc w wr) (hl : acc.length ≤ 9000000) (r : Nat) (hr : r ≤ 2147483647) :
    Calls Tryz.prog 130 #[.pointer (some ⟨B, 0, none⟩), .int .i32 r] wr fun e w' => e = .returned (.tuple #[.int .i64 (Lib.runeCells r).length, .nilIface]) ∧ St s B K pos (acc ++ Lib.encodeRune r) w w' := by
  refine (writeRune B B _ r (by omega) (by omega) wr h.1 (by rw [Lib.byteCells_length]; omega) h.size).mono ?_
  rintro e w' ⟨rfl, h2, b2, k2⟩
  refine ⟨rfl, ?_, k2.iter h.2.1 (by have := h.2.2.2; omega), h.2.2.1.trans b2, h.2.2.2⟩
  rw [Lib.byteCells_append, Lib.byteCells_encodeRune]
  exact Or.inr h2

theorem st_text {s : ByteArray} {B K pos : Nat} {acc : List UInt8} {w wr : World} (h : St s B K pos acc w wr) :
    Calls Tryz.prog 47 #[.pointer (some ⟨B, 0, none⟩)] wr fun e w' => e = .returned (.string ⟨acc.toArray⟩) ∧ Below B w w' := by
  refine (Tryz.Builder_String_any_k B B acc wr h.1 h.size).mono ?_
  rintro e w' ⟨rfl, _, b2, _⟩
  exact ⟨rfl, h.2.2.1.trans b2⟩

end Go.Proofs.YthbieinbpfjgkaaGreatDoor.X
end

section
/-
  Plain lists of bytes, no program: the quoted form of a list, piece by piece.
-/
namespace Go.Proofs.YthbieinbpfjgkaaGreatDoor.X.G
open Go

/-- The figure of sixteen for a number below 16. -/
def figL (n : Nat) : UInt8 := if n < 10 then UInt8.ofNat (48 + n) else UInt8.ofNat (87 + n)

/-- What the rune, or the odd byte, at the head is quoted as. -/
def pieceL (l : List UInt8) : List UInt8 :=
  if at0 l 0 = 92 ∨ at0 l 0 = 34 then [92, UInt8.ofNat (at0 l 0)]
  else if at0 l 0 = 10 then [92, 110]
  else if at0 l 0 = 9 then [92, 116]
  else if longL l = 0 ∨ at0 l 0 < 32 ∨ at0 l 0 = 127 then [92, 120, figL (at0 l 0 / 16), figL (at0 l 0 % 16)]
  else l.take (longL l)

def quoteF : Nat → List UInt8 → List UInt8
  | 0, _ => []
  | f + 1, l => if l = [] then [] else pieceL l ++ quoteF f (l.drop (wid l))

def quoteL (l : List UInt8) : List UInt8 := 34 :: quoteF l.length l ++ [34]

theorem quoteF_nil (f : Nat) : quoteF f [] = [] := by
  cases f with
  | zero => rfl
  | succ f => rfl

theorem pieceL_len (l : List UInt8) : (pieceL l).length ≤ 4 := by
  unfold pieceL
  split
  · simp
  split
  · simp
  split
  · simp
  split
  · simp
  · by_cases hl : l = []
    · subst hl; simp
    · rcases rune_long l hl with ⟨h, _, _⟩ | ⟨_, _, h, _⟩
      · rw [h]; simp
      · have : (l.take (longL l)).length ≤ longL l := List.length_take_le _ _
        omega

end Go.Proofs.YthbieinbpfjgkaaGreatDoor.X.G
end

section
/-
  The walk of glyph's Quote: it returns the quoted form as plain lists of bytes tell it; the world grows above what was there. Condition: a string of at most 2000000 bytes.
-/
namespace Go.Proofs.YthbieinbpfjgkaaGreatDoor.X
open Go.RowKit

theorem control_yes (c : Int) (h : c < 32 ∨ c = 127) (w : World) : Calls Tryz.prog 131 #[.int .i32 c] w fun e w' => e = .returned (.bool true) ∧ w = w' :=
  (control_any c w).mono fun _ _ ⟨he, hw⟩ => ⟨he.trans (ret_bool (by simp; omega)), hw⟩
theorem control_no (c : Int) (h : 32 ≤ c) (h2 : c < 127 ∨ 127 < c) (w : World) : Calls Tryz.prog 131 #[.int .i32 c] w fun e w' => e = .returned (.bool false) ∧ w = w' :=
  (control_any c w).mono fun _ _ ⟨he, hw⟩ => ⟨he.trans (ret_bool (by simp; omega)), hw⟩

theorem u8_lt (c : UInt8) : (c.toNat : Int) < 256 := by have := UInt8.toNat_lt c; omega

theorem u8_back (c : UInt8) : ((c.toNat : Int)).toNat.toUInt8 = c := by simp

theorem hex_at (n : Nat) (h : n < 16) : (⟨#[48, 49, 50, 51, 52, 53, 54, 55, 56, 57, 97, 98, 99, 100, 101, 102]⟩ : ByteArray)[n]'h = G.figL n := by
  match n, h with
  | 0, _ => rfl
  | 1, _ => rfl
  | 2, _ => rfl
  | 3, _ => rfl
  | 4, _ => rfl
  | 5, _ => rfl
  | 6, _ => rfl
  | 7, _ => rfl
  | 8, _ => rfl
  | 9, _ => rfl
  | 10, _ => rfl
  | 11, _ => rfl
  | 12, _ => rfl
  | 13, _ => rfl
  | 14, _ => rfl
  | 15, _ => rfl
  | n + 16, h => omega

theorem stray_is (s : ByteArray) (i : Nat) (hi : i < s.size) (hs : s.size ≤ 2000000) (r : Nat) (hr : r = 65533) (hz : G.longL (s.data.toList.drop i) = 0) (w : World) :
    Calls Tryz.prog 132 #[.string s, .int .i64 i, .int .i32 r] w fun e w' => e = .returned (.bool true) ∧ w = w' := by
  subst hr
  exact stray_true s i hi hs hz w

/-- What a round leaves: the relation one rune on. -/
def QRel (s : ByteArray) (B K : Nat) (w wr : World) : Prop :=
  ∃ pos f acc, St s B K pos acc w wr ∧ acc ++ G.quoteF f (s.data.toList.drop pos) = 34 :: G.quoteF s.size s.data.toList ∧ s.size ≤ pos + f ∧ acc.length ≤ 4 * pos + 1 ∧ pos ≤ s.size

theorem QRel.next {s : ByteArray} {B K pos g : Nat} {acc : List UInt8} {w wr : World} (hp : pos < s.size) (h : St s B K (pos + G.wid (s.data.toList.drop pos)) (acc ++ G.pieceL (s.data.toList.drop pos)) w wr)
    (ha : acc ++ G.quoteF (g + 1) (s.data.toList.drop pos) = 34 :: G.quoteF s.size s.data.toList) (hf : s.size ≤ pos + (g + 1)) (hl : acc.length ≤ 4 * pos + 1) : QRel s B K w wr := by
  have hw := G.wid_pos (s.data.toList.drop pos)
  refine ⟨_, g, _, h, ?_, by omega, ?_, ?_⟩
  · rw [← ha, G.quoteF, if_neg (drop_ne hp), List.drop_drop, List.append_assoc]
  · have := G.pieceL_len (s.data.toList.drop pos)
    simp
    omega
  · have h2 := G.wid_le (drop_ne hp)
    have h3 : (s.data.toList.drop pos).length = s.size - pos := by simp
    omega

/-- A round's rune by its first byte: low: it is that byte; odd: U+FFFD, one byte; high: the bytes are its own. -/
def Cl (l : List UInt8) (r : Nat) : Prop :=
  (G.at0 l 0 < 128 ∧ r = G.at0 l 0 ∧ G.longL l = 1 ∧ Lib.encodeRune (r : Int) = l.take 1) ∨ (128 ≤ G.at0 l 0 ∧ r = 65533 ∧ G.longL l = 0) ∨ (128 ≤ G.at0 l 0 ∧ 128 ≤ r ∧ 1 ≤ G.longL l ∧ Lib.encodeRune (r : Int) = l.take (G.longL l) ∧ (G.runeL l).1 = r)

theorem runeL_cl {s : ByteArray} {pos : Nat} (hp : pos < s.size) : ∃ r, G.runeL (s.data.toList.drop pos) = (r, G.wid (s.data.toList.drop pos)) ∧ r ≤ 2147483647 ∧ Cl (s.data.toList.drop pos) r := by
  refine ⟨(G.runeL (s.data.toList.drop pos)).1, ?_, ?_, ?_⟩
  · rw [Prod.ext_iff]; exact ⟨rfl, G.runeL_wid (drop_ne hp)⟩
  · rw [← G.decode_eq]; exact decode_le s pos
  · rcases G.rune_long _ (drop_ne hp) with ⟨h, h2, h3⟩ | ⟨h0, _, _, _, h4, ⟨h1, h2, h3⟩ | ⟨h1, h2, h3⟩⟩
    · exact Or.inr (Or.inl ⟨h3, by rw [h2], h⟩)
    · refine Or.inl ⟨h1, h3, h2, ?_⟩
      rw [h4, h2]
    · exact Or.inr (Or.inr ⟨h1, h3, h0, h4, rfl⟩)

theorem ret_string {a b : List UInt8} (h : a = b) : Ending.returned (.string ⟨a.toArray⟩) = .returned (.string ⟨b.toArray⟩) := by rw [h]

set_option maxHeartbeats 4000000 in
set_option maxRecDepth 1000000 in
theorem quote_any (s : ByteArray) (hs : s.size ≤ 2000000) (w : World) :
    Calls Tryz.prog 95 #[.string s] w fun e w' => e = .returned (.string ⟨(G.quoteL s.data.toList).toArray⟩) ∧ Below w.heap.size w w' := by
  go_enter Tryz.func95, Tryz.ntmps95
  go_wp2_with (go_at_call 129; refine (writeByte w.heap.size w.heap.size [] 34 _ (Lib.IsBuilderF.of (Lib.fresh_isBuilder 54 5 w)) (by simp) (by simp)).mono ?_)
  rintro e w1 ⟨rfl, h1, b1, k1⟩
  go_wp2
  have hB1 : w.heap.size < w1.heap.size := by
    obtain ⟨_, v, hbk, _⟩ := h1
    exact heap_lt hbk
  have hst : St s w.heap.size w1.heap.size 0 [34] w (w1.iter s 0) := by
    refine ⟨Lib.IsBuilderF.alloc (bs := Lib.byteCells [34]) (Or.inr h1) _, World.iter_heap w1 s 0, ?_, hB1⟩
    exact (((Below.refl _ w).alloc (Nat.le_refl _) _).trans b1).alloc (by omega) _
  clear h1 b1 k1
  go_loopw [] (fun wr => QRel s w.heap.size w1.heap.size w wr) (fun wr => s.size - wr.iterPos w1.heap.size)
  case atStart => exact ⟨0, s.size, [34], hst, by simp, by omega, by simp, by omega⟩
  case round =>
    obtain ⟨pos, f, acc, hS, hacc, hf, hal, hps⟩ := hrel
    have HA := hid hacc
    clear hacc
    by_cases hp : pos < s.size
    · obtain ⟨g, rfl⟩ : ∃ g, f = g + 1 := ⟨f - 1, by omega⟩
      obtain ⟨r, hd, hr2, hcl⟩ := runeL_cl hp
      have hnx : ∀ ty, (Instr.next (.pointer (some ⟨w1.heap.size, 0, none⟩)) true ty).run Tryz.prog wr = _ := fun ty => st_next hS hp _ _ hd ty
      have hS2 := hS.step (pos + G.wid (s.data.toList.drop pos))
      clear hd
      have HC := hid hcl
      clear hcl
      by_cases q : G.at0 (s.data.toList.drop pos) 0 = 34 ∨ G.at0 (s.data.toList.drop pos) 0 = 92
      · have hrq : r = G.at0 (s.data.toList.drop pos) 0 := by rcases HC.out with h | h | h <;> omega
        have HP : Hid (G.pieceL (s.data.toList.drop pos) = [92, UInt8.ofNat r]) := hid (by unfold G.pieceL; rw [if_pos (by omega), ← hrq])
        rw [← hrq] at q
        clear hrq
        by_cases e34 : r = 34
        · have hb : ((r : Int) == 34) = true := by simp; omega
          have HE := hid e34
          clear e34 q
          go_wp2_with (go_at_call 129; refine (st_byte hS2 (by omega) 92 (by omega) (by omega)).mono ?_)
          rintro e w2 ⟨rfl, hS3⟩
          go_wp2_with (go_at_call 130; refine (st_rune hS3 (by simp; omega) r hr2).mono ?_)
          rintro e w3 ⟨rfl, hS4⟩
          go_wp2
          go_roundw
          case rel =>
            refine QRel.next (g := g) (acc := acc) hp ?_ HA.out hf hal
            rw [HP.out]
            have e : Lib.encodeRune (r : Int) = [UInt8.ofNat r] := by rw [HE.out]; decide +kernel
            rw [e, List.append_assoc] at hS4
            exact hS4
          case measure =>
            have := G.wid_pos (s.data.toList.drop pos)
            rw [hS4.pos, hS.pos]
            omega
        · have hb : ((r : Int) == 34) = false := by simp; omega
          have hb2 : ((r : Int) == 92) = true := by simp; omega
          have HE : Hid (r = 92) := hid (by omega)
          clear e34 q
          go_wp2_with (go_at_call 129; refine (st_byte hS2 (by omega) 92 (by omega) (by omega)).mono ?_)
          rintro e w2 ⟨rfl, hS3⟩
          go_wp2_with (go_at_call 130; refine (st_rune hS3 (by simp; omega) r hr2).mono ?_)
          rintro e w3 ⟨rfl, hS4⟩
          go_wp2
          go_roundw
          case rel =>
            refine QRel.next (g := g) (acc := acc) hp ?_ HA.out hf hal
            rw [HP.out]
            have e : Lib.encodeRune (r : Int) = [UInt8.ofNat r] := by rw [HE.out]; decide +kernel
            rw [e, List.append_assoc] at hS4
            exact hS4
          case measure =>
            have := G.wid_pos (s.data.toList.drop pos)
            rw [hS4.pos, hS.pos]
            omega
      by_cases q10 : G.at0 (s.data.toList.drop pos) 0 = 10
      · have hrq : r = G.at0 (s.data.toList.drop pos) 0 := by rcases HC.out with h | h | h <;> omega
        have HP : Hid (G.pieceL (s.data.toList.drop pos) = [92, 110]) := hid (by unfold G.pieceL; rw [if_neg (by omega), if_pos (by omega)])
        have hb : ((r : Int) == 34) = false := by simp; omega
        have hb2 : ((r : Int) == 92) = false := by simp; omega
        have hb3 : ((r : Int) == 10) = true := by simp; omega
        clear hrq q10 q
        go_wp2_with (go_at_call 43; refine (st_string hS2 (by omega) _ (by decide)).mono ?_)
        rintro e w2 rfl hS3
        go_wp2
        go_roundw
        case rel => exact QRel.next (g := g) (acc := acc) hp (by rw [HP.out]; exact hS3) HA.out hf hal
        case measure =>
          have := G.wid_pos (s.data.toList.drop pos)
          rw [hS3.pos, hS.pos]
          omega
      by_cases q9 : G.at0 (s.data.toList.drop pos) 0 = 9
      · have hrq : r = G.at0 (s.data.toList.drop pos) 0 := by rcases HC.out with h | h | h <;> omega
        have HP : Hid (G.pieceL (s.data.toList.drop pos) = [92, 116]) := hid (by unfold G.pieceL; rw [if_neg (by omega), if_neg (by omega), if_pos (by omega)])
        have hb : ((r : Int) == 34) = false := by simp; omega
        have hb2 : ((r : Int) == 92) = false := by simp; omega
        have hb3 : ((r : Int) == 10) = false := by simp; omega
        have hb4 : ((r : Int) == 9) = true := by simp; omega
        clear hrq q10 q9 q
        go_wp2_with (go_at_call 43; refine (st_string hS2 (by omega) _ (by decide)).mono ?_)
        rintro e w2 rfl hS3
        go_wp2
        go_roundw
        case rel => exact QRel.next (g := g) (acc := acc) hp (by rw [HP.out]; exact hS3) HA.out hf hal
        case measure =>
          have := G.wid_pos (s.data.toList.drop pos)
          rw [hS3.pos, hS.pos]
          omega
      have hb : ((r : Int) == 34) = false := by simp; rcases HC.out with h | h | h <;> omega
      have hb2 : ((r : Int) == 92) = false := by simp; rcases HC.out with h | h | h <;> omega
      have hb3 : ((r : Int) == 10) = false := by simp; rcases HC.out with h | h | h <;> omega
      have hb4 : ((r : Int) == 9) = false := by simp; rcases HC.out with h | h | h <;> omega
      by_cases qx : G.longL (s.data.toList.drop pos) = 0 ∨ G.at0 (s.data.toList.drop pos) 0 < 32 ∨ G.at0 (s.data.toList.drop pos) 0 = 127
      · have HP : Hid (G.pieceL (s.data.toList.drop pos) = [92, 120, G.figL (G.at0 (s.data.toList.drop pos) 0 / 16), G.figL (G.at0 (s.data.toList.drop pos) 0 % 16)]) := hid (by unfold G.pieceL; rw [if_neg (by omega), if_neg (by omega), if_neg (by omega), if_pos qx])
        have HBY := hid (byteAt_eq s pos hp)
        by_cases qc : r < 32 ∨ r = 127
        · clear q q10 q9 qx
          go_wp2_with (first | (go_at_call 131; refine (control_yes _ (by omega) _).mono ?_; rintro e w' ⟨rfl, rfl⟩) | (go_at_call 43; refine (st_string hS2 (by omega) _ (by decide)).mono ?_))
          rintro e w2 rfl hS3
          have h256 : (s[pos]'hp).toNat < 256 := UInt8.toNat_lt _
          go_wp2_with fail
          refine (st_byte hS3 (by simp; omega) _ (by omega) (u8_lt _)).mono ?_
          rintro e w3 ⟨rfl, hS4⟩
          go_wp2_with fail
          refine (st_byte hS4 (by simp; omega) _ (by omega) (u8_lt _)).mono ?_
          rintro e w4 ⟨rfl, hS5⟩
          go_wp2
          go_roundw
          case rel =>
            refine QRel.next (g := g) (acc := acc) hp ?_ HA.out hf hal
            rw [HP.out]
            rw [hex_at _ (by omega), hex_at _ (by omega), HBY.out, List.append_assoc, List.append_assoc] at hS5
            simp only [u8_back, List.cons_append, List.nil_append] at hS5
            exact hS5
          case measure =>
            have := G.wid_pos (s.data.toList.drop pos)
            rw [hS5.pos, hS.pos]
            omega
        · have hrr : Hid (r = 65533) := hid (by rcases HC.out with h | h | h <;> omega)
          have hlz : Hid (G.longL (s.data.toList.drop pos) = 0) := hid (by rcases HC.out with h | h | h <;> omega)
          have hr5 : 65533 ≤ r := by have := hrr.out; omega
          clear q q10 q9 qx qc
          go_wp2_with (first | (go_at_call 131; refine (control_no _ (by omega) (by omega) _).mono ?_; rintro e w' ⟨rfl, rfl⟩) | (go_at_call 132; refine (stray_is s pos hp hs r hrr.out hlz.out _).mono ?_; rintro e w' ⟨rfl, rfl⟩) | (go_at_call 43; refine (st_string hS2 (by omega) _ (by decide)).mono ?_))
          rintro e w2 rfl hS3
          have h256 : (s[pos]'hp).toNat < 256 := UInt8.toNat_lt _
          go_wp2_with fail
          refine (st_byte hS3 (by simp; omega) _ (by omega) (u8_lt _)).mono ?_
          rintro e w3 ⟨rfl, hS4⟩
          go_wp2_with fail
          refine (st_byte hS4 (by simp; omega) _ (by omega) (u8_lt _)).mono ?_
          rintro e w4 ⟨rfl, hS5⟩
          go_wp2
          go_roundw
          case rel =>
            refine QRel.next (g := g) (acc := acc) hp ?_ HA.out hf hal
            rw [HP.out]
            rw [hex_at _ (by omega), hex_at _ (by omega), HBY.out, List.append_assoc, List.append_assoc] at hS5
            simp only [u8_back, List.cons_append, List.nil_append] at hS5
            exact hS5
          case measure =>
            have := G.wid_pos (s.data.toList.drop pos)
            rw [hS5.pos, hS.pos]
            omega
      · have HP : Hid (G.pieceL (s.data.toList.drop pos) = Lib.encodeRune (r : Int)) := hid (by
          unfold G.pieceL
          rw [if_neg (by omega), if_neg (by omega), if_neg (by omega), if_neg qx]
          rcases HC.out with ⟨_, _, h, h2⟩ | h | h
          · rw [h, h2]
          · omega
          · exact h.2.2.2.1.symm)
        have hlo : 1 ≤ G.longL (s.data.toList.drop pos) := by omega
        have hrr : 32 ≤ r ∧ (r < 127 ∨ 127 < r) := by rcases HC.out with h | h | h <;> omega
        have HRL : Hid ((G.runeL (s.data.toList.drop pos)).1 = r) := hid (by
          rcases HC.out with h | h | h
          · rcases G.rune_long _ (drop_ne hp) with ⟨_, _, h3⟩ | ⟨_, _, _, _, _, ⟨_, _, h3⟩ | ⟨h1, _, _⟩⟩
            · omega
            · rw [h3]; exact h.2.1.symm
            · omega
          · omega
          · exact h.2.2.2.2)
        obtain ⟨hr3, hr4⟩ := hrr
        clear q q10 q9 qx
        go_wp2_with (first | (go_at_call 131; refine (control_no _ (by omega) (by omega) _).mono ?_; rintro e w' ⟨rfl, rfl⟩) | (go_at_call 132; refine (stray_false s pos hp hs r hlo HRL.out _).mono ?_; rintro e w' ⟨rfl, rfl⟩) | (go_at_call 130; refine (st_rune hS2 (by omega) r hr2).mono ?_))
        rintro e w2 ⟨rfl, hS3⟩
        go_wp2
        go_roundw
        case rel => exact QRel.next (g := g) (acc := acc) hp (by rw [HP.out]; exact hS3) HA.out hf hal
        case measure =>
          have := G.wid_pos (s.data.toList.drop pos)
          rw [hS3.pos, hS.pos]
          omega
    · have hnx : ∀ ty, (Instr.next (.pointer (some ⟨w1.heap.size, 0, none⟩)) true ty).run Tryz.prog wr = _ := fun ty => st_end hS hp ty
      go_wp2_with (go_at_call 129; refine (st_byte hS (by omega) 34 (by omega) (by omega)).mono ?_)
      rintro e w2 ⟨rfl, hS2⟩
      go_wp2_with (go_at_call 47; refine (st_text hS2).mono ?_)
      rintro e w3 ⟨rfl, hb⟩
      go_wp2
      go_ret
      refine ⟨ret_string ?_, hb⟩
      have h := HA.out
      rw [drop_nil hp, G.quoteF_nil, List.append_nil] at h
      rw [h]
      simp [G.quoteL]

end Go.Proofs.YthbieinbpfjgkaaGreatDoor.X
end

section
/-
  The walk of the reference's Quote and figure: what plain lists of bytes tell; the world as it was. Condition: a string of at most 2000000 bytes.
-/
namespace Go.Proofs.YthbieinbpfjgkaaGreatDoor.X
open Go.RowKit

theorem fig_cut (n : Nat) (h : n < 16) : (⟨#[48, 49, 50, 51, 52, 53, 54, 55, 56, 57, 97, 98, 99, 100, 101, 102]⟩ : ByteArray).extract n (n + 1) = ⟨#[G.figL n]⟩ := by
  match n, h with
  | 0, _ => rfl
  | 1, _ => rfl
  | 2, _ => rfl
  | 3, _ => rfl
  | 4, _ => rfl
  | 5, _ => rfl
  | 6, _ => rfl
  | 7, _ => rfl
  | 8, _ => rfl
  | 9, _ => rfl
  | 10, _ => rfl
  | 11, _ => rfl
  | 12, _ => rfl
  | 13, _ => rfl
  | 14, _ => rfl
  | 15, _ => rfl
  | n + 16, h => omega

set_option maxHeartbeats 1000000 in
theorem figure_any (n : Int) (h0 : 0 ≤ n) (h : n < 16) (w : World) :
    Calls Tryz.prog 138 #[.int .u8 n] w fun e w' => e = .returned (.string ⟨#[G.figL n.toNat]⟩) ∧ w = w' := by
  obtain ⟨m, rfl⟩ := Int.eq_ofNat_of_zero_le h0
  go_enter Tryz.func138, Tryz.ntmps138
  go_wp2
  go_ret
  refine ⟨?_, rfl⟩
  show Ending.returned (.string _) = _
  rw [fig_cut m (by omega)]
  rfl

def RRel (s : ByteArray) (vo vi : Value) : Prop :=
  ∃ (pos f : Nat) (o : ByteArray), vo = .string o ∧ vi = .int .i64 pos ∧ o.data.toList ++ G.quoteF f (s.data.toList.drop pos) = 34 :: G.quoteF s.size s.data.toList ∧ s.size ≤ pos + f ∧ o.size ≤ 4 * pos + 1 ∧ pos ≤ s.size

theorem toList_app (a b : ByteArray) : (a ++ b).data.toList = a.data.toList ++ b.data.toList := by simp

theorem RRel.next {s : ByteArray} {pos g : Nat} {o : ByteArray} (hp : pos < s.size)
    (ha : o.data.toList ++ G.quoteF (g + 1) (s.data.toList.drop pos) = 34 :: G.quoteF s.size s.data.toList) (hf : s.size ≤ pos + (g + 1)) (hl : o.size ≤ 4 * pos + 1)
    (p : ByteArray) (hpc : p.data.toList = G.pieceL (s.data.toList.drop pos)) (k : Int) (hk : k = ((pos + G.wid (s.data.toList.drop pos) : Nat) : Int)) : RRel s (.string (o ++ p)) (.int .i64 k) := by
  subst hk
  have hw := G.wid_pos (s.data.toList.drop pos)
  have hz : p.size = p.data.toList.length := by simp
  have hz2 := G.pieceL_len (s.data.toList.drop pos)
  have h2 := G.wid_le (drop_ne hp)
  have h3 : (s.data.toList.drop pos).length = s.size - pos := by simp
  rw [hpc] at hz
  refine ⟨_, g, _, rfl, rfl, ?_, by omega, ?_, by omega⟩
  · rw [← ha, G.quoteF, if_neg (drop_ne hp), List.drop_drop, toList_app, hpc, List.append_assoc]
  · rw [ByteArray.size_append]
    omega

theorem take_one {s : ByteArray} {pos : Nat} (hp : pos < s.size) : (s.data.toList.drop pos).take 1 = [UInt8.ofNat (byteAt s pos)] := by
  have h2 : pos < s.data.toList.length := by simpa using hp
  rw [List.drop_eq_getElem_cons h2]
  have : (byteAt s pos) = (s.data.toList[pos]).toNat := by
    rw [← byteAt_eq s pos hp]
    rfl
  rw [this]
  simp

theorem cut_list (s : ByteArray) (a n : Nat) : (s.extract a (a + n)).data.toList = (s.data.toList.drop a).take n := by
  simp [List.take_drop]

theorem app3 (a b c : ByteArray) : a ++ b ++ c = a ++ (b ++ c) := by
  apply ByteArray.ext
  simp [Array.append_assoc]

set_option maxHeartbeats 4000000 in
set_option maxRecDepth 1000000 in
theorem refQuote_any (s : ByteArray) (hs : s.size ≤ 2000000) (w : World) :
    Calls Tryz.prog 103 #[.string s] w fun e w' => e = .returned (.string ⟨(G.quoteL s.data.toList).toArray⟩) ∧ w = w' := by
  go_enter Tryz.func103, Tryz.ntmps103
  go_wp2
  go_loop [3, 4] (fun vo vi => RRel s vo vi) (fun _ vi => s.size - (intOf vi).toNat)
  case atStart => exact ⟨0, s.size, _, rfl, rfl, by simp, by omega, by decide, by omega⟩
  case round =>
    obtain ⟨pos, f, o, rfl, rfl, hacc, hf, hol, hps⟩ := hrel
    have HA := hid hacc
    clear hacc
    by_cases hp : pos < s.size
    · obtain ⟨g, rfl⟩ : ∃ g, f = g + 1 := ⟨f - 1, by omega⟩
      have HB := hid (byteAt_eq s pos hp)
      have hl4 : G.longL (s.data.toList.drop pos) ≤ 4 := longL_le4 (drop_ne hp)
      have hle : Hid (G.longL (s.data.toList.drop pos) ≤ (s.data.toList.drop pos).length) := hid (by
        have := G.wid_le (drop_ne hp)
        unfold G.wid at this
        omega)
      have hlen : Hid ((s.data.toList.drop pos).length = s.size - pos) := hid (by simp)
      have hfit : pos + G.longL (s.data.toList.drop pos) ≤ s.size := by have := hle.out; have := hlen.out; omega
      by_cases q92 : byteAt s pos = 92
      · have HQ := hid q92
        have hb0 : (((s[pos]'hp).toNat : Int) == 92) = true := by rw [HB.out]; simp; omega
        clear q92
        go_wp2_with (first | (go_at_call 137; refine (long_any s pos hp hs _).mono ?_; rintro e w' ⟨rfl, rfl⟩) | (go_at_call 138; refine (figure_any _ (by omega) (by omega) _).mono ?_; rintro e w' ⟨rfl, rfl⟩))
        go_round
        case rel =>
          rw [app3]
          refine RRel.next hp HA.out hf hol _ ?_ _ (by unfold G.wid; omega)
          rw [show G.pieceL (s.data.toList.drop pos) = [92, UInt8.ofNat (byteAt s pos)] by unfold G.pieceL; rw [if_pos (by have := HQ.out; unfold byteAt at this; omega)]; rfl]
          rw [toList_app, cut_list, take_one hp]
          rfl
        case measure => simp [intOf]; omega
      by_cases q34 : byteAt s pos = 34
      · have HQ := hid q34
        have hb0 : (((s[pos]'hp).toNat : Int) == 92) = false := by rw [HB.out]; simp; omega
        have hb1 : (((s[pos]'hp).toNat : Int) == 34) = true := by rw [HB.out]; simp; omega
        clear q34 q92
        go_wp2_with (first | (go_at_call 137; refine (long_any s pos hp hs _).mono ?_; rintro e w' ⟨rfl, rfl⟩) | (go_at_call 138; refine (figure_any _ (by omega) (by omega) _).mono ?_; rintro e w' ⟨rfl, rfl⟩))
        go_round
        case rel =>
          rw [app3]
          refine RRel.next hp HA.out hf hol _ ?_ _ (by unfold G.wid; omega)
          rw [show G.pieceL (s.data.toList.drop pos) = [92, UInt8.ofNat (byteAt s pos)] by unfold G.pieceL; rw [if_pos (by have := HQ.out; unfold byteAt at this; omega)]; rfl]
          rw [toList_app, cut_list, take_one hp]
          rfl
        case measure => simp [intOf]; omega
      by_cases q10 : byteAt s pos = 10
      · have HQ := hid q10
        have hb0 : (((s[pos]'hp).toNat : Int) == 92) = false := by rw [HB.out]; simp; omega
        have hb1 : (((s[pos]'hp).toNat : Int) == 34) = false := by rw [HB.out]; simp; omega
        have hb2 : (((s[pos]'hp).toNat : Int) == 10) = true := by rw [HB.out]; simp; omega
        clear q34 q92 q10
        go_wp2_with (first | (go_at_call 137; refine (long_any s pos hp hs _).mono ?_; rintro e w' ⟨rfl, rfl⟩) | (go_at_call 138; refine (figure_any _ (by omega) (by omega) _).mono ?_; rintro e w' ⟨rfl, rfl⟩))
        go_round
        case rel =>
          refine RRel.next hp HA.out hf hol _ ?_ _ (by unfold G.wid; omega)
          rw [show G.pieceL (s.data.toList.drop pos) = [92, 110] by unfold G.pieceL; have := HQ.out; unfold byteAt at this; rw [if_neg (by omega), if_pos (by omega)]]
        case measure => simp [intOf]; omega
      by_cases q9 : byteAt s pos = 9
      · have HQ := hid q9
        have hb0 : (((s[pos]'hp).toNat : Int) == 92) = false := by rw [HB.out]; simp; omega
        have hb1 : (((s[pos]'hp).toNat : Int) == 34) = false := by rw [HB.out]; simp; omega
        have hb2 : (((s[pos]'hp).toNat : Int) == 10) = false := by rw [HB.out]; simp; omega
        have hb3 : (((s[pos]'hp).toNat : Int) == 9) = true := by rw [HB.out]; simp; omega
        clear q34 q92 q10 q9
        go_wp2_with (first | (go_at_call 137; refine (long_any s pos hp hs _).mono ?_; rintro e w' ⟨rfl, rfl⟩) | (go_at_call 138; refine (figure_any _ (by omega) (by omega) _).mono ?_; rintro e w' ⟨rfl, rfl⟩))
        go_round
        case rel =>
          refine RRel.next hp HA.out hf hol _ ?_ _ (by unfold G.wid; omega)
          rw [show G.pieceL (s.data.toList.drop pos) = [92, 116] by unfold G.pieceL; have := HQ.out; unfold byteAt at this; rw [if_neg (by omega), if_neg (by omega), if_pos (by omega)]]
        case measure => simp [intOf]; omega
      have HN : Hid (¬ byteAt s pos = 92 ∧ ¬ byteAt s pos = 34 ∧ ¬ byteAt s pos = 10 ∧ ¬ byteAt s pos = 9) := hid ⟨q92, q34, q10, q9⟩
      have hb0 : (((s[pos]'hp).toNat : Int) == 92) = false := by rw [HB.out]; simp; omega
      have hb1 : (((s[pos]'hp).toNat : Int) == 34) = false := by rw [HB.out]; simp; omega
      have hb2 : (((s[pos]'hp).toNat : Int) == 10) = false := by rw [HB.out]; simp; omega
      have hb3 : (((s[pos]'hp).toNat : Int) == 9) = false := by rw [HB.out]; simp; omega
      clear q92 q34 q10 q9
      have h256 : (s[pos]'hp).toNat < 256 := UInt8.toNat_lt _
      by_cases qx : G.longL (s.data.toList.drop pos) = 0 ∨ byteAt s pos < 32 ∨ byteAt s pos = 127
      · have HQ := hid qx
        have hx : Hid (G.pieceL (s.data.toList.drop pos) = [92, 120, G.figL (byteAt s pos / 16), G.figL (byteAt s pos % 16)]) := hid (by
          have := HN.out
          unfold byteAt at this qx
          unfold G.pieceL
          rw [if_neg (by omega), if_neg (by omega), if_neg (by omega), if_pos qx]
          rfl)
        clear qx
        by_cases hz0 : G.longL (s.data.toList.drop pos) = 0
        · have HZ := hid hz0
          have hbz : ((G.longL (s.data.toList.drop pos) : Int) == 0) = true := by simp; omega
          clear hz0
          go_wp2_with (first | (go_at_call 137; refine (long_any s pos hp hs _).mono ?_; rintro e w' ⟨rfl, rfl⟩) | (go_at_call 138; refine (figure_any _ (by omega) (by omega) _).mono ?_; rintro e w' ⟨rfl, rfl⟩))
          go_round
          case rel =>
            rw [app3, app3]
            refine RRel.next hp HA.out hf hol _ ?_ _ (by have := HZ.out; unfold G.wid; omega)
            rw [hx.out, toList_app, toList_app, ← HB.out]
            rfl
          case measure => simp [intOf]; omega
        have HZ := hid hz0
        have hbz : ((G.longL (s.data.toList.drop pos) : Int) == 0) = false := by simp; omega
        clear hz0
        by_cases h32 : (s[pos]'hp).toNat < 32
        · go_wp2_with (first | (go_at_call 137; refine (long_any s pos hp hs _).mono ?_; rintro e w' ⟨rfl, rfl⟩) | (go_at_call 138; refine (figure_any _ (by omega) (by omega) _).mono ?_; rintro e w' ⟨rfl, rfl⟩))
          go_round
          case rel =>
            rw [app3, app3]
            refine RRel.next hp HA.out hf hol _ ?_ _ (by have := HZ.out; unfold G.wid; omega)
            rw [hx.out, toList_app, toList_app, ← HB.out]
            rfl
          case measure => simp [intOf]; omega
        have hb127 : (((s[pos]'hp).toNat : Int) == 127) = true := by
          have h1 := HQ.out
          have h2 := HZ.out
          have h3 := HB.out
          simp
          omega
        go_wp2_with (first | (go_at_call 137; refine (long_any s pos hp hs _).mono ?_; rintro e w' ⟨rfl, rfl⟩) | (go_at_call 138; refine (figure_any _ (by omega) (by omega) _).mono ?_; rintro e w' ⟨rfl, rfl⟩))
        go_round
        case rel =>
          rw [app3, app3]
          refine RRel.next hp HA.out hf hol _ ?_ _ (by have := HZ.out; unfold G.wid; omega)
          rw [hx.out, toList_app, toList_app, ← HB.out]
          rfl
        case measure => simp [intOf]; omega
      · have hx : Hid (G.pieceL (s.data.toList.drop pos) = (s.data.toList.drop pos).take (G.longL (s.data.toList.drop pos))) := hid (by
          have := HN.out
          unfold byteAt at this qx
          unfold G.pieceL
          rw [if_neg (by omega), if_neg (by omega), if_neg (by omega), if_neg qx])
        have hbz : ((G.longL (s.data.toList.drop pos) : Int) == 0) = false := by simp; omega
        have HZ : Hid (¬ G.longL (s.data.toList.drop pos) = 0) := hid (by omega)
        have h32 : 32 ≤ (s[pos]'hp).toNat := by rw [HB.out]; omega
        have hb127 : (((s[pos]'hp).toNat : Int) == 127) = false := by rw [HB.out]; simp; omega
        clear qx
        go_wp2_with (first | (go_at_call 137; refine (long_any s pos hp hs _).mono ?_; rintro e w' ⟨rfl, rfl⟩) | (go_at_call 138; refine (figure_any _ (by omega) (by omega) _).mono ?_; rintro e w' ⟨rfl, rfl⟩))
        go_round
        case rel =>
          refine RRel.next hp HA.out hf hol _ ?_ _ (by unfold G.wid; omega)
          rw [hx.out, cut_list]
        case measure => simp [intOf]; omega
    · go_wp2
      go_ret
      refine ⟨?_, rfl⟩
      show Ending.returned (.string _) = _
      have h := HA.out
      rw [drop_nil hp, G.quoteF_nil, List.append_nil] at h
      have : (o ++ ⟨#[34]⟩ : ByteArray) = ⟨(G.quoteL s.data.toList).toArray⟩ := by
        apply ByteArray.ext
        apply Array.ext'
        rw [toList_app, h]
        simp [G.quoteL]
      rw [this]

end Go.Proofs.YthbieinbpfjgkaaGreatDoor.X
end

section
/-
  The walks of the escapes: glyph's unescape and unescapeHex, the reference's sixteen and escaped: what plain lists of bytes tell. Condition: strings of at most 2000000 bytes.
-/
namespace Go.Proofs.YthbieinbpfjgkaaGreatDoor.X
open Go.RowKit

namespace G
/-- The number of a figure of sixteen; -1: it is none. -/
def sixL (c : Nat) : Int := if 48 ≤ c ∧ c ≤ 57 then (c : Int) - 48 else if 97 ≤ c ∧ c ≤ 102 then (c : Int) - 87 else -1
theorem sixL_lt (c : Nat) : -1 ≤ sixL c ∧ sixL c < 16 := by
  unfold sixL
  split
  · omega
  · split <;> omega

/-- What the escape at the head stands for, and its length; length 0: none. -/
def escL (l : List UInt8) : Int × Int :=
  if l.length < 2 then (0, 0)
  else if at0 l 1 = 92 ∨ at0 l 1 = 34 then (at0 l 1, 2)
  else if at0 l 1 = 110 then (10, 2)
  else if at0 l 1 = 116 then (9, 2)
  else if at0 l 1 = 120 ∧ 4 ≤ l.length ∧ 0 ≤ sixL (at0 l 2) ∧ 0 ≤ sixL (at0 l 3) then (16 * sixL (at0 l 2) + sixL (at0 l 3), 4)
  else (0, 0)
end G

theorem index_six : ∀ n, n < 256 → Lib.indexByte [48, 49, 50, 51, 52, 53, 54, 55, 56, 57, 97, 98, 99, 100, 101, 102] (UInt8.ofNat n) = G.sixL n := by decide +kernel

theorem index_six8 (c : UInt8) : Lib.indexByte [48, 49, 50, 51, 52, 53, 54, 55, 56, 57, 97, 98, 99, 100, 101, 102] c = G.sixL c.toNat := by
  have := index_six c.toNat (UInt8.toNat_lt c)
  rw [UInt8.ofNat_toNat] at this
  exact this

theorem byteAt_at0 (s : ByteArray) (k : Nat) : byteAt s k = G.at0 s.data.toList k := by
  unfold byteAt G.at0
  rw [List.getD_eq_getElem?_getD, List.getD_eq_getElem?_getD, List.getElem?_drop, Nat.add_zero]

theorem ret_tw {a c : Int} {b d : Int} {k : IntKind} (h : a = c) (h2 : b = d) : Ending.returned (.tuple #[.int k a, .int .i64 b]) = .returned (.tuple #[.int k c, .int .i64 d]) := by rw [h, h2]

theorem or_six' : ∀ a, a < 16 → ∀ b, b < 16 → bits BinOp.or IntKind.i64 ((a : Nat) * 16 : Int) (b : Nat) % 256 = 16 * (a : Int) + b := by decide +kernel

theorem or_six (x y : Int) (hx : 0 ≤ x) (hx1 : x < 16) (hy : 0 ≤ y) (hy1 : y < 16) : bits BinOp.or IntKind.i64 (x * 16) y % 256 = 16 * x + y := by
  obtain ⟨a, rfl⟩ := Int.eq_ofNat_of_zero_le hx
  obtain ⟨b, rfl⟩ := Int.eq_ofNat_of_zero_le hy
  exact or_six' a (by omega) b (by omega)

/-- What unescapeHex returns. -/
def hexV (t : ByteArray) : Value :=
  if 4 ≤ t.size ∧ 0 ≤ G.sixL (byteAt t 2) ∧ 0 ≤ G.sixL (byteAt t 3) then .tuple #[.int .u8 (16 * G.sixL (byteAt t 2) + G.sixL (byteAt t 3)), .int .i64 4] else .tuple #[.int .u8 0, .int .i64 0]

/-- What unescape returns. -/
def escV (t : ByteArray) : Value := .tuple #[.int .u8 (G.escL t.data.toList).1, .int .i64 (G.escL t.data.toList).2]

end Go.Proofs.YthbieinbpfjgkaaGreatDoor.X
end

section
/-
  The walk of the reference's escaped: what plain lists of bytes tell; the world grows above what was there. Condition: a string of at most 2000000 bytes.
-/
namespace Go.Proofs.YthbieinbpfjgkaaGreatDoor.X
open Go.RowKit

/-- What escaped returns. -/
def escT (l : List UInt8) : ByteArray := if (G.escL l).2 = 0 then ⟨#[]⟩ else ⟨#[(G.escL l).1.toNat.toUInt8]⟩
def escS (l : List UInt8) : Value := .tuple #[.string (escT l), .int .i64 (G.escL l).2]

theorem ret_esc {l : List UInt8} {b : ByteArray} {n : Int} (a : Int) (h : G.escL l = (a, n)) (hb : b = if n = 0 then ⟨#[]⟩ else ⟨#[a.toNat.toUInt8]⟩) : Ending.returned (.tuple #[.string b, .int .i64 n]) = .returned (escS l) := by
  unfold escS escT
  rw [h, hb]

theorem wrap_u8 (v : Int) (h0 : 0 ≤ v) (h1 : v < 256) : IntKind.u8.wrap v = v := by
  have hm : v % 256 = v := by omega
  unfold IntKind.wrap
  simp [IntKind.bits, IntKind.signed, hm]

theorem one_byte (W : World) (g : Nat) (v : Int) (h0 : 0 ≤ v) (h1 : v < 256) (hc : W.cell? ⟨g, 0, none⟩ = some (.int .u8 v)) :
    (convert 52 9 (.slice (some ⟨g, 0, none⟩) 1 1)).run Tryz.prog W = .ok (.string ⟨#[v.toNat.toUInt8]⟩) W := by
  have hv : (v.toNat.toUInt8.toNat : Int) = v := by
    simp
    omega
  have := run_convert_bytes_back (P := Tryz.prog) W 52 9 5 ⟨g, 0, none⟩ 1 [v.toNat.toUInt8] Tryz.underlying52 Tryz.underlying5 Tryz.underlying9 (fun j hj => by
    match j, hj with
    | 0, _ =>
      show W.cell? ⟨g, 0 + 0, none⟩ = _
      rw [hc]
      simp only [List.getElem_cons_zero, hv])
  exact this

theorem cut_one {s : ByteArray} {i : Nat} (hi : i < s.size) : s.extract i (i + 1) = ⟨#[UInt8.ofNat (byteAt s i)]⟩ := by
  apply ByteArray.ext
  apply Array.ext'
  have := cut_list s i 1
  rw [take_one hi] at this
  exact this

end Go.Proofs.YthbieinbpfjgkaaGreatDoor.X
end

section
/-
  Plain lists of bytes, no program: what a list that begins with a quoted one stands for, piece by piece.
-/
namespace Go.Proofs.YthbieinbpfjgkaaGreatDoor.X.G
open Go

/-- From place p on (behind the first sign), with what was read: what is meant, and how many bytes; none: it is no quoted text. -/
def unqF : Nat → Nat → List UInt8 → List UInt8 → Option (List UInt8 × Nat)
  | 0, _, _, _ => none
  | f + 1, p, acc, l =>
    if l = [] then none
    else if at0 l 0 = 34 then some (acc, p + 1)
    else if longL l = 0 ∨ at0 l 0 < 32 ∨ at0 l 0 = 127 then none
    else if at0 l 0 = 92 then (if (escL l).2 = 0 then none else unqF f (p + (escL l).2.toNat) (acc ++ [(escL l).1.toNat.toUInt8]) (l.drop (escL l).2.toNat))
    else unqF f (p + longL l) (acc ++ l.take (longL l)) (l.drop (longL l))

def unqL (l : List UInt8) : Option (List UInt8 × Nat) := if at0 l 0 = 34 then unqF l.length 1 [] (l.drop 1) else none

theorem unqF_nil (f p : Nat) (acc : List UInt8) : unqF f p acc [] = none := by
  cases f with
  | zero => rfl
  | succ f => rw [unqF, if_pos rfl]

/-- An escape's bytes are low, and it is within what is left. -/
theorem escL_facts (l : List UInt8) (h0 : at0 l 0 < 128) : 0 ≤ (escL l).1 ∧ (escL l).1 < 256 ∧ ((escL l).2 = 0 ∨ ((escL l).2 = 2 ∨ (escL l).2 = 4) ∧ (escL l).2 ≤ l.length ∧ ∀ k : Nat, (k : Int) < (escL l).2 → at0 l k < 128) := by
  have s2 := sixL_lt (at0 l 2)
  have s3 := sixL_lt (at0 l 3)
  have lo : ∀ c, 0 ≤ sixL c → c < 128 := by
    intro c hc
    unfold sixL at hc
    split at hc
    · omega
    · split at hc <;> omega
  unfold escL
  split
  · exact ⟨by omega, by omega, Or.inl rfl⟩
  split
  · rename_i h1 h2
    have := at0_lt l 1
    refine ⟨by simp, by simp; omega, Or.inr ⟨Or.inl rfl, by simp; omega, ?_⟩⟩
    intro k hk
    match k, hk with
    | 0, _ => exact h0
    | 1, _ => omega
    | k + 2, hk => simp at hk; omega
  split
  · refine ⟨by omega, by omega, Or.inr ⟨Or.inl rfl, by simp; omega, ?_⟩⟩
    intro k hk
    match k, hk with
    | 0, _ => exact h0
    | 1, _ => omega
    | k + 2, hk => simp at hk; omega
  split
  · refine ⟨by omega, by omega, Or.inr ⟨Or.inl rfl, by simp; omega, ?_⟩⟩
    intro k hk
    match k, hk with
    | 0, _ => exact h0
    | 1, _ => omega
    | k + 2, hk => simp at hk; omega
  split
  · rename_i h1 h2 h3 h4 h5
    obtain ⟨h6, h7, h8, h9⟩ := h5
    refine ⟨by simp; omega, by simp; omega, Or.inr ⟨Or.inr rfl, by simp; omega, ?_⟩⟩
    intro k hk
    match k, hk with
    | 0, _ => exact h0
    | 1, _ => omega
    | 2, _ => exact lo _ h8
    | 3, _ => exact lo _ h9
    | k + 4, hk => simp at hk; omega
  · exact ⟨by omega, by omega, Or.inl rfl⟩

end Go.Proofs.YthbieinbpfjgkaaGreatDoor.X.G
end

section
/-
  The walk of glyph's Unquote: what plain lists of bytes tell; the world grows above what was there. Condition: a string of at most 2000000 bytes.
-/
namespace Go.Proofs.YthbieinbpfjgkaaGreatDoor.X
open Go.RowKit

/-- What Unquote returns. -/
def unqV (o : Option (List UInt8 × Nat)) : Value :=
  match o with
  | some x => .tuple #[.string ⟨x.1.toArray⟩, .int .i64 x.2, .int .i64 0]
  | none => .tuple #[.string ⟨#[]⟩, .int .i64 0, .int .i64 2]

theorem ext_end (s : ByteArray) (a : Nat) : (s.extract a s.size).data.toList = s.data.toList.drop a := by
  have h : s.extract a s.size = s.extract a (a + (s.size - a)) := by
    apply ByteArray.ext
    simp only [ByteArray.data_extract]
    apply Array.ext'
    simp only [Array.toList_extract, List.extract]
    by_cases hc : a ≤ s.size
    · rw [show a + (s.size - a) = s.size by omega]
    · rw [List.drop_eq_nil_of_le (by simp; omega)]
      simp
  rw [h, cut_list, List.take_of_length_le (by simp)]

theorem prefix_quote (l : List UInt8) : Lib.hasPrefix l [34] = decide (G.at0 l 0 = 34) := by
  cases l with
  | nil => rfl
  | cons c r =>
    show (34 == c && List.isPrefixOf [] r) = decide (c.toNat = 34)
    simp only [List.isPrefixOf, Bool.and_true]
    rw [Bool.eq_iff_iff]
    simp
    constructor
    · intro h; rw [← h]; rfl
    · intro h; exact (UInt8.toNat_inj.1 h).symm

def URel (s : ByteArray) (B K : Nat) (w : World) (v : Value) (wr : World) : Prop :=
  ∃ (pos nx f : Nat) (acc : List UInt8), St s B K pos acc w wr ∧ v = .int .i64 nx ∧ G.unqF f (max pos nx) acc (s.data.toList.drop (max pos nx)) = G.unqL s.data.toList ∧ s.size ≤ max pos nx + f ∧ max pos nx ≤ s.size ∧
    (∀ j, pos ≤ j → j < nx → byteAt s j < 128) ∧ acc.length ≤ 4 * max pos nx

theorem ret_unq {l : List UInt8} {o : Option (List UInt8 × Nat)} (h : o = G.unqL l) : Ending.returned (unqV o) = .returned (unqV (G.unqL l)) := by rw [h]

end Go.Proofs.YthbieinbpfjgkaaGreatDoor.X
end

section
/-
  The walk of the reference's Unquote: what plain lists of bytes tell; the world grows above what was there. Condition: a string of at most 2000000 bytes.
-/
namespace Go.Proofs.YthbieinbpfjgkaaGreatDoor.X
open Go.RowKit

def VRel (s : ByteArray) (w : World) (vo vi : Value) (wr : World) : Prop :=
  ∃ (pos f : Nat) (o : ByteArray), vo = .string o ∧ vi = .int .i64 pos ∧ G.unqF f pos o.data.toList (s.data.toList.drop pos) = G.unqL s.data.toList ∧ s.size ≤ pos + f ∧ pos ≤ s.size ∧ o.size ≤ 4 * pos ∧ Below w.heap.size w wr

theorem at0_nil {l : List UInt8} (h : G.at0 l 0 = 34) : l ≠ [] := by
  intro hn
  rw [hn] at h
  exact absurd h (by decide)

theorem ret_unq3 {l : List UInt8} {o : ByteArray} {n : Int} {x : List UInt8} {m : Nat} (h : some (x, m) = G.unqL l) (ho : o.data.toList = x) (hn : n = m) : Ending.returned (.tuple #[.string o, .int .i64 n, .int .i64 0]) = .returned (unqV (G.unqL l)) := by
  rw [← h, hn, ← ho]
  rfl

end Go.Proofs.YthbieinbpfjgkaaGreatDoor.X
end

section
/-
  Plain lists of bytes, no program: bytes behind a rune's first one, a list put behind another one, places on, and words with a byte more.
-/
namespace Go.Proofs.YthbieinbpfjgkaaGreatDoor.X.G
open Go

/-- The bytes behind a rune's first one are high. -/
theorem long_cont {l : List UInt8} {k : Nat} (h0 : 0 < k) (hk : k < longL l) : 128 ≤ at0 l k ∧ k < l.length := by
  by_cases hl : l = []
  · subst hl
    have : longL ([] : List UInt8) = 1 := rfl
    omega
  by_cases c1 : at0 l 0 < 128
  · rw [longL_1 c1] at hk; omega
  by_cases c2 : 194 ≤ at0 l 0 ∧ at0 l 0 ≤ 223
  · rw [longL_2 c2.1 c2.2] at hk
    split at hk
    · rename_i h
      simp only [contL, Bool.and_eq_true, decide_eq_true_eq] at h
      obtain rfl : k = 1 := by omega
      omega
    · omega
  by_cases c3 : 224 ≤ at0 l 0 ∧ at0 l 0 ≤ 239
  · obtain ⟨lo, hlo⟩ : ∃ x, x = if at0 l 0 = 224 then 160 else 128 := ⟨_, rfl⟩
    obtain ⟨hi, hhi⟩ : ∃ x, x = if at0 l 0 = 237 then 159 else 191 := ⟨_, rfl⟩
    rw [longL_3 c3.1 c3.2 hlo hhi] at hk
    split at hk
    · rename_i h
      simp only [contL, Bool.and_eq_true, decide_eq_true_eq] at h
      obtain ⟨⟨a1, a2, a3⟩, b1, b2, b3⟩ := h
      have : 128 ≤ lo := by rw [hlo]; split <;> omega
      rcases (show k = 1 ∨ k = 2 by omega) with rfl | rfl <;> omega
    · omega
  by_cases c4 : 240 ≤ at0 l 0 ∧ at0 l 0 ≤ 244
  · obtain ⟨lo, hlo⟩ : ∃ x, x = if at0 l 0 = 240 then 144 else 128 := ⟨_, rfl⟩
    obtain ⟨hi, hhi⟩ : ∃ x, x = if at0 l 0 = 244 then 143 else 191 := ⟨_, rfl⟩
    rw [longL_4 c4.1 c4.2 hlo hhi] at hk
    split at hk
    · rename_i h
      simp only [contL, Bool.and_eq_true, decide_eq_true_eq] at h
      obtain ⟨⟨⟨a1, a2, a3⟩, b1, b2, b3⟩, d1, d2, d3⟩ := h
      have : 128 ≤ lo := by rw [hlo]; split <;> omega
      rcases (show k = 1 ∨ k = 2 ∨ k = 3 by omega) with rfl | rfl | rfl <;> omega
    · omega
  · rw [longL_0 (by omega) (by omega)] at hk
    omega

/-- A rune hangs on its own bytes alone. -/
theorem longL_same {l r : List UInt8} (h1 : 1 ≤ longL l) (hb : ∀ k, k < longL l → at0 r k = at0 l k) (hr : longL l ≤ r.length) : longL r = longL l := by
  have e0 : at0 r 0 = at0 l 0 := hb 0 h1
  by_cases c1 : at0 l 0 < 128
  · rw [longL_1 c1, longL_1 (by omega)]
  by_cases c2 : 194 ≤ at0 l 0 ∧ at0 l 0 ≤ 223
  · rw [longL_2 c2.1 c2.2] at h1 hb hr ⊢
    rw [longL_2 (by omega) (by omega)]
    split at h1
    · rename_i h
      rw [if_pos h] at hb hr ⊢
      simp only [contL, Bool.and_eq_true, decide_eq_true_eq] at h
      have e1 := hb 1 (by omega)
      rw [if_pos (by simp only [contL, Bool.and_eq_true, decide_eq_true_eq]; omega)]
    · omega
  by_cases c3 : 224 ≤ at0 l 0 ∧ at0 l 0 ≤ 239
  · obtain ⟨lo, hlo⟩ : ∃ x, x = if at0 l 0 = 224 then 160 else 128 := ⟨_, rfl⟩
    obtain ⟨hi, hhi⟩ : ∃ x, x = if at0 l 0 = 237 then 159 else 191 := ⟨_, rfl⟩
    rw [longL_3 c3.1 c3.2 hlo hhi] at h1 hb hr ⊢
    rw [longL_3 (l := r) (by omega) (by omega) (show lo = _ by rw [e0]; exact hlo) (show hi = _ by rw [e0]; exact hhi)]
    split at h1
    · rename_i h
      rw [if_pos h] at hb hr ⊢
      simp only [contL, Bool.and_eq_true, decide_eq_true_eq] at h
      have e1 := hb 1 (by omega)
      have e2 := hb 2 (by omega)
      rw [if_pos (by simp only [contL, Bool.and_eq_true, decide_eq_true_eq]; rw [e1, e2]; obtain ⟨⟨a1, a2, a3⟩, b1, b2, b3⟩ := h; exact ⟨⟨by omega, a2, a3⟩, by omega, b2, b3⟩)]
    · omega
  by_cases c4 : 240 ≤ at0 l 0 ∧ at0 l 0 ≤ 244
  · obtain ⟨lo, hlo⟩ : ∃ x, x = if at0 l 0 = 240 then 144 else 128 := ⟨_, rfl⟩
    obtain ⟨hi, hhi⟩ : ∃ x, x = if at0 l 0 = 244 then 143 else 191 := ⟨_, rfl⟩
    rw [longL_4 c4.1 c4.2 hlo hhi] at h1 hb hr ⊢
    rw [longL_4 (l := r) (by omega) (by omega) (show lo = _ by rw [e0]; exact hlo) (show hi = _ by rw [e0]; exact hhi)]
    split at h1
    · rename_i h
      rw [if_pos h] at hb hr ⊢
      simp only [contL, Bool.and_eq_true, decide_eq_true_eq] at h
      have e1 := hb 1 (by omega)
      have e2 := hb 2 (by omega)
      have e3 := hb 3 (by omega)
      rw [if_pos (by simp only [contL, Bool.and_eq_true, decide_eq_true_eq]; rw [e1, e2, e3]; obtain ⟨⟨⟨a1, a2, a3⟩, b1, b2, b3⟩, d1, d2, d3⟩ := h; exact ⟨⟨⟨by omega, a2, a3⟩, by omega, b2, b3⟩, by omega, d2, d3⟩)]
    · omega
  · rw [longL_0 (by omega) (by omega)] at h1
    omega

theorem at0_app {l r : List UInt8} {k : Nat} (h : k < l.length) : at0 (l ++ r) k = at0 l k := by
  unfold at0
  rw [List.getD_eq_getElem?_getD, List.getD_eq_getElem?_getD, List.getElem?_append_left h]

theorem at0_past {l : List UInt8} {k : Nat} (h : l.length ≤ k) : at0 l k = 0 := by
  unfold at0
  rw [List.getD_eq_getElem?_getD, List.getElem?_eq_none h]
  rfl

theorem long_le {l : List UInt8} (hl : l ≠ []) : longL l ≤ l.length := by
  rcases rune_long l hl with ⟨h, _, _⟩ | ⟨_, h, _⟩ <;> omega

/-- A whole rune at the head stays one, whatever stands behind. -/
theorem longL_app {l r : List UInt8} (hl : l ≠ []) (h1 : 1 ≤ longL l) : longL (l ++ r) = longL l :=
  longL_same h1 (fun k hk => at0_app (Nat.lt_of_lt_of_le hk (long_le hl))) (by have := long_le hl; simp; omega)

theorem at0_drop2 (l : List UInt8) (i k : Nat) : at0 (l.drop i) k = at0 l (i + k) := by
  unfold at0
  rw [List.getD_eq_getElem?_getD, List.getD_eq_getElem?_getD, List.getElem?_drop]

/-- Enough steps are enough. -/
theorem placeL_more (f g : Nat) (k : Int) (l : List UInt8) (a b : Nat) (hf : l.length ≤ f) (hg : l.length ≤ g) : placeL f k l a b = placeL g k l a b := by
  induction f generalizing g k l a b with
  | zero =>
    have : l = [] := List.eq_nil_of_length_eq_zero (by omega)
    rw [placeL_stop (Or.inl this), placeL_stop (Or.inl this)]
  | succ f ih =>
    by_cases hs : l = [] ∨ k ≤ 0
    · rw [placeL_stop hs, placeL_stop hs]
    · have hl : l ≠ [] := fun h => hs (Or.inl h)
      have h0 := List.length_pos_iff.mpr hl
      obtain ⟨g, rfl⟩ : ∃ m, g = m + 1 := ⟨g - 1, by omega⟩
      have hw := wid_pos l
      have hd : (l.drop (wid l)).length = l.length - wid l := by simp
      rw [placeL, placeL, if_neg hs, if_neg hs]
      split
      · exact ih _ _ _ _ _ (by omega) (by omega)
      · exact ih _ _ _ _ _ (by omega) (by omega)

/-- Lines on. -/
theorem placeL_shift (f : Nat) (k : Int) (l : List UInt8) (a b n : Nat) : placeL f k l (a + n) b = ((placeL f k l a b).1 + n, (placeL f k l a b).2) := by
  induction f generalizing k l a b with
  | zero => rfl
  | succ f ih =>
    rw [placeL, placeL]
    split
    · rfl
    split
    · rw [show a + n + 1 = a + 1 + n by omega]; exact ih _ _ _ _
    · exact ih _ _ _ _

theorem placeL_ge (f : Nat) (k : Int) (l : List UInt8) (a b : Nat) (hb : 1 ≤ b) : a ≤ (placeL f k l a b).1 ∧ 1 ≤ (placeL f k l a b).2 := by
  induction f generalizing k l a b with
  | zero => exact ⟨Nat.le_refl _, hb⟩
  | succ f ih =>
    rw [placeL]
    split
    · exact ⟨Nat.le_refl _, hb⟩
    split
    · have := ih (k - wid l) (l.drop (wid l)) (a + 1) 1 (Nat.le_refl _)
      omega
    · have := ih (k - wid l) (l.drop (wid l)) a (b + 1) (by omega)
      omega

theorem placeL_step {f : Nat} {k : Int} {l : List UInt8} {a b : Nat} (h : ¬ (l = [] ∨ k ≤ 0)) : placeL (f + 1) k l a b = if at0 l 0 = 10 then placeL f (k - wid l) (l.drop (wid l)) (a + 1) 1 else placeL f (k - wid l) (l.drop (wid l)) a (b + 1) := by
  rw [placeL, if_neg h]

/-- One byte on: a line more behind a line's end, else the same line, and the same column or the next. -/
theorem placeL_one (f : Nat) (k : Nat) (l : List UInt8) (a b : Nat) (hf : l.length ≤ f) (hk : k < l.length) :
    (at0 l k = 10 → placeL f ((k : Int) + 1) l a b = ((placeL f k l a b).1 + 1, 1)) ∧
    (at0 l k ≠ 10 → (placeL f ((k : Int) + 1) l a b).1 = (placeL f k l a b).1 ∧ ((placeL f ((k : Int) + 1) l a b).2 = (placeL f k l a b).2 ∨ (placeL f ((k : Int) + 1) l a b).2 = (placeL f k l a b).2 + 1)) := by
  induction f generalizing k l a b with
  | zero => omega
  | succ f ih =>
    have hl : l ≠ [] := by intro h; subst h; simp at hk
    have hw := wid_pos l
    have hd : (l.drop (wid l)).length = l.length - wid l := by simp
    by_cases h0 : k = 0
    · subst h0
      have e0 : placeL (f + 1) ((0 : Nat) : Int) l a b = (a, b) := placeL_stop (Or.inr (by omega))
      have e1 : placeL (f + 1) (((0 : Nat) : Int) + 1) l a b = if at0 l 0 = 10 then (a + 1, 1) else (a, b + 1) := by
        rw [placeL_step (by intro h; rcases h with h | h; exact hl h; omega), placeL_stop (Or.inr (by omega)), placeL_stop (Or.inr (by omega))]
      rw [e0, e1]
      constructor
      · intro h
        rw [if_pos h]
      · intro h
        rw [if_neg h]
        exact ⟨rfl, Or.inr rfl⟩
    · rw [placeL_step (k := (k : Int) + 1) (by intro h; rcases h with h | h; exact hl h; omega), placeL_step (k := (k : Int)) (by intro h; rcases h with h | h; exact hl h; omega)]
      by_cases hkw : k < wid l
      · have hk2 : k < longL l := by unfold wid at hkw; omega
        have hc := long_cont (by omega) hk2
        refine ⟨fun h => by omega, fun _ => ?_⟩
        split
        · rw [placeL_stop (Or.inr (by omega)), placeL_stop (Or.inr (by omega))]
          exact ⟨rfl, Or.inl rfl⟩
        · rw [placeL_stop (Or.inr (by omega)), placeL_stop (Or.inr (by omega))]
          exact ⟨rfl, Or.inl rfl⟩
      · have e1 : ((k : Int) + 1 - (wid l : Nat)) = ((k - wid l : Nat) : Int) + 1 := by omega
        have e2 : ((k : Int) - (wid l : Nat)) = ((k - wid l : Nat) : Int) := by omega
        have e3 : at0 (l.drop (wid l)) (k - wid l) = at0 l k := by rw [at0_drop2, show wid l + (k - wid l) = k by omega]
        rw [e1, e2, ← e3]
        split
        · exact ih (k - wid l) (l.drop (wid l)) (a + 1) 1 (by omega) (by omega)
        · exact ih (k - wid l) (l.drop (wid l)) a (b + 1) (by omega) (by omega)

/-- How many line ends a list has. -/
def ends (l : List UInt8) : Nat := (l.filter fun c => c == 10).length

theorem ends_take (l : List UInt8) (n : Nat) : ends l = ends (l.take n) + ends (l.drop n) := by
  unfold ends
  rw [← List.length_append, ← List.filter_append, List.take_append_drop]

/-- Behind a text and a line's end the places are the other text's, so many lines on. -/
theorem placeL_behind (n : Nat) : ∀ (f : Nat) (k : Int) (x y : List UInt8) (a b : Nat), x.length ≤ n → x.length + 1 + y.length ≤ f → 0 ≤ k →
    placeL f ((x.length : Int) + 1 + k) (x ++ 10 :: y) a b = placeL f k y (a + ends x + 1) 1 := by
  induction n with
  | zero =>
    intro f k x y a b hx hf hk
    obtain rfl : x = [] := List.eq_nil_of_length_eq_zero (by omega)
    obtain ⟨f, rfl⟩ : ∃ m, f = m + 1 := ⟨f - 1, by simp at hf; omega⟩
    have w1 : wid (10 :: y) = 1 := by
      unfold wid
      rw [longL_1 (show at0 (10 :: y) 0 < 128 from (by decide : (10 : Nat) < 128))]
      rfl
    rw [List.nil_append, placeL, if_neg (by rintro (h | h); cases h; simp at h; omega), if_pos (show at0 (10 :: y) 0 = 10 by rfl), w1]
    have e : (([] : List UInt8).length : Int) + 1 + k - ((1 : Nat) : Int) = k := by simp; omega
    rw [e]
    exact placeL_more f (f + 1) k y (a + 1) 1 (by simp at hf; omega) (by simp at hf; omega)
  | succ n ih =>
    intro f k x y a b hx hf hk
    by_cases hx0 : x = []
    · subst hx0
      exact ih f k [] y a b (by simp) hf hk
    · have h0 := List.length_pos_iff.mpr hx0
      obtain ⟨f, rfl⟩ : ∃ m, f = m + 1 := ⟨f - 1, by omega⟩
      have hne : x ++ 10 :: y ≠ [] := by simp
      have hw := wid_pos (x ++ 10 :: y)
      have hwx : wid (x ++ 10 :: y) ≤ x.length := by
        rcases Nat.lt_or_ge x.length (wid (x ++ 10 :: y)) with h | h
        · have hL : x.length < longL (x ++ 10 :: y) := by unfold wid at h; omega
          have hc := long_cont h0 hL
          have : at0 (x ++ 10 :: y) x.length = 10 := by
            unfold at0
            rw [List.getD_eq_getElem?_getD, List.getElem?_append_right (Nat.le_refl _)]
            simp
          omega
        · exact h
      have hdrop : (x ++ 10 :: y).drop (wid (x ++ 10 :: y)) = x.drop (wid (x ++ 10 :: y)) ++ 10 :: y := by
        rw [List.drop_append_of_le_length hwx]
      have hdl : (x.drop (wid (x ++ 10 :: y))).length = x.length - wid (x ++ 10 :: y) := by simp
      have hk2 : (x.length : Int) + 1 + k - (wid (x ++ 10 :: y) : Nat) = ((x.drop (wid (x ++ 10 :: y))).length : Int) + 1 + k := by omega
      have hends := ends_take x (wid (x ++ 10 :: y))
      -- of the rune's own bytes only the first can be a line's end
      have htake : ends (x.take (wid (x ++ 10 :: y))) = if at0 (x ++ 10 :: y) 0 = 10 then 1 else 0 := by
        have hx1 : x.take (wid (x ++ 10 :: y)) = x.head hx0 :: (x.take (wid (x ++ 10 :: y))).tail := by
          cases x with
          | nil => exact absurd rfl hx0
          | cons c r =>
            obtain ⟨m, hm⟩ : ∃ m, wid ((c :: r) ++ 10 :: y) = m + 1 := ⟨wid ((c :: r) ++ 10 :: y) - 1, by omega⟩
            rw [hm]
            rfl
        have hh : at0 (x ++ 10 :: y) 0 = (x.head hx0).toNat := by
          cases x with
          | nil => exact absurd rfl hx0
          | cons c r => rfl
        have htl : ∀ c ∈ (x.take (wid (x ++ 10 :: y))).tail, (c == 10) = false := by
          intro c hc
          obtain ⟨i, hi, hic⟩ := List.getElem_of_mem hc
          have hi2 : i + 1 < wid (x ++ 10 :: y) := by simp at hi; omega
          have hL : i + 1 < longL (x ++ 10 :: y) := by unfold wid at hi2; omega
          have hcc := (long_cont (by omega) hL).1
          rw [at0_app (by omega)] at hcc
          have : at0 x (i + 1) = c.toNat := by
            rw [← hic]
            unfold at0
            rw [List.getD_eq_getElem?_getD, List.getElem?_eq_getElem (show i + 1 < x.length by omega)]
            simp
          simp
          intro e
          subst e
          have h10 : UInt8.toNat 10 = 10 := rfl
          omega
        unfold ends
        rw [hx1, List.filter_cons, List.filter_eq_nil_iff.mpr (fun c hc => by rw [htl c hc]; simp)]
        rw [hh]
        by_cases e : x.head hx0 = 10
        · rw [e]; rfl
        · have e2 : ¬ (x.head hx0).toNat = 10 := fun h => e (UInt8.toNat_inj.1 h)
          simp [e, e2]
      rw [placeL, if_neg (by rintro (h | h); exact hne h; omega), hdrop, hk2]
      split
      · rename_i h10
        rw [ih f k _ y (a + 1) 1 (by omega) (by omega) hk, placeL_more f (f + 1) k y _ 1 (by omega) (by omega)]
        congr 1
        rw [htake, if_pos h10] at hends
        omega
      · rename_i h10
        rw [ih f k _ y a (b + 1) (by omega) (by omega) hk, placeL_more f (f + 1) k y _ 1 (by omega) (by omega)]
        congr 1
        rw [htake, if_neg h10] at hends
        omega

end Go.Proofs.YthbieinbpfjgkaaGreatDoor.X.G
end

section
/-
  Plain lists of bytes, no program: how great a line and a column can be.
-/
namespace Go.Proofs.YthbieinbpfjgkaaGreatDoor.X.G
open Go

theorem placeL_le (f : Nat) (k : Int) (l : List UInt8) (a b : Nat) (hb : 1 ≤ b) : (placeL f k l a b).1 ≤ a + f ∧ (placeL f k l a b).2 ≤ b + f := by
  induction f generalizing k l a b with
  | zero => exact ⟨Nat.le_refl _, Nat.le_refl _⟩
  | succ f ih =>
    by_cases h : l = [] ∨ k ≤ 0
    · rw [placeL_stop h]
      omega
    · rw [placeL_step h]
      split
      · have := ih (k - wid l) (l.drop (wid l)) (a + 1) 1 (Nat.le_refl _)
        omega
      · have := ih (k - wid l) (l.drop (wid l)) a (b + 1) (by omega)
        omega

end Go.Proofs.YthbieinbpfjgkaaGreatDoor.X.G
end

section
/-
  Plain lists of bytes, no program: line ends counted one by one; words with a byte more.
-/
namespace Go.Proofs.YthbieinbpfjgkaaGreatDoor.X
open Go

theorem G.ends_succ (l : List UInt8) (i : Nat) (h : i < l.length) : G.ends (l.take (i + 1)) = G.ends (l.take i) + if G.at0 l i = 10 then 1 else 0 := by
  have e : l.take (i + 1) = l.take i ++ [l[i]] := List.take_succ_eq_append_getElem h
  have e2 : G.at0 l i = l[i].toNat := by
    unfold G.at0
    rw [List.getD_eq_getElem?_getD, List.getElem?_eq_getElem h]
    rfl
  unfold G.ends
  rw [e, List.filter_append, List.length_append, e2]
  by_cases hc : l[i] = 10
  · rw [hc]; rfl
  · have e3 : ¬ l[i].toNat = 10 := fun hh => hc (UInt8.toNat_inj.1 hh)
    simp [hc, e3]

theorem G.ends_le (l : List UInt8) : G.ends l ≤ l.length := List.length_filter_le _ _

/-- A word, or a tag, of a list. -/
def nameL (lo hi : Int) (l : List UInt8) : Bool :=
  match l with
  | [] => false
  | c :: r => inB (c.toNat : Int) lo hi && r.all fun d => behB (d.toNat : Int)

theorem allB_list (s : ByteArray) (f i : Nat) (hf : s.size ≤ i + f) : allB f s i = (s.data.toList.drop i).all fun d => behB (d.toNat : Int) := by
  induction f generalizing i with
  | zero =>
    have : s.data.toList.drop i = [] := drop_nil (by omega)
    rw [this]
    rfl
  | succ f ih =>
    by_cases h : i < s.size
    · have h2 : i < s.data.toList.length := by simpa using h
      rw [allB, if_pos h, ih (i + 1) (by omega), List.drop_eq_getElem_cons h2, List.all_cons]
      have : byteAt s i = (s.data.toList[i]).toNat := by rw [← byteAt_eq s i h]; rfl
      rw [this]
    · rw [allB_end s _ i h, drop_nil h]
      rfl

theorem nameB_list (lo hi : Int) (s : ByteArray) : nameB lo hi s = nameL lo hi s.data.toList := by
  unfold nameB nameL
  rw [allB_list s s.size 1 (by omega)]
  have hs : s.data.toList.length = s.size := by simp
  cases h : s.data.toList with
  | nil =>
    rw [h] at hs
    simp at hs
    simp [← hs]
  | cons c r =>
    rw [h] at hs
    have hb : byteAt s 0 = c.toNat := by
      rw [byteAt_at0, h]
      rfl
    rw [hb]
    have h0 : 0 < s.size := by rw [← hs]; simp
    simp [h0]

/-- With a byte more. -/
theorem nameL_more (lo hi : Int) (l : List UInt8) (c : UInt8) (hl : l ≠ []) : nameL lo hi (l ++ [c]) = (nameL lo hi l && behB (c.toNat : Int)) := by
  cases l with
  | nil => exact absurd rfl hl
  | cons d r => simp [nameL, List.all_append, Bool.and_assoc]

theorem nameL_one (lo hi : Int) (c : UInt8) : nameL lo hi [c] = inB (c.toNat : Int) lo hi := by simp [nameL]

/-- Nothing is a word and a tag. -/
theorem nameL_both (l : List UInt8) : (nameL 97 122 l && nameL 65 90 l) = false := by
  cases l with
  | nil => rfl
  | cons c r =>
    unfold nameL inB
    rw [Bool.eq_false_iff]
    simp
    omega

end Go.Proofs.YthbieinbpfjgkaaGreatDoor.X
end

section
/-
  Plain lists of bytes, no program: what is quoted is told again, whatever stands behind; no byte of it is below 32, nor 127; whole texts are quoted one behind the other.
-/
namespace Go.Proofs.YthbieinbpfjgkaaGreatDoor.X.G
open Go

theorem sixL_fig (n : Nat) (h : n < 16) : sixL (figL n).toNat = n := by
  match n, h with
  | 0, _ => rfl
  | 1, _ => rfl
  | 2, _ => rfl
  | 3, _ => rfl
  | 4, _ => rfl
  | 5, _ => rfl
  | 6, _ => rfl
  | 7, _ => rfl
  | 8, _ => rfl
  | 9, _ => rfl
  | 10, _ => rfl
  | 11, _ => rfl
  | 12, _ => rfl
  | 13, _ => rfl
  | 14, _ => rfl
  | 15, _ => rfl
  | n + 16, h => omega

theorem figL_big (n : Nat) (h : n < 16) : 48 ≤ (figL n).toNat ∧ (figL n).toNat < 103 := by
  match n, h with
  | 0, _ => decide
  | 1, _ => decide
  | 2, _ => decide
  | 3, _ => decide
  | 4, _ => decide
  | 5, _ => decide
  | 6, _ => decide
  | 7, _ => decide
  | 8, _ => decide
  | 9, _ => decide
  | 10, _ => decide
  | 11, _ => decide
  | 12, _ => decide
  | 13, _ => decide
  | 14, _ => decide
  | 15, _ => decide
  | n + 16, h => omega

theorem head_eq {l : List UInt8} (hl : l ≠ []) : l.take 1 = [UInt8.ofNat (at0 l 0)] := by
  cases l with
  | nil => exact absurd rfl hl
  | cons c r => simp [at0]

theorem wid_low {l : List UInt8} (h : at0 l 0 < 128) : wid l = 1 := by unfold wid; rw [longL_1 h]; rfl

theorem unq_esc {g p : Nat} {acc rest : List UInt8} {e : Nat} {n : Nat} (l : List UInt8) (h0 : at0 l 0 = 92) (hesc : escL l = ((e : Int), (n : Int))) (hn : n ≠ 0) (hd : l.drop n = rest) :
    unqF (g + 1) p acc l = unqF g (p + n) (acc ++ [UInt8.ofNat e]) rest := by
  have hl : l ≠ [] := by intro h; rw [h] at h0; exact absurd h0 (by decide)
  rw [unqF, if_neg hl, if_neg (by omega), if_neg (by rw [longL_1 (by omega)]; omega), if_pos h0, hesc]
  simp only
  rw [if_neg (by omega), ← hd]
  simp only [Int.toNat_natCast]

/-- A piece is told again. -/
theorem piece_step (g p : Nat) (acc l R : List UInt8) (hl : l ≠ []) : unqF (g + 1) p acc (pieceL l ++ R) = unqF g (p + (pieceL l).length) (acc ++ l.take (wid l)) R := by
  have b0 := at0_lt l 0
  unfold pieceL
  split
  · rename_i h
    have hw : wid l = 1 := wid_low (by omega)
    rw [hw, head_eq hl]
    have hv : (UInt8.ofNat (at0 l 0)).toNat = at0 l 0 := by simp; omega
    have e1 : at0 ([92, UInt8.ofNat (at0 l 0)] ++ R) 1 = at0 l 0 := by show (UInt8.ofNat (at0 l 0)).toNat = _; exact hv
    exact unq_esc (n := 2) _ rfl (by unfold escL; rw [if_neg (by simp), e1, if_pos h]; rfl) (by omega) rfl
  split
  · rename_i h10
    have hw : wid l = 1 := wid_low (by omega)
    rw [hw, head_eq hl, h10]
    exact unq_esc (e := 10) (n := 2) _ rfl (by unfold escL; rw [if_neg (by simp), show at0 ([92, 110] ++ R) 1 = 110 from rfl]; rfl) (by omega) rfl
  split
  · rename_i h9
    have hw : wid l = 1 := wid_low (by omega)
    rw [hw, head_eq hl, h9]
    exact unq_esc (e := 9) (n := 2) _ rfl (by unfold escL; rw [if_neg (by simp), show at0 ([92, 116] ++ R) 1 = 116 from rfl]; rfl) (by omega) rfl
  split
  · rename_i hx
    have hw : wid l = 1 := by
      unfold wid
      rcases hx with h | h | h
      · rw [h]; rfl
      · rw [longL_1 (by omega)]; rfl
      · rw [longL_1 (by omega)]; rfl
    rw [hw, head_eq hl]
    have a2 : at0 ([92, 120, figL (at0 l 0 / 16), figL (at0 l 0 % 16)] ++ R) 2 = (figL (at0 l 0 / 16)).toNat := rfl
    have a3 : at0 ([92, 120, figL (at0 l 0 / 16), figL (at0 l 0 % 16)] ++ R) 3 = (figL (at0 l 0 % 16)).toNat := rfl
    have s2 := sixL_fig (at0 l 0 / 16) (by omega)
    have s3 := sixL_fig (at0 l 0 % 16) (by omega)
    refine unq_esc (e := at0 l 0) (n := 4) _ rfl ?_ (by omega) rfl
    unfold escL
    rw [if_neg (by simp), show at0 ([92, 120, figL (at0 l 0 / 16), figL (at0 l 0 % 16)] ++ R) 1 = 120 from rfl, if_neg (show ¬ ((120 : Nat) = 92 ∨ (120 : Nat) = 34) by omega), if_neg (show ¬ (120 : Nat) = 110 by omega), if_neg (show ¬ (120 : Nat) = 116 by omega), a2, a3, s2, s3]
    rw [if_pos ⟨rfl, by simp, by omega, by omega⟩]
    rw [Prod.ext_iff]
    exact ⟨by show 16 * ((at0 l 0 / 16 : Nat) : Int) + ((at0 l 0 % 16 : Nat) : Int) = (at0 l 0 : Int); omega, rfl⟩
  · rename_i n1 n2 n3 n4
    have h1 : 1 ≤ longL l := by omega
    have hle := long_le hl
    have hw : wid l = longL l := by unfold wid; omega
    have hlen : (l.take (longL l)).length = longL l := by simp; omega
    have hne : l.take (longL l) ++ R ≠ [] := by
      intro h
      rw [List.append_eq_nil_iff] at h
      rw [h.1] at hlen
      simp only [List.length_nil] at hlen
      omega
    have hat : ∀ k, k < longL l → at0 (l.take (longL l) ++ R) k = at0 l k := by
      intro k hk
      rw [at0_app (by omega)]
      unfold at0
      rw [List.getD_eq_getElem?_getD, List.getD_eq_getElem?_getD, List.getElem?_take, if_pos hk]
    have e0 := hat 0 (by omega)
    have eL : longL (l.take (longL l) ++ R) = longL l := longL_same h1 hat (by simp; omega)
    rw [unqF, if_neg hne, if_neg (by omega), if_neg (by rw [eL, e0]; omega), if_neg (by omega), eL, hw, hlen]
    rw [List.take_left' hlen, List.drop_left' hlen]

theorem pieceL_pos (l : List UInt8) (hl : l ≠ []) : 1 ≤ (pieceL l).length := by
  unfold pieceL
  split
  · simp
  split
  · simp
  split
  · simp
  split
  · simp
  · have := long_le hl
    simp
    omega

theorem quote_told (f : Nat) : ∀ (l acc more : List UInt8) (p g : Nat), l.length ≤ f → (quoteF f l).length < g →
    unqF g p acc (quoteF f l ++ 34 :: more) = some (acc ++ l, p + (quoteF f l).length + 1) := by
  induction f with
  | zero =>
    intro l acc more p g hf hg
    obtain rfl : l = [] := List.eq_nil_of_length_eq_zero (by omega)
    obtain ⟨g, rfl⟩ : ∃ m, g = m + 1 := ⟨g - 1, by omega⟩
    show unqF (g + 1) p acc (34 :: more) = _
    rw [unqF, if_neg (by simp), if_pos (show at0 (34 :: more) 0 = 34 from rfl)]
    simp [quoteF]
  | succ f ih =>
    intro l acc more p g hf hg
    obtain ⟨g, rfl⟩ : ∃ m, g = m + 1 := ⟨g - 1, by omega⟩
    by_cases hl : l = []
    · subst hl
      show unqF (g + 1) p acc (34 :: more) = _
      rw [unqF, if_neg (by simp), if_pos (show at0 (34 :: more) 0 = 34 from rfl)]
      simp [quoteF]
    · have hw := wid_pos l
      have h1 := pieceL_pos l hl
      rw [quoteF, if_neg hl] at hg ⊢
      rw [List.length_append] at hg
      have hd : (l.drop (wid l)).length = l.length - wid l := by simp
      have h0 := List.length_pos_iff.mpr hl
      rw [List.append_assoc, piece_step _ _ _ _ _ hl, ih _ _ _ _ _ (by omega) (by omega), List.append_assoc, List.take_append_drop, List.length_append]
      congr 2
      omega

theorem quoteL_told (l more : List UInt8) : unqL (quoteL l ++ more) = some (l, (quoteL l).length) := by
  unfold unqL quoteL
  rw [if_pos (show at0 ((34 :: quoteF l.length l ++ [34]) ++ more) 0 = 34 from rfl)]
  have e : ((34 :: quoteF l.length l ++ [34]) ++ more).drop 1 = quoteF l.length l ++ 34 :: more := by simp
  rw [e, quote_told _ _ _ _ _ _ (Nat.le_refl _) (by simp; omega)]
  simp
  omega

theorem quoteL_inj {l r : List UInt8} (h : quoteL l = quoteL r) : l = r := by
  have h1 := quoteL_told l []
  rw [h, quoteL_told r []] at h1
  have := Option.some.inj h1
  exact (Prod.ext_iff.1 this).1.symm

/-- No byte of a quoted text is below 32, nor 127. -/
theorem quoteF_bytes (f : Nat) (l : List UInt8) : ∀ x ∈ quoteF f l, 32 ≤ x.toNat ∧ x.toNat ≠ 127 := by
  induction f generalizing l with
  | zero => intro x hx; cases hx
  | succ f ih =>
    intro x hx
    rw [quoteF] at hx
    split at hx
    · cases hx
    · rename_i hl
      rcases List.mem_append.1 hx with h | h
      · unfold pieceL at h
        split at h
        · rename_i hq
          have hv : (UInt8.ofNat (at0 l 0)).toNat = at0 l 0 := by have := at0_lt l 0; simp; omega
          simp only [List.mem_cons, List.not_mem_nil, or_false] at h
          rcases h with rfl | rfl
          · decide
          · rw [hv]; omega
        split at h
        · simp only [List.mem_cons, List.not_mem_nil, or_false] at h
          rcases h with rfl | rfl <;> decide
        split at h
        · simp only [List.mem_cons, List.not_mem_nil, or_false] at h
          rcases h with rfl | rfl <;> decide
        split at h
        · have b0 := at0_lt l 0
          have f1 := figL_big (at0 l 0 / 16) (by omega)
          have f2 := figL_big (at0 l 0 % 16) (by omega)
          simp only [List.mem_cons, List.not_mem_nil, or_false] at h
          rcases h with rfl | rfl | rfl | rfl
          · decide
          · decide
          · omega
          · omega
        · rename_i n1 n2 n3 n4
          obtain ⟨i, hi, hix⟩ := List.getElem_of_mem h
          have hi2 : i < longL l := by simp at hi; omega
          have hi3 : i < l.length := by simp at hi; omega
          have e : at0 l i = x.toNat := by
            rw [← hix]
            unfold at0
            rw [List.getD_eq_getElem?_getD, List.getElem?_eq_getElem hi3]
            simp
          by_cases h0 : i = 0
          · subst h0; omega
          · have := (long_cont (by omega) hi2).1
            omega
      · exact ih _ x h

theorem quoteL_bytes (l : List UInt8) : ∀ x ∈ quoteL l, 32 ≤ x.toNat ∧ x.toNat ≠ 127 := by
  intro x hx
  unfold quoteL at hx
  simp only [List.mem_append, List.mem_cons, List.not_mem_nil, or_false] at hx
  rcases hx with (rfl | h) | rfl
  · decide
  · exact quoteF_bytes _ _ x h
  · decide

theorem quoteF_len (f : Nat) (l : List UInt8) : (quoteF f l).length ≤ 4 * f := by
  induction f generalizing l with
  | zero => exact Nat.le_refl _
  | succ f ih =>
    rw [quoteF]
    split
    · simp
    · have := ih (l.drop (wid l))
      have h2 := pieceL_len l
      rw [List.length_append]
      omega

/-- Enough steps are enough. -/
theorem quoteF_more (f g : Nat) (l : List UInt8) (hf : l.length ≤ f) (hg : l.length ≤ g) : quoteF f l = quoteF g l := by
  induction f generalizing g l with
  | zero =>
    obtain rfl : l = [] := List.eq_nil_of_length_eq_zero (by omega)
    rw [quoteF_nil, quoteF_nil]
  | succ f ih =>
    by_cases hl : l = []
    · subst hl; rw [quoteF_nil, quoteF_nil]
    · have h0 := List.length_pos_iff.mpr hl
      obtain ⟨g, rfl⟩ : ∃ m, g = m + 1 := ⟨g - 1, by omega⟩
      have hw := wid_pos l
      have hd : (l.drop (wid l)).length = l.length - wid l := by simp
      rw [quoteF, quoteF, if_neg hl, if_neg hl, ih g _ (by omega) (by omega)]

end Go.Proofs.YthbieinbpfjgkaaGreatDoor.X.G
end
