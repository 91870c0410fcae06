/-
  The texts GlyM, TyW, TyM, TyF, TyO, TyRo, TyS, TyP, TyT, TyU, TyR, one behind the other. Conditions: those that each of them names.
-/
import Derived.Lib.RuneBytes
import Derived.Laws.RangeAny
import Derived.Lib.Strings
import Derived.Test.YtkkigdbinnfbfaaShelf
import Derived.WalkKit
import Derived.WalkSpells
import Derived.WalkLawsBesides
import Derived.Laws.OwnMore
import Derived.Laws.AppendOwnNone
import Derived.BigQuiet
import Derived.RegionTactic
import Derived.ChangeAlike
import Derived.Lib.QuietBelow
import Derived.Laws.EntriesVeiled
section
/-
  Plain lists of bytes, no program: what a rune at a list's head is and how long it is, what quoting, unquoting, places and words come to. No conditions but those that each lemma names.
-/
namespace Go.Proofs.Ytkkigdbinnfbfaa.G
open Go

def at0 (l : List UInt8) (k : Nat) : Nat := (l.getD k 0).toNat
def contL (l : List UInt8) (k a b : Nat) : Bool := decide (k < l.length) && (decide (a ≤ at0 l k) && decide (at0 l k ≤ b))

/-- How many bytes the rune at the head has; 0: the first byte is part of none. -/
def longL (l : List UInt8) : Nat :=
  if at0 l 0 < 128 then 1
  else if (decide (194 ≤ at0 l 0) && decide (at0 l 0 ≤ 223)) && contL l 1 128 191 then 2
  else if (decide (224 ≤ at0 l 0) && decide (at0 l 0 ≤ 239)) && contL l 1 (if at0 l 0 = 224 then 160 else 128) (if at0 l 0 = 237 then 159 else 191) && contL l 2 128 191 then 3
  else if (decide (240 ≤ at0 l 0) && decide (at0 l 0 ≤ 244)) && contL l 1 (if at0 l 0 = 240 then 144 else 128) (if at0 l 0 = 244 then 143 else 191) && contL l 2 128 191 && contL l 3 128 191 then 4
  else 0

/-- The rune at the head and its width, as a range over a string sees it. -/
def runeL (l : List UInt8) : Nat × Nat :=
  let cont (k : Nat) : Bool := decide (k < l.length) && at0 l k / 64 == 2
  if at0 l 0 < 0x80 then (at0 l 0, 1)
  else if at0 l 0 / 32 == 6 && cont 1 then
    let c := (at0 l 0 % 32) * 64 + at0 l 1 % 64
    if c ≥ 0x80 then (c, 2) else (Utf8.runeError, 1)
  else if at0 l 0 / 16 == 14 && cont 1 && cont 2 then
    let c := (at0 l 0 % 16) * 4096 + (at0 l 1 % 64) * 64 + at0 l 2 % 64
    if c ≥ 0x800 && Utf8.valid c then (c, 3) else (Utf8.runeError, 1)
  else if at0 l 0 / 8 == 30 && cont 1 && cont 2 && cont 3 then
    let c := (at0 l 0 % 8) * 262144 + (at0 l 1 % 64) * 4096 + (at0 l 2 % 64) * 64 + at0 l 3 % 64
    if c ≥ 0x10000 && Utf8.valid c then (c, 4) else (Utf8.runeError, 1)
  else (Utf8.runeError, 1)

theorem get_drop (s : ByteArray) (i k : Nat) : (s.get! (i + k)).toNat = at0 (s.data.toList.drop i) k := by
  unfold at0
  by_cases h : i + k < s.size
  · have h2 : i + k < s.data.toList.length := by simpa using h
    have : s.get! (i + k) = s.data.toList[i + k] := by
      simp [ByteArray.get!, getElem!_pos, h]
    rw [this, List.getD_eq_getElem?_getD, List.getElem?_drop, List.getElem?_eq_getElem h2]
    rfl
  · have h2 : s.data.toList.length ≤ i + k := by simpa using h
    have : s.get! (i + k) = 0 := by
      have h3 : ¬ i + k < s.data.size := by simpa using h
      show s.data[i + k]! = 0
      rw [getElem!_neg s.data (i + k) h3]
      rfl
    rw [this, List.getD_eq_getElem?_getD, List.getElem?_drop, List.getElem?_eq_none h2]
    rfl

theorem decode_eq (s : ByteArray) (i : Nat) : Utf8.decode s i = runeL (s.data.toList.drop i) := by
  have hl : ∀ k, (decide (i + k < s.size)) = decide (k < (s.data.toList.drop i).length) := by
    intro k
    have : (s.data.toList.drop i).length = s.size - i := by simp
    rw [this]
    congr 1
    apply propext
    constructor <;> intro h <;> omega
  simp only [Utf8.decode, runeL, get_drop, hl]

theorem at0_lt (l : List UInt8) (k : Nat) : at0 l k < 256 := UInt8.toNat_lt _

/-- The bytes that stand for a number. -/
theorem u8_of (c : UInt8) (x : Int) (h : x = c.toNat) : x.toNat.toUInt8 = c := by
  subst h
  simp

theorem take_getD (l : List UInt8) (n : Nat) (h : n ≤ l.length) : l.take n = (List.range n).map (fun k => l.getD k 0) := by
  apply List.ext_getElem
  · simp [h]
  · intro i h1 h2
    simp at h1 h2
    simp [List.getElem?_eq_getElem (show i < l.length by omega)]

theorem valid_iff (c : Nat) : Utf8.valid c = decide (c < 55296 ∨ (57344 ≤ c ∧ c ≤ 1114111)) := by
  unfold Utf8.valid
  by_cases h : c < 55296 ∨ (57344 ≤ c ∧ c ≤ 1114111)
  · rw [decide_eq_true h]; rcases h with h | h <;> simp <;> omega
  · rw [decide_eq_false h]; simp; omega

/-- What a range sees is what the bytes say: no rune: U+FFFD of one byte; else the rune's own bytes. -/
theorem rune_long (l : List UInt8) (hl : l ≠ []) :
    (longL l = 0 ∧ runeL l = (65533, 1) ∧ 128 ≤ at0 l 0) ∨
    (1 ≤ longL l ∧ longL l ≤ l.length ∧ longL l ≤ 4 ∧ (runeL l).2 = longL l ∧ Lib.encodeRune ((runeL l).1 : Int) = l.take (longL l) ∧
      ((at0 l 0 < 128 ∧ longL l = 1 ∧ (runeL l).1 = at0 l 0) ∨ (128 ≤ at0 l 0 ∧ 2 ≤ longL l ∧ 128 ≤ (runeL l).1))) := by
  have hlen : 0 < l.length := List.length_pos_iff.mpr hl
  have b0 := at0_lt l 0; have b1 := at0_lt l 1; have b2 := at0_lt l 2; have b3 := at0_lt l 3
  have u : ∀ k (x : Int), x = at0 l k → x.toNat.toUInt8 = l.getD k 0 := fun k x h => u8_of _ _ h
  by_cases c1 : at0 l 0 < 128
  · right
    have e1 : longL l = 1 := by simp [longL, c1]
    have e2 : runeL l = (at0 l 0, 1) := by simp [runeL, c1]
    rw [e1, e2]
    refine ⟨by omega, by omega, by omega, rfl, ?_, Or.inl ⟨c1, rfl, rfl⟩⟩
    rw [take_getD l 1 (by omega)]
    simp only [Lib.encodeRune, Lib.encodeRuneZ_one (r := (at0 l 0 : Int)) (by omega) (by omega)]
    simp [List.range_succ, at0]
  by_cases c2 : 194 ≤ at0 l 0 ∧ at0 l 0 ≤ 223 ∧ 1 < l.length ∧ 128 ≤ at0 l 1 ∧ at0 l 1 ≤ 191
  · right
    obtain ⟨h1, h2, h3, h4, h5⟩ := c2
    have e1 : longL l = 2 := by simp [longL, contL, c1, h1, h2, h3, h4, h5]
    have e2 : runeL l = ((at0 l 0 % 32) * 64 + at0 l 1 % 64, 2) := by
      have a1 : at0 l 0 / 32 = 6 := by omega
      have a2 : at0 l 1 / 64 = 2 := by omega
      have a3 : 128 ≤ (at0 l 0 % 32) * 64 + at0 l 1 % 64 := by omega
      simp [runeL, c1, a1, a2, a3, h3]
    rw [e1, e2]
    refine ⟨by omega, by omega, by omega, rfl, ?_, Or.inr ⟨by omega, by omega, by show 128 ≤ (at0 l 0 % 32) * 64 + at0 l 1 % 64; omega⟩⟩
    rw [take_getD l 2 (by omega)]
    simp only [Lib.encodeRune, Lib.encodeRuneZ_two (r := (((at0 l 0 % 32) * 64 + at0 l 1 % 64 : Nat) : Int)) (by omega) (by omega)]
    simp only [List.map_cons, List.map_nil, List.range_succ, List.range_zero, List.nil_append, List.cons_append]
    rw [u 0 _ (by omega), u 1 _ (by omega)]
  by_cases c3 : 224 ≤ at0 l 0 ∧ at0 l 0 ≤ 239 ∧ 1 < l.length ∧ (if at0 l 0 = 224 then 160 else 128) ≤ at0 l 1 ∧ at0 l 1 ≤ (if at0 l 0 = 237 then 159 else 191) ∧ 2 < l.length ∧ 128 ≤ at0 l 2 ∧ at0 l 2 ≤ 191
  · right
    obtain ⟨h1, h2, h3, h4, h5, h6, h7, h8⟩ := c3
    have n2 : ¬ at0 l 0 ≤ 223 := by omega
    have e1 : longL l = 3 := by
      unfold longL
      rw [if_neg c1, if_neg (by simp; omega), if_pos (by simp [contL, h1, h2, h3, h4, h5, h6, h7, h8])]
    have e2 : runeL l = ((at0 l 0 % 16) * 4096 + (at0 l 1 % 64) * 64 + at0 l 2 % 64, 3) := by
      have a1 : at0 l 0 / 32 ≠ 6 := by omega
      have a0 : at0 l 0 / 16 = 14 := by omega
      have a2 : at0 l 1 / 64 = 2 := by split at h4 <;> split at h5 <;> omega
      have a4 : at0 l 2 / 64 = 2 := by omega
      have a3 : 2048 ≤ (at0 l 0 % 16) * 4096 + (at0 l 1 % 64) * 64 + at0 l 2 % 64 := by split at h4 <;> split at h5 <;> omega
      have a5 : Utf8.valid (((at0 l 0 % 16) * 4096 + (at0 l 1 % 64) * 64 + at0 l 2 % 64 : Nat) : Int) = true := by
        rw [valid_iff]
        apply decide_eq_true
        split at h4 <;> split at h5 <;> omega
      unfold runeL
      simp only
      rw [if_neg c1, if_neg (by simp [a1]), if_pos (by simp [a0, a2, a4, h3, h6]), if_pos (by rw [a5]; simp [a3])]
    rw [e1, e2]
    have hr : (2048 ≤ (((at0 l 0 % 16) * 4096 + (at0 l 1 % 64) * 64 + at0 l 2 % 64 : Nat) : Int) ∧ (((at0 l 0 % 16) * 4096 + (at0 l 1 % 64) * 64 + at0 l 2 % 64 : Nat) : Int) < 55296) ∨ (57343 < (((at0 l 0 % 16) * 4096 + (at0 l 1 % 64) * 64 + at0 l 2 % 64 : Nat) : Int) ∧ (((at0 l 0 % 16) * 4096 + (at0 l 1 % 64) * 64 + at0 l 2 % 64 : Nat) : Int) ≤ 65535) := by
      split at h4 <;> split at h5 <;> omega
    have g1 : 128 ≤ at0 l 1 ∧ at0 l 1 ≤ 191 := by split at h4 <;> split at h5 <;> omega
    refine ⟨by omega, by omega, by omega, rfl, ?_, Or.inr ⟨by omega, by omega, by show 128 ≤ (at0 l 0 % 16) * 4096 + (at0 l 1 % 64) * 64 + at0 l 2 % 64; omega⟩⟩
    rw [take_getD l 3 (by omega)]
    simp only [Lib.encodeRune, Lib.encodeRuneZ_three hr]
    simp only [List.map_cons, List.map_nil, List.range_succ, List.range_zero, List.nil_append, List.cons_append]
    rw [u 0 _ (by omega), u 1 _ (by omega), u 2 _ (by omega)]
  by_cases c4 : 240 ≤ at0 l 0 ∧ at0 l 0 ≤ 244 ∧ 1 < l.length ∧ (if at0 l 0 = 240 then 144 else 128) ≤ at0 l 1 ∧ at0 l 1 ≤ (if at0 l 0 = 244 then 143 else 191) ∧ 2 < l.length ∧ 128 ≤ at0 l 2 ∧ at0 l 2 ≤ 191 ∧ 3 < l.length ∧ 128 ≤ at0 l 3 ∧ at0 l 3 ≤ 191
  · right
    obtain ⟨h1, h2, h3, h4, h5, h6, h7, h8, h9, h10, h11⟩ := c4
    have e1 : longL l = 4 := by
      unfold longL
      rw [if_neg c1, if_neg (by simp; omega), if_neg (by simp; omega), if_pos (by simp [contL, h1, h2, h3, h4, h5, h6, h7, h8, h9, h10, h11])]
    have g1 : 128 ≤ at0 l 1 ∧ at0 l 1 ≤ 191 := by split at h4 <;> split at h5 <;> omega
    have g2 : 65536 ≤ (at0 l 0 % 8) * 262144 + (at0 l 1 % 64) * 4096 + (at0 l 2 % 64) * 64 + at0 l 3 % 64 ∧ (at0 l 0 % 8) * 262144 + (at0 l 1 % 64) * 4096 + (at0 l 2 % 64) * 64 + at0 l 3 % 64 ≤ 1114111 := by
      split at h4 <;> split at h5 <;> omega
    have e2 : runeL l = ((at0 l 0 % 8) * 262144 + (at0 l 1 % 64) * 4096 + (at0 l 2 % 64) * 64 + at0 l 3 % 64, 4) := by
      have a1 : at0 l 0 / 32 ≠ 6 := by omega
      have a0 : at0 l 0 / 16 ≠ 14 := by omega
      have a6 : at0 l 0 / 8 = 30 := by omega
      have a2 : at0 l 1 / 64 = 2 := by omega
      have a4 : at0 l 2 / 64 = 2 := by omega
      have a7 : at0 l 3 / 64 = 2 := by omega
      have a5 : Utf8.valid (((at0 l 0 % 8) * 262144 + (at0 l 1 % 64) * 4096 + (at0 l 2 % 64) * 64 + at0 l 3 % 64 : Nat) : Int) = true := by
        rw [valid_iff]
        apply decide_eq_true
        omega
      unfold runeL
      simp only
      rw [if_neg c1, if_neg (by simp [a1]), if_neg (by simp [a0]), if_pos (by simp [a6, a2, a4, a7, h3, h6, h9]), if_pos (by rw [a5]; simp; exact g2.1)]
    rw [e1, e2]
    refine ⟨by omega, by omega, by omega, rfl, ?_, Or.inr ⟨by omega, by omega, by show 128 ≤ (at0 l 0 % 8) * 262144 + (at0 l 1 % 64) * 4096 + (at0 l 2 % 64) * 64 + at0 l 3 % 64; omega⟩⟩
    rw [take_getD l 4 (by omega)]
    simp only [Lib.encodeRune, Lib.encodeRuneZ_four (r := (((at0 l 0 % 8) * 262144 + (at0 l 1 % 64) * 4096 + (at0 l 2 % 64) * 64 + at0 l 3 % 64 : Nat) : Int)) (by omega) (by omega)]
    simp only [List.map_cons, List.map_nil, List.range_succ, List.range_zero, List.nil_append, List.cons_append]
    rw [u 0 _ (by omega), u 1 _ (by omega), u 2 _ (by omega), u 3 _ (by omega)]
  · left
    have e1 : longL l = 0 := by
      unfold longL
      rw [if_neg c1, if_neg, if_neg, if_neg]
      · simp only [contL, Bool.and_eq_true, decide_eq_true_eq]
        rintro ⟨⟨⟨⟨p, q⟩, r, s, t⟩, r2, s2, t2⟩, r3, s3, t3⟩
        exact c4 ⟨p, q, r, s, t, r2, s2, t2, r3, s3, t3⟩
      · simp only [contL, Bool.and_eq_true, decide_eq_true_eq]
        rintro ⟨⟨⟨p, q⟩, r, s, t⟩, r2, s2, t2⟩
        exact c3 ⟨p, q, r, s, t, r2, s2, t2⟩
      · simp only [contL, Bool.and_eq_true, decide_eq_true_eq]
        rintro ⟨⟨p, q⟩, r, s, t⟩
        exact c2 ⟨p, q, r, s, t⟩
    refine ⟨e1, ?_, by omega⟩
    unfold runeL
    simp only
    rw [if_neg c1]
    split
    · rename_i h
      simp only [Bool.and_eq_true, decide_eq_true_eq, beq_iff_eq] at h
      rw [if_neg (by intro z; apply c2; refine ⟨by omega, by omega, h.2.1, by omega, by omega⟩)]
      rfl
    split
    · rename_i h
      simp only [Bool.and_eq_true, decide_eq_true_eq, beq_iff_eq] at h
      rw [if_neg]
      · rfl
      · rw [valid_iff]
        simp only [Bool.and_eq_true, decide_eq_true_eq]
        rintro ⟨z, y⟩
        apply c3
        refine ⟨by omega, by omega, h.1.2.1, ?_, ?_, h.2.1, by omega, by omega⟩
        · split <;> omega
        · split <;> omega
    split
    · rename_i h
      simp only [Bool.and_eq_true, decide_eq_true_eq, beq_iff_eq] at h
      rw [if_neg]
      · rfl
      · rw [valid_iff]
        simp only [Bool.and_eq_true, decide_eq_true_eq]
        rintro ⟨z, y⟩
        apply c4
        refine ⟨by omega, by omega, h.1.1.2.1, ?_, ?_, h.1.2.1, by omega, by omega, h.2.1, by omega, by omega⟩
        · split <;> omega
        · split <;> omega
    · rfl

theorem longL_1 {l : List UInt8} (h : at0 l 0 < 128) : longL l = 1 := by unfold longL; rw [if_pos h]
theorem longL_2 {l : List UInt8} (h : 194 ≤ at0 l 0) (h2 : at0 l 0 ≤ 223) : longL l = if contL l 1 128 191 then 2 else 0 := by
  unfold longL
  rw [if_neg (by omega)]
  cases hc : contL l 1 128 191
  · rw [if_neg (by simp), if_neg (by simp; omega), if_neg (by simp; omega), if_neg (by simp)]
  · rw [if_pos (by simp; omega), if_pos rfl]
theorem longL_3 {l : List UInt8} (h : 224 ≤ at0 l 0) (h2 : at0 l 0 ≤ 239) {lo hi : Nat} (hlo : lo = if at0 l 0 = 224 then 160 else 128) (hhi : hi = if at0 l 0 = 237 then 159 else 191) :
    longL l = if contL l 1 lo hi && contL l 2 128 191 then 3 else 0 := by
  unfold longL
  rw [if_neg (by omega), if_neg (by simp; omega), ← hlo, ← hhi]
  have a : (decide (224 ≤ at0 l 0) && decide (at0 l 0 ≤ 239)) = true := by simp; omega
  have b : (decide (240 ≤ at0 l 0) && decide (at0 l 0 ≤ 244)) = false := by simp; omega
  rw [a, b]
  simp
theorem longL_4 {l : List UInt8} (h : 240 ≤ at0 l 0) (h2 : at0 l 0 ≤ 244) {lo hi : Nat} (hlo : lo = if at0 l 0 = 240 then 144 else 128) (hhi : hi = if at0 l 0 = 244 then 143 else 191) :
    longL l = if contL l 1 lo hi && contL l 2 128 191 && contL l 3 128 191 then 4 else 0 := by
  unfold longL
  rw [if_neg (by omega), if_neg (by simp; omega), if_neg (by simp; omega), ← hlo, ← hhi]
  have b : (decide (240 ≤ at0 l 0) && decide (at0 l 0 ≤ 244)) = true := by simp; omega
  rw [b]
  simp
theorem longL_0 {l : List UInt8} (h : 128 ≤ at0 l 0) (h2 : at0 l 0 < 194 ∨ 245 ≤ at0 l 0) : longL l = 0 := by
  unfold longL
  rw [if_neg (by omega), if_neg (by simp; omega), if_neg (by simp; omega), if_neg (by simp; omega)]

/-- How far a step goes: the rune's bytes, or one. -/
def wid (l : List UInt8) : Nat := max (longL l) 1

theorem runeL_wid {l : List UInt8} (hl : l ≠ []) : (runeL l).2 = wid l := by
  unfold wid
  rcases rune_long l hl with ⟨h, h2, _⟩ | ⟨h, _, _, h2, _⟩
  · rw [h2, h]; rfl
  · rw [h2]; omega
theorem wid_pos (l : List UInt8) : 1 ≤ wid l := by unfold wid; omega
theorem wid_le {l : List UInt8} (hl : l ≠ []) : wid l ≤ l.length := by
  have := List.length_pos_iff.mpr hl
  unfold wid
  rcases rune_long l hl with ⟨h, _, _⟩ | ⟨_, h, _⟩ <;> omega

/-- The line and the column of a place, from a line and a column on. -/
def placeL : Nat → Int → List UInt8 → Nat → Nat → Nat × Nat
  | 0, _, _, a, b => (a, b)
  | f + 1, k, l, a, b => if l = [] ∨ k ≤ 0 then (a, b) else if at0 l 0 = 10 then placeL f (k - wid l) (l.drop (wid l)) (a + 1) 1 else placeL f (k - wid l) (l.drop (wid l)) a (b + 1)

theorem placeL_stop {f : Nat} {k : Int} {l : List UInt8} {a b : Nat} (h : l = [] ∨ k ≤ 0) : placeL f k l a b = (a, b) := by
  cases f with
  | zero => rfl
  | succ f => rw [placeL, if_pos h]

end Go.Proofs.Ytkkigdbinnfbfaa.G
end

section
/-
  The walks of words and tags, the program's and the reference's: each returns what plain arithmetic on the bytes says. Condition: strings of at most 2000000 bytes.
-/
namespace Go.Proofs.Ytkkigdbinnfbfaa
open Go.RowKit

theorem hid {p : Prop} (h : p) : Hid p := h

def inB (c a b : Int) : Bool := decide (a ≤ c) && decide (c ≤ b)

theorem ret_bool {a b : Bool} (h : a = b) : Ending.returned (.bool a) = .returned (.bool b) := by rw [h]

set_option maxHeartbeats 400000 in
theorem within_any (c a b : Int) (w : World) : Calls Try.prog 90 #[.int .u8 c, .int .u8 a, .int .u8 b] w fun e w' => e = .returned (.bool (inB c a b)) ∧ w = w' := by
  by_cases h1 : a ≤ c
  · by_cases h2 : c ≤ b
    · go_enter Try.func90, Try.ntmps90
      go_wp2
      go_ret
      exact ⟨ret_bool (by simp [inB, h1, h2]), rfl⟩
    · go_enter Try.func90, Try.ntmps90
      go_wp2
      go_ret
      exact ⟨ret_bool (by simp [inB, h1, h2]), rfl⟩
  · go_enter Try.func90, Try.ntmps90
    go_wp2
    go_ret
    exact ⟨ret_bool (by simp [inB]; omega), rfl⟩

set_option maxHeartbeats 400000 in
theorem small_any (c : Int) (w : World) : Calls Try.prog 94 #[.int .i32 c] w fun e w' => e = .returned (.bool (inB c 97 122)) ∧ w = w' := by
  go_enter Try.func94, Try.ntmps94
  go_wp2
  all_goals go_ret
  all_goals exact ⟨ret_bool (by simp [inB]; omega), rfl⟩

set_option maxHeartbeats 400000 in
theorem capital_any (c : Int) (w : World) : Calls Try.prog 95 #[.int .i32 c] w fun e w' => e = .returned (.bool (inB c 65 90)) ∧ w = w' := by
  go_enter Try.func95, Try.ntmps95
  go_wp2
  all_goals go_ret
  all_goals exact ⟨ret_bool (by simp [inB]; omega), rfl⟩

/-- May a byte, or a rune, stand behind the first one of a word? -/
def behB (c : Int) : Bool := inB c 97 122 || inB c 65 90 || inB c 48 57 || c == 95

set_option maxHeartbeats 400000 in
theorem behind_any (c : Int) (w : World) : Calls Try.prog 96 #[.int .u8 c] w fun e w' => e = .returned (.bool (behB c)) ∧ w = w' := by
  go_enter Try.func96, Try.ntmps96
  go_wp2_with (go_at_call 90; refine (within_any _ _ _ _).mono ?_; rintro e w' ⟨rfl, rfl⟩)
  all_goals go_ret
  all_goals exact ⟨ret_bool (by simp_all [behB]), rfl⟩

set_option maxHeartbeats 400000 in
theorem continues_any (c : Int) (w : World) : Calls Try.prog 97 #[.int .i32 c] w fun e w' => e = .returned (.bool (behB c)) ∧ w = w' := by
  go_enter Try.func97, Try.ntmps97
  go_wp2_with (first | (go_at_call 94; refine (small_any _ _).mono ?_; rintro e w' ⟨rfl, rfl⟩) | (go_at_call 95; refine (capital_any _ _).mono ?_; rintro e w' ⟨rfl, rfl⟩))
  all_goals go_ret
  all_goals exact ⟨ret_bool (by rw [Bool.eq_iff_iff]; simp_all [behB, inB]; try omega), rfl⟩

/-- Byte i of a string, as a number. -/
def byteAt (s : ByteArray) (i : Nat) : Nat := G.at0 (s.data.toList.drop i) 0

theorem byteAt_eq (s : ByteArray) (i : Nat) (h : i < s.size) : (s[i]'h).toNat = byteAt s i := by
  have h2 : i < s.data.toList.length := by simpa using h
  unfold byteAt G.at0
  rw [List.getD_eq_getElem?_getD, List.getElem?_drop, Nat.add_zero, List.getElem?_eq_getElem h2]
  rfl

/-- From byte i on all bytes may stand in a word. -/
def allB : Nat → ByteArray → Nat → Bool
  | 0, _, _ => true
  | f + 1, s, i => if i < s.size then behB (byteAt s i) && allB f s (i + 1) else true

theorem allB_end (s : ByteArray) (f i : Nat) (h : ¬ i < s.size) : allB f s i = true := by
  cases f with
  | zero => rfl
  | succ f => simp [allB, h]

set_option maxHeartbeats 400000 in
theorem all_any (s : ByteArray) (hs : s.size ≤ 9223372036854775807) (w : World) : Calls Try.prog 91 #[.string s] w fun e w' => e = .returned (.bool (allB s.size s 1)) ∧ w = w' := by
  go_enter Try.func91, Try.ntmps91
  go_wp2
  go_loop [3] (fun i => ∃ k f : Nat, k ≤ s.size + 1 ∧ i = .int .i64 k ∧ allB f s k = allB s.size s 1 ∧ s.size ≤ k + f) (fun i => s.size + 1 - (intOf i).toNat)
  case atStart => exact ⟨1, s.size, by omega, rfl, rfl, by omega⟩
  case round =>
    obtain ⟨k, f, hk, rfl, ha, hf⟩ := hrel
    have HA := hid ha
    clear ha
    by_cases hlt : k < s.size
    · have hb := byteAt_eq s k hlt
      obtain ⟨f, rfl⟩ : ∃ g, f = g + 1 := ⟨f - 1, by omega⟩
      have HB := hid hb
      clear hb
      go_wp2_with (go_at_call 96; refine (behind_any _ _).mono ?_; rintro e w' ⟨rfl, rfl⟩)
      · go_ret
        have ht : (!behB ((s[k]'hlt).toNat : Int)) = true := by assumption
        rw [HB.out] at ht
        exact ⟨ret_bool (by rw [← HA.out]; simp at ht; simp [allB, hlt, ht]), rfl⟩
      · go_round
        case rel =>
          have ht : (!behB ((s[k]'hlt).toNat : Int)) = false := by first | assumption | simp_all
          rw [HB.out] at ht
          exact ⟨k + 1, f, by omega, by go_num, by rw [← HA.out]; simp at ht; simp [allB, hlt, ht], by omega⟩
        case measure => simp [intOf]; omega
    · go_wp2
      go_ret
      exact ⟨ret_bool (by rw [← HA.out, allB_end s f k hlt]), rfl⟩

theorem ret_int {k : IntKind} {a b : Int} (h : a = b) : Ending.returned (.int k a) = .returned (.int k b) := by rw [h]

theorem drop_ne {s : ByteArray} {i : Nat} (hi : i < s.size) : s.data.toList.drop i ≠ [] := by
  intro hn
  have := congrArg List.length hn
  simp at this
  omega

/-- 'next' at a rune, with its numbers named. -/
theorem next_at (w : World) (s : ByteArray) (pos : Nat) (ty : TypeId) (h : pos < s.size) (r n : Nat) (hd : G.runeL (s.data.toList.drop pos) = (r, n)) :
    (Instr.next (.pointer (some ⟨w.heap.size, 0, none⟩)) true ty).run Try.prog (w.iter s pos) = .ok (.tuple #[.bool true, .int .i64 pos, .int .i32 r]) (w.iter s (pos + n)) := by
  rw [run_next_any w s pos ty h, G.decode_eq, hd]

/-- A word, or a tag: the first byte from lo to hi, all others such as may stand in one. -/
def nameB (lo hi : Int) (s : ByteArray) : Bool := decide (0 < s.size) && (inB (byteAt s 0) lo hi && allB s.size s 1)

theorem behB_of_in {lo hi c : Int} (h : (lo = 97 ∧ hi = 122) ∨ (lo = 65 ∧ hi = 90)) (hb : inB c lo hi = true) : behB c = true := by
  rcases h with ⟨rfl, rfl⟩ | ⟨rfl, rfl⟩ <;> simp [behB, hb]

theorem behB_high {c : Int} (h : 128 ≤ c) : behB c = false := by
  unfold behB inB
  have a : decide (c ≤ 122) = false := by simp; omega
  have b : decide (c ≤ 90) = false := by simp; omega
  have d : decide (c ≤ 57) = false := by simp; omega
  have e : (c == 95) = false := by simp; omega
  simp [a, b, d, e]

/-- Somewhere from i on stands a byte that may not. -/
theorem allB_bad (s : ByteArray) (f i j : Nat) (hij : i ≤ j) (hj : j < s.size) (hf : s.size ≤ i + f) (hb : behB (byteAt s j) = false) : allB f s i = false := by
  induction f generalizing i with
  | zero => omega
  | succ f ih =>
    rw [allB, if_pos (by omega)]
    by_cases e : i = j
    · subst e; rw [hb]; rfl
    · rw [ih (i + 1) (by omega) (by omega)]; simp

theorem ne_empty {s : ByteArray} (h : 0 < s.size) : s.toList.isEmpty = false := by
  rw [Lib.toList_data]
  cases hl : s.data.toList with
  | nil =>
    have e : s.data.toList.length = s.size := by simp
    rw [hl] at e
    simp at e
    omega
  | cons _ _ => rfl
theorem is_empty {s : ByteArray} (h : s.size = 0) : s.toList.isEmpty = true := by
  rw [Lib.toList_data]
  cases hl : s.data.toList with
  | nil => rfl
  | cons _ _ =>
    have e : s.data.toList.length = s.size := by simp
    rw [hl] at e
    simp at e
    omega

theorem runeL_low {s : ByteArray} {pos : Nat} (hp : pos < s.size) (hc : byteAt s pos < 128) : G.runeL (s.data.toList.drop pos) = (byteAt s pos, 1) := by
  have e : byteAt s pos = G.at0 (s.data.toList.drop pos) 0 := rfl
  rcases G.rune_long _ (drop_ne hp) with ⟨_, _, h⟩ | ⟨_, _, _, h2, _, ⟨_, h3, h4⟩ | ⟨h3, _, _⟩⟩
  · omega
  · rw [Prod.ext_iff]; exact ⟨h4, h2.trans h3⟩
  · omega

theorem runeL_high {s : ByteArray} {pos : Nat} (hp : pos < s.size) (hc : 128 ≤ byteAt s pos) : ∃ r n, G.runeL (s.data.toList.drop pos) = (r, n) ∧ 128 ≤ r := by
  have e : byteAt s pos = G.at0 (s.data.toList.drop pos) 0 := rfl
  rcases G.rune_long _ (drop_ne hp) with ⟨_, h, _⟩ | ⟨_, _, _, h2, _, ⟨h3, _, _⟩ | ⟨_, _, h3⟩⟩
  · exact ⟨_, _, h, by omega⟩
  · omega
  · exact ⟨_, _, rfl, h3⟩

theorem continues_yes (c : Int) (h : behB c = true) (w : World) : Calls Try.prog 97 #[.int .i32 c] w fun e w' => e = .returned (.bool true) ∧ w = w' :=
  (continues_any c w).mono fun _ _ ⟨he, hw⟩ => ⟨he.trans (ret_bool h), hw⟩
theorem continues_no (c : Int) (h : behB c = false) (w : World) : Calls Try.prog 97 #[.int .i32 c] w fun e w' => e = .returned (.bool false) ∧ w = w' :=
  (continues_any c w).mono fun _ _ ⟨he, hw⟩ => ⟨he.trans (ret_bool h), hw⟩
theorem small_yes (c : Int) (h : inB c 97 122 = true) (w : World) : Calls Try.prog 94 #[.int .i32 c] w fun e w' => e = .returned (.bool true) ∧ w = w' :=
  (small_any c w).mono fun _ _ ⟨he, hw⟩ => ⟨he.trans (ret_bool h), hw⟩
theorem small_no (c : Int) (h : inB c 97 122 = false) (w : World) : Calls Try.prog 94 #[.int .i32 c] w fun e w' => e = .returned (.bool false) ∧ w = w' :=
  (small_any c w).mono fun _ _ ⟨he, hw⟩ => ⟨he.trans (ret_bool h), hw⟩
theorem capital_yes (c : Int) (h : inB c 65 90 = true) (w : World) : Calls Try.prog 95 #[.int .i32 c] w fun e w' => e = .returned (.bool true) ∧ w = w' :=
  (capital_any c w).mono fun _ _ ⟨he, hw⟩ => ⟨he.trans (ret_bool h), hw⟩
theorem capital_no (c : Int) (h : inB c 65 90 = false) (w : World) : Calls Try.prog 95 #[.int .i32 c] w fun e w' => e = .returned (.bool false) ∧ w = w' :=
  (capital_any c w).mono fun _ _ ⟨he, hw⟩ => ⟨he.trans (ret_bool h), hw⟩

set_option maxHeartbeats 2000000 in
set_option maxRecDepth 100000 in
theorem isName_small (s : ByteArray) (hs : s.size ≤ 9223372036854775807) (w : World) :
    Calls Try.prog 93 #[.string s, .func (.func 94) #[] #[]] w fun e w' => e = .returned (.bool (nameB 97 122 s)) ∧ Below w.heap.size w w' := by
  go_enter Try.func93, Try.ntmps93
  go_wp2
  go_loopw [] (fun wr => ∃ pos f : Nat, wr = w.iter s pos ∧ (pos = 0 ∨ (0 < pos ∧ 0 < s.size ∧ inB (byteAt s 0) 97 122 = true ∧ allB f s pos = allB s.size s 1 ∧ s.size ≤ pos + f))) (fun wr => s.size - wr.iterPos w.heap.size)
  case atStart => exact ⟨0, 0, rfl, Or.inl rfl⟩
  case round =>
    obtain ⟨pos, f, rfl, hrel⟩ := hrel
    have HR := hid hrel
    clear hrel
    by_cases hp : pos < s.size
    · by_cases hc : byteAt s pos < 128
      · have hd : G.runeL (s.data.toList.drop pos) = (byteAt s pos, 1) := runeL_low hp hc
        have hnx : ∀ ty, (Instr.next (.pointer (some ⟨w.heap.size, 0, none⟩)) true ty).run Try.prog (w.iter s pos) = _ := fun ty => next_at w s pos ty hp _ _ hd
        clear hd
        by_cases h0 : 0 < pos
        · have hne : ((pos : Int) == 0) = false := by simp; omega
          go_wp2_with (go_at_call 97; refine (continues_any _ _).mono ?_; rintro e w' ⟨rfl, rfl⟩)
          · have ht : (!behB (byteAt s pos : Int)) = true := by assumption
            go_ret
            refine ⟨ret_bool ?_, (Below.refl _ _).alloc (Nat.le_refl _) _⟩
            rcases HR.out with h | ⟨_, h1, h2, h3, h4⟩
            · omega
            · simp only [nameB]
              rw [← h3, allB_bad s f pos pos (Nat.le_refl _) hp h4 (by simpa using ht)]
              simp
          · have ht : (!behB (byteAt s pos : Int)) = false := by first | assumption | simp_all
            go_roundw
            case rel =>
              refine ⟨pos + 1, f - 1, rfl, Or.inr ?_⟩
              rcases HR.out with h | ⟨_, h1, h2, h3, h4⟩
              · omega
              · refine ⟨by omega, h1, h2, ?_, by omega⟩
                rw [← h3]
                obtain ⟨g, rfl⟩ : ∃ g, f = g + 1 := ⟨f - 1, by omega⟩
                rw [allB, if_pos hp]
                simp at ht
                simp [ht]
            case measure => simp; omega
        · obtain rfl : pos = 0 := by omega
          by_cases hb : inB (byteAt s 0) 97 122 = true
          · have hbe := behB_of_in (by decide) hb
            go_wp2_with (first | (go_at_call 97; refine (continues_yes _ hbe _).mono ?_; rintro e w' ⟨rfl, rfl⟩) | (go_at_call 94; refine (small_yes _ hb _).mono ?_; rintro e w' ⟨rfl, rfl⟩))
            go_roundw
            case rel => exact ⟨1, s.size, rfl, Or.inr ⟨by omega, hp, hb, rfl, by omega⟩⟩
            case measure => simp; omega
          · simp only [Bool.not_eq_true] at hb
            go_wp2_with (go_at_call 94; refine (small_no _ hb _).mono ?_; rintro e w' ⟨rfl, rfl⟩)
            go_ret
            refine ⟨ret_bool ?_, (Below.refl _ _).alloc (Nat.le_refl _) _⟩
            simp [nameB, hb]
      · obtain ⟨r, n, hd, hr⟩ : ∃ r n, G.runeL (s.data.toList.drop pos) = (r, n) ∧ 128 ≤ r := runeL_high hp (by omega)
        have hr2 : r ≤ 2147483647 := by have := decode_le s pos; rw [G.decode_eq, hd] at this; exact this
        have hnx : ∀ ty, (Instr.next (.pointer (some ⟨w.heap.size, 0, none⟩)) true ty).run Try.prog (w.iter s pos) = _ := fun ty => next_at w s pos ty hp _ _ hd
        clear hd
        have hbe : behB (r : Int) = false := behB_high (by omega)
        have hbs : behB (byteAt s pos : Int) = false := behB_high (by omega)
        have HX := hid hbs
        clear hbs
        by_cases h0 : 0 < pos
        · have hne : ((pos : Int) == 0) = false := by simp; omega
          go_wp2_with (go_at_call 97; refine (continues_no _ hbe _).mono ?_; rintro e w' ⟨rfl, rfl⟩)
          go_ret
          refine ⟨ret_bool ?_, (Below.refl _ _).alloc (Nat.le_refl _) _⟩
          rcases HR.out with h | ⟨_, h1, h2, h3, h4⟩
          · omega
          · simp only [nameB]
            rw [← h3, allB_bad s f pos pos (Nat.le_refl _) hp h4 HX.out]
            simp
        · obtain rfl : pos = 0 := by omega
          have hb : inB (r : Int) 97 122 = false := by
            cases h : inB (r : Int) 97 122
            · rfl
            · rw [behB_of_in (by decide) h] at hbe; exact hbe
          have hb2 : inB (byteAt s 0 : Int) 97 122 = false := by
            cases h : inB (byteAt s 0 : Int) 97 122
            · rfl
            · have := HX.out; rw [behB_of_in (by decide) h] at this; exact this
          have HY := hid hb2
          clear hb2
          go_wp2_with (go_at_call 94; refine (small_no _ hb _).mono ?_; rintro e w' ⟨rfl, rfl⟩)
          go_ret
          refine ⟨ret_bool ?_, (Below.refl _ _).alloc (Nat.le_refl _) _⟩
          simp [nameB, HY.out]
    · have hnx : ∀ ty, (Instr.next (.pointer (some ⟨w.heap.size, 0, none⟩)) true ty).run Try.prog (w.iter s pos) = _ := fun ty => run_next_end w s pos ty hp
      by_cases hz : 0 < s.size
      · go_wp2
        go_ret
        refine ⟨ret_bool ?_, (Below.refl _ _).alloc (Nat.le_refl _) _⟩
        rcases HR.out with h | ⟨_, h1, h2, h3, h4⟩
        · omega
        · have hE : allB f s pos = true := allB_end s f pos hp
          rw [h3] at hE
          simp [nameB, hE, h2, hz, ne_empty hz]
      · go_wp2
        go_ret
        refine ⟨ret_bool ?_, (Below.refl _ _).alloc (Nat.le_refl _) _⟩
        simp [nameB, hz, is_empty (show s.size = 0 by omega)]

set_option maxHeartbeats 400000 in
theorem isWord_any (s : ByteArray) (hs : s.size ≤ 9223372036854775807) (w : World) :
    Calls Try.prog 88 #[.string s] w fun e w' => e = .returned (.bool (nameB 97 122 s)) ∧ Below w.heap.size w w' := by
  go_enter Try.func88, Try.ntmps88
  go_wp2_with (go_at_call 93; refine (isName_small s hs _).mono ?_; rintro e w' ⟨rfl, hb⟩)
  go_ret
  exact ⟨rfl, hb⟩

set_option maxHeartbeats 2000000 in
set_option maxRecDepth 100000 in
theorem isName_capital (s : ByteArray) (hs : s.size ≤ 9223372036854775807) (w : World) :
    Calls Try.prog 93 #[.string s, .func (.func 95) #[] #[]] w fun e w' => e = .returned (.bool (nameB 65 90 s)) ∧ Below w.heap.size w w' := by
  go_enter Try.func93, Try.ntmps93
  go_wp2
  go_loopw [] (fun wr => ∃ pos f : Nat, wr = w.iter s pos ∧ (pos = 0 ∨ (0 < pos ∧ 0 < s.size ∧ inB (byteAt s 0) 65 90 = true ∧ allB f s pos = allB s.size s 1 ∧ s.size ≤ pos + f))) (fun wr => s.size - wr.iterPos w.heap.size)
  case atStart => exact ⟨0, 0, rfl, Or.inl rfl⟩
  case round =>
    obtain ⟨pos, f, rfl, hrel⟩ := hrel
    have HR := hid hrel
    clear hrel
    by_cases hp : pos < s.size
    · by_cases hc : byteAt s pos < 128
      · have hd : G.runeL (s.data.toList.drop pos) = (byteAt s pos, 1) := runeL_low hp hc
        have hnx : ∀ ty, (Instr.next (.pointer (some ⟨w.heap.size, 0, none⟩)) true ty).run Try.prog (w.iter s pos) = _ := fun ty => next_at w s pos ty hp _ _ hd
        clear hd
        by_cases h0 : 0 < pos
        · have hne : ((pos : Int) == 0) = false := by simp; omega
          go_wp2_with (go_at_call 97; refine (continues_any _ _).mono ?_; rintro e w' ⟨rfl, rfl⟩)
          · have ht : (!behB (byteAt s pos : Int)) = true := by assumption
            go_ret
            refine ⟨ret_bool ?_, (Below.refl _ _).alloc (Nat.le_refl _) _⟩
            rcases HR.out with h | ⟨_, h1, h2, h3, h4⟩
            · omega
            · simp only [nameB]
              rw [← h3, allB_bad s f pos pos (Nat.le_refl _) hp h4 (by simpa using ht)]
              simp
          · have ht : (!behB (byteAt s pos : Int)) = false := by first | assumption | simp_all
            go_roundw
            case rel =>
              refine ⟨pos + 1, f - 1, rfl, Or.inr ?_⟩
              rcases HR.out with h | ⟨_, h1, h2, h3, h4⟩
              · omega
              · refine ⟨by omega, h1, h2, ?_, by omega⟩
                rw [← h3]
                obtain ⟨g, rfl⟩ : ∃ g, f = g + 1 := ⟨f - 1, by omega⟩
                rw [allB, if_pos hp]
                simp at ht
                simp [ht]
            case measure => simp; omega
        · obtain rfl : pos = 0 := by omega
          by_cases hb : inB (byteAt s 0) 65 90 = true
          · have hbe := behB_of_in (by decide) hb
            go_wp2_with (first | (go_at_call 97; refine (continues_yes _ hbe _).mono ?_; rintro e w' ⟨rfl, rfl⟩) | (go_at_call 95; refine (capital_yes _ hb _).mono ?_; rintro e w' ⟨rfl, rfl⟩))
            go_roundw
            case rel => exact ⟨1, s.size, rfl, Or.inr ⟨by omega, hp, hb, rfl, by omega⟩⟩
            case measure => simp; omega
          · simp only [Bool.not_eq_true] at hb
            go_wp2_with (go_at_call 95; refine (capital_no _ hb _).mono ?_; rintro e w' ⟨rfl, rfl⟩)
            go_ret
            refine ⟨ret_bool ?_, (Below.refl _ _).alloc (Nat.le_refl _) _⟩
            simp [nameB, hb]
      · obtain ⟨r, n, hd, hr⟩ : ∃ r n, G.runeL (s.data.toList.drop pos) = (r, n) ∧ 128 ≤ r := runeL_high hp (by omega)
        have hr2 : r ≤ 2147483647 := by have := decode_le s pos; rw [G.decode_eq, hd] at this; exact this
        have hnx : ∀ ty, (Instr.next (.pointer (some ⟨w.heap.size, 0, none⟩)) true ty).run Try.prog (w.iter s pos) = _ := fun ty => next_at w s pos ty hp _ _ hd
        clear hd
        have hbe : behB (r : Int) = false := behB_high (by omega)
        have hbs : behB (byteAt s pos : Int) = false := behB_high (by omega)
        have HX := hid hbs
        clear hbs
        by_cases h0 : 0 < pos
        · have hne : ((pos : Int) == 0) = false := by simp; omega
          go_wp2_with (go_at_call 97; refine (continues_no _ hbe _).mono ?_; rintro e w' ⟨rfl, rfl⟩)
          go_ret
          refine ⟨ret_bool ?_, (Below.refl _ _).alloc (Nat.le_refl _) _⟩
          rcases HR.out with h | ⟨_, h1, h2, h3, h4⟩
          · omega
          · simp only [nameB]
            rw [← h3, allB_bad s f pos pos (Nat.le_refl _) hp h4 HX.out]
            simp
        · obtain rfl : pos = 0 := by omega
          have hb : inB (r : Int) 65 90 = false := by
            cases h : inB (r : Int) 65 90
            · rfl
            · rw [behB_of_in (by decide) h] at hbe; exact hbe
          have hb2 : inB (byteAt s 0 : Int) 65 90 = false := by
            cases h : inB (byteAt s 0 : Int) 65 90
            · rfl
            · have := HX.out; rw [behB_of_in (by decide) h] at this; exact this
          have HY := hid hb2
          clear hb2
          go_wp2_with (go_at_call 95; refine (capital_no _ hb _).mono ?_; rintro e w' ⟨rfl, rfl⟩)
          go_ret
          refine ⟨ret_bool ?_, (Below.refl _ _).alloc (Nat.le_refl _) _⟩
          simp [nameB, HY.out]
    · have hnx : ∀ ty, (Instr.next (.pointer (some ⟨w.heap.size, 0, none⟩)) true ty).run Try.prog (w.iter s pos) = _ := fun ty => run_next_end w s pos ty hp
      by_cases hz : 0 < s.size
      · go_wp2
        go_ret
        refine ⟨ret_bool ?_, (Below.refl _ _).alloc (Nat.le_refl _) _⟩
        rcases HR.out with h | ⟨_, h1, h2, h3, h4⟩
        · omega
        · have hE : allB f s pos = true := allB_end s f pos hp
          rw [h3] at hE
          simp [nameB, hE, h2, hz, ne_empty hz]
      · go_wp2
        go_ret
        refine ⟨ret_bool ?_, (Below.refl _ _).alloc (Nat.le_refl _) _⟩
        simp [nameB, hz, is_empty (show s.size = 0 by omega)]

set_option maxHeartbeats 400000 in
theorem isTag_any (s : ByteArray) (hs : s.size ≤ 9223372036854775807) (w : World) :
    Calls Try.prog 89 #[.string s] w fun e w' => e = .returned (.bool (nameB 65 90 s)) ∧ Below w.heap.size w w' := by
  go_enter Try.func89, Try.ntmps89
  go_wp2_with (go_at_call 93; refine (isName_capital s hs _).mono ?_; rintro e w' ⟨rfl, hb⟩)
  go_ret
  exact ⟨rfl, hb⟩

set_option maxHeartbeats 400000 in
theorem refWord_any (s : ByteArray) (hs : s.size ≤ 9223372036854775807) (w : World) :
    Calls Try.prog 78 #[.string s] w fun e w' => e = .returned (.bool (nameB 97 122 s)) ∧ w = w' := by
  by_cases h0 : 0 < s.size
  · have HB := hid (byteAt_eq s 0 h0)
    go_enter Try.func78, Try.ntmps78
    go_wp2_with (first | (go_at_call 90; refine (within_any _ _ _ _).mono ?_; rintro e w' ⟨rfl, rfl⟩) | (go_at_call 91; refine (all_any s hs _).mono ?_; rintro e w' ⟨rfl, rfl⟩))
    all_goals go_ret
    all_goals refine ⟨ret_bool ?_, rfl⟩
    all_goals rw [HB.out] at *
    all_goals simp_all [nameB]
  · go_enter Try.func78, Try.ntmps78
    go_wp2
    go_ret
    exact ⟨ret_bool (by simp [nameB, h0]), rfl⟩

set_option maxHeartbeats 400000 in
theorem refTag_any (s : ByteArray) (hs : s.size ≤ 9223372036854775807) (w : World) :
    Calls Try.prog 79 #[.string s] w fun e w' => e = .returned (.bool (nameB 65 90 s)) ∧ w = w' := by
  by_cases h0 : 0 < s.size
  · have HB := hid (byteAt_eq s 0 h0)
    go_enter Try.func79, Try.ntmps79
    go_wp2_with (first | (go_at_call 90; refine (within_any _ _ _ _).mono ?_; rintro e w' ⟨rfl, rfl⟩) | (go_at_call 91; refine (all_any s hs _).mono ?_; rintro e w' ⟨rfl, rfl⟩))
    all_goals go_ret
    all_goals refine ⟨ret_bool ?_, rfl⟩
    all_goals rw [HB.out] at *
    all_goals simp_all [nameB]
  · go_enter Try.func79, Try.ntmps79
    go_wp2
    go_ret
    exact ⟨ret_bool (by simp [nameB, h0]), rfl⟩

theorem drop_nil {s : ByteArray} {i : Nat} (hi : ¬ i < s.size) : s.data.toList.drop i = [] := by
  apply List.drop_eq_nil_of_le
  simp
  omega

theorem ret_two {a b c d : Int} (h : a = c) (h2 : b = d) : Ending.returned (.tuple #[.int .i64 a, .int .i64 b]) = .returned (.tuple #[.int .i64 c, .int .i64 d]) := by rw [h, h2]

end Go.Proofs.Ytkkigdbinnfbfaa
end

section
/-
  Plain lists of nodes, no program: forests in pre-order, what a type is, where a tree ends. No conditions but those that each lemma names.
-/
namespace Go.Proofs.Ytkkigdbinnfbfaa.L
open Go

/-- A node: its kind, its label, its number. -/
structure Nd where
  kind : Int
  name : ByteArray
  n : Int
  deriving DecidableEq, Inhabited

def many (x : Nd) : Int := if x.kind = 5 then 2 else if x.kind = 6 ∨ x.kind = 7 then x.n else 0

def bare (x : Nd) : Bool := decide (x.name.size = 0) && decide (x.kind ≠ 9)

def numbered (x : Nd) : Bool :=
  if x.kind = 0 ∨ x.kind = 8 ∨ x.kind = 9 then decide (0 ≤ x.n)
  else if x.kind = 1 ∨ x.kind = 2 ∨ x.kind = 3 ∨ x.kind = 4 ∨ x.kind = 5 then decide (x.n = 0)
  else if x.kind = 6 then decide (0 ≤ x.n) && decide (x.n ≤ 50)
  else if x.kind = 7 then decide (1 ≤ x.n) && decide (x.n ≤ 50)
  else false

def isLabel (kind : Int) (s : ByteArray) : Bool := (decide (kind = 6) && nameB 97 122 s) || (decide (kind = 7) && nameB 65 90 s)

/-- One text ahead of another, byte by byte. -/
def ltB (a b : ByteArray) : Bool := Op.bytesLess a.toList b.toList

def mayStand (x : Nd) (k : Int) (before : ByteArray) (kid : Nd) : Bool :=
  if x.kind = 5 then bare kid
  else if kid.kind = 9 then decide (kid.name.size = 0) && decide (k = x.n - 1)
  else isLabel x.kind kid.name && ltB before kid.name

/-- A row of trees: the first one's outermost node, its children, the others. -/
inductive Fo where
  | nil : Fo
  | cons : Nd → Fo → Fo → Fo

def Fo.flat : Fo → List Nd
  | .nil => []
  | .cons x ks r => x :: (ks.flat ++ r.flat)
def Fo.count : Fo → Nat
  | .nil => 0
  | .cons _ _ r => r.count + 1
def Fo.deep : Fo → Nat
  | .nil => 0
  | .cons _ ks r => max (ks.deep + 1) r.deep

/-- The children from number k on, the one ahead of them labelled so, may stand under x. -/
def Fo.stand (x : Nd) : Nat → ByteArray → Fo → Bool
  | _, _, .nil => true
  | k, b, .cons y _ r => mayStand x k b y && Fo.stand x (k + 1) y.name r

/-- Each node is such as it may be, has as many children as it says, and these may stand under it. -/
def Fo.ok : Fo → Bool
  | .nil => true
  | .cons x ks r => numbered x && decide (many x = ks.count) && Fo.stand x 0 ⟨#[]⟩ ks && ks.ok && r.ok

theorem many_of_numbered {x : Nd} (h : numbered x = true) : 0 ≤ many x ∧ many x ≤ 50 := by
  unfold numbered at h
  unfold many
  repeat' split at h
  all_goals simp at h
  all_goals repeat' split
  all_goals omega

/-- What stands behind one tree, with so many levels left. -/
def kidsF (V : List Nd → Option (List Nd)) (x : Nd) : Nat → Nat → ByteArray → List Nd → Option (List Nd)
  | 0, _, _, l => some l
  | _ + 1, _, _, [] => none
  | c + 1, k, b, y :: r => if mayStand x k b y then (V (y :: r)).bind (kidsF V x c (k + 1) y.name) else none

def visitF : Nat → List Nd → Option (List Nd)
  | 0, _ => none
  | _ + 1, [] => none
  | m + 1, x :: r => if numbered x then kidsF (visitF m) x (many x).toNat 0 ⟨#[]⟩ r else none

/-- Is it a type? -/
def rightL (l : List Nd) : Bool :=
  match l with
  | [] => false
  | x :: _ => decide (l.length ≤ 10000) && bare x && decide (visitF 100 l = some [])

theorem kidsF_iff {V : List Nd → Option (List Nd)} {m : Nat} (hV : ∀ l r, V l = some r ↔ ∃ x ks, l = x :: (ks.flat ++ r) ∧ (Fo.cons x ks .nil).ok = true ∧ ks.deep + 1 ≤ m) (x : Nd) :
    ∀ (c k : Nat) (b : ByteArray) (l r : List Nd), kidsF V x c k b l = some r ↔ ∃ f : Fo, l = f.flat ++ r ∧ f.count = c ∧ f.ok = true ∧ Fo.stand x k b f = true ∧ f.deep ≤ m := by
  intro c
  induction c with
  | zero =>
    intro k b l r
    rw [kidsF]
    constructor
    · intro h
      cases h
      exact ⟨.nil, rfl, rfl, rfl, rfl, Nat.zero_le _⟩
    · rintro ⟨f, rfl, hc, _⟩
      cases f with
      | nil => rfl
      | cons x ks r => simp [Fo.count] at hc
  | succ c ih =>
    intro k b l r
    cases l with
    | nil =>
      rw [kidsF]
      constructor
      · intro h; cases h
      · rintro ⟨f, hf, hc, _⟩
        cases f with
        | nil => simp [Fo.count] at hc
        | cons x ks r => simp [Fo.flat] at hf
    | cons y l =>
      rw [kidsF]
      constructor
      · intro h
        split at h
        · rename_i hm
          obtain ⟨r1, h1, h2⟩ := Option.bind_eq_some_iff.1 h
          obtain ⟨z, ks, hz, hok, hd⟩ := (hV _ _).1 h1
          obtain ⟨f, hf, hc, hfo, hfs, hfd⟩ := (ih _ _ _ _).1 h2
          injection hz with hz1 hz2
          subst hz1
          refine ⟨.cons y ks f, ?_, ?_, ?_, ?_, ?_⟩
          · simp [Fo.flat, hz2, hf]
          · simp [Fo.count, hc]
          · simp [Fo.ok] at hok ⊢
            exact ⟨hok, hfo⟩
          · simp [Fo.stand, hm, hfs]
          · simp [Fo.deep]; omega
        · cases h
      · rintro ⟨f, hf, hc, hfo, hfs, hfd⟩
        cases f with
        | nil => simp [Fo.count] at hc
        | cons z ks g =>
          simp only [Fo.flat, List.cons_append, List.cons.injEq] at hf
          obtain ⟨rfl, hf⟩ := hf
          simp [Fo.count] at hc
          simp [Fo.stand] at hfs
          simp [Fo.deep] at hfd
          simp [Fo.ok] at hfo
          rw [if_pos hfs.1, Option.bind_eq_some_iff]
          refine ⟨g.flat ++ r, (hV _ _).2 ⟨y, ks, by rw [hf]; simp, by simp [Fo.ok]; exact hfo.1, by omega⟩, (ih _ _ _ _).2 ⟨g, rfl, hc, hfo.2, hfs.2, by omega⟩⟩

theorem visitF_iff (m : Nat) : ∀ l r, visitF m l = some r ↔ ∃ x ks, l = x :: (ks.flat ++ r) ∧ (Fo.cons x ks .nil).ok = true ∧ ks.deep + 1 ≤ m := by
  induction m with
  | zero =>
    intro l r
    rw [visitF]
    constructor
    · intro h; cases h
    · rintro ⟨_, _, _, _, h⟩; omega
  | succ m ih =>
    intro l r
    cases l with
    | nil =>
      rw [visitF]
      constructor
      · intro h; cases h
      · rintro ⟨_, _, h, _⟩; cases h
    | cons x l =>
      rw [visitF]
      constructor
      · intro h
        split at h
        · rename_i hn
          obtain ⟨f, hf, hc, hfo, hfs, hfd⟩ := (kidsF_iff ih x _ _ _ _ _).1 h
          have := many_of_numbered hn
          refine ⟨x, f, by rw [hf], ?_, by omega⟩
          simp [Fo.ok, hn, hfo, hfs, hc]
          omega
        · cases h
      · rintro ⟨y, ks, hl, hok, hd⟩
        injection hl with h1 h2
        subst h1
        simp [Fo.ok] at hok
        obtain ⟨⟨⟨hn, hm⟩, hs⟩, hk⟩ := hok
        rw [if_pos hn]
        exact (kidsF_iff ih x _ _ _ _ _).2 ⟨ks, h2, by omega, hk, hs, by omega⟩

/-- A type is a tree, each of whose nodes is such as it may be. -/
theorem rightL_iff (l : List Nd) : rightL l = true ↔ ∃ x ks, l = x :: Fo.flat ks ∧ l.length ≤ 10000 ∧ bare x = true ∧ (Fo.cons x ks .nil).ok = true ∧ ks.deep + 1 ≤ 100 := by
  cases l with
  | nil => simp [rightL]
  | cons y l =>
    simp only [rightL, Bool.and_eq_true, decide_eq_true_eq]
    constructor
    · rintro ⟨⟨h1, h2⟩, h3⟩
      obtain ⟨x, ks, hl, hok, hd⟩ := (visitF_iff _ _ _).1 h3
      rw [List.append_nil] at hl
      injection hl with ha hb
      subst ha
      exact ⟨y, ks, by rw [hb], h1, h2, hok, hd⟩
    · rintro ⟨x, ks, hl, h1, h2, hok, hd⟩
      injection hl with ha hb
      subst ha
      exact ⟨⟨h1, h2⟩, (visitF_iff _ _ _).2 ⟨y, ks, by rw [hb]; simp, hok, hd⟩⟩

/-- How many nodes so many trees are, as far as there are nodes. -/
def eat : Nat → List Nd → Nat
  | _, [] => 0
  | 0, _ => 0
  | c + 1, x :: r => 1 + eat (c + (many x).toNat) r

theorem eat_zero (l : List Nd) : eat 0 l = 0 := by cases l <;> rfl

theorem eat_le (c : Nat) (l : List Nd) : eat c l ≤ l.length := by
  induction l generalizing c with
  | nil => simp [eat]
  | cons x l ih =>
    cases c with
    | zero => simp [eat]
    | succ c =>
      rw [eat]
      have := ih (c + (many x).toNat)
      simp
      omega

theorem eat_pos {c : Nat} {l : List Nd} (hc : 0 < c) (hl : l ≠ []) : 0 < eat c l := by
  obtain ⟨c, rfl⟩ : ∃ d, c = d + 1 := ⟨c - 1, by omega⟩
  cases l with
  | nil => exact absurd rfl hl
  | cons x l => rw [eat]; omega

/-- The trees of a row are eaten one behind the other. -/
theorem eat_flat (f : Fo) (h : f.ok = true) (c : Nat) (r : List Nd) : eat (f.count + c) (f.flat ++ r) = f.flat.length + eat c r := by
  induction f generalizing c r with
  | nil => simp [Fo.count, Fo.flat]
  | cons x ks g ih1 ih2 =>
    simp [Fo.ok] at h
    obtain ⟨⟨⟨⟨hn, hm⟩, hs⟩, hk⟩, hg⟩ := h
    have e : (Fo.cons x ks g).count + c = (g.count + c) + 1 := by simp [Fo.count]; omega
    have e2 : g.count + c + (many x).toNat = ks.count + (g.count + c) := by omega
    rw [e]
    simp only [Fo.flat, List.cons_append, List.append_assoc]
    rw [eat, e2, ih1 hk, ih2 hg]
    simp
    omega

theorem eat_tree {x : Nd} {ks : Fo} (h : (Fo.cons x ks .nil).ok = true) (r : List Nd) : eat 1 (x :: (ks.flat ++ r)) = ks.flat.length + 1 := by
  have := eat_flat (Fo.cons x ks .nil) h 0 r
  simp only [Fo.count, Fo.flat, List.append_nil, List.cons_append, eat_zero, Nat.zero_add, Nat.add_zero] at this
  rw [this]
  simp

/-- The places of so many trees from place p on. -/
def kidsL (l : List Nd) : Nat → Nat → List Nat
  | 0, _ => []
  | c + 1, p => if p < l.length then p :: kidsL l c (p + eat 1 (l.drop p)) else []

theorem kidsL_length_le (l : List Nd) (c p : Nat) : (kidsL l c p).length ≤ c := by
  induction c generalizing p with
  | zero => simp [kidsL]
  | succ c ih =>
    rw [kidsL]
    split
    · have := ih (p + eat 1 (l.drop p)); simp; omega
    · simp

end Go.Proofs.Ytkkigdbinnfbfaa.L
end

section
/-
  The walks of ty's small questions on nodes, and of the reference's: each returns what the plain definition says; blocks of the call's own may be laid. Condition: labels of at most 2000000 bytes.
-/
namespace Go.Proofs.Ytkkigdbinnfbfaa
open Go.RowKit

theorem below_new {w : World} (o : Obj) : Below w.heap.size w (w.alloc o) := (Below.refl _ _).alloc (Nat.le_refl _) _

set_option maxHeartbeats 400000 in
theorem many_any (k n : Int) (s : ByteArray) (w : World) : Calls Try.prog 53 #[.agg #[.int .i64 k, .string s, .int .i64 n]] w fun e w' => e = .returned (.int .i64 (L.many ⟨k, s, n⟩)) ∧ Below w.heap.size w w' := by
  by_cases h5 : k = 5
  · subst h5
    go_enter Try.func53, Try.ntmps53
    go_wp2
    go_ret
    exact ⟨rfl, below_new _⟩
  by_cases h6 : k = 6
  · subst h6
    go_enter Try.func53, Try.ntmps53
    go_wp2
    go_ret
    exact ⟨rfl, below_new _⟩
  by_cases h7 : k = 7
  · subst h7
    go_enter Try.func53, Try.ntmps53
    go_wp2
    go_ret
    exact ⟨rfl, below_new _⟩
  have e5 : (k == 5) = false := by simp; omega
  have e6 : (k == 6) = false := by simp; omega
  have e7 : (k == 7) = false := by simp; omega
  go_enter Try.func53, Try.ntmps53
  go_wp2
  go_ret
  refine ⟨ret_int ?_, below_new _⟩
  simp [L.many, h5, h6, h7]

set_option maxHeartbeats 400000 in
theorem refMany_any (k n : Int) (s : ByteArray) (w : World) : Calls Try.prog 77 #[.agg #[.int .i64 k, .string s, .int .i64 n]] w fun e w' => e = .returned (.int .i64 (L.many ⟨k, s, n⟩)) ∧ Below w.heap.size w w' := by
  by_cases h5 : k = 5
  · subst h5
    go_enter Try.func77, Try.ntmps77
    go_wp2
    go_ret
    exact ⟨rfl, below_new _⟩
  by_cases h6 : k = 6
  · subst h6
    go_enter Try.func77, Try.ntmps77
    go_wp2
    go_ret
    exact ⟨rfl, below_new _⟩
  by_cases h7 : k = 7
  · subst h7
    go_enter Try.func77, Try.ntmps77
    go_wp2
    go_ret
    exact ⟨rfl, below_new _⟩
  have e5 : (k == 5) = false := by simp; omega
  have e6 : (k == 6) = false := by simp; omega
  have e7 : (k == 7) = false := by simp; omega
  go_enter Try.func77, Try.ntmps77
  go_wp2
  go_ret
  refine ⟨ret_int ?_, below_new _⟩
  simp [L.many, h5, h6, h7]

set_option maxHeartbeats 400000 in
theorem bare_any (k n : Int) (s : ByteArray) (w : World) : Calls Try.prog 50 #[.agg #[.int .i64 k, .string s, .int .i64 n]] w fun e w' => e = .returned (.bool (L.bare ⟨k, s, n⟩)) ∧ Below w.heap.size w w' := by
  by_cases h0 : s.size = 0
  · have he := is_empty h0
    go_enter Try.func50, Try.ntmps50
    go_wp2
    go_ret
    refine ⟨ret_bool ?_, below_new _⟩
    rw [Bool.eq_iff_iff]
    simp [L.bare, h0]
  · have he := ne_empty (show 0 < s.size by omega)
    go_enter Try.func50, Try.ntmps50
    go_wp2
    go_ret
    refine ⟨ret_bool ?_, below_new _⟩
    simp [L.bare, h0]


theorem kind_cases (k : Int) : k = 0 ∨ k = 1 ∨ k = 2 ∨ k = 3 ∨ k = 4 ∨ k = 5 ∨ k = 6 ∨ k = 7 ∨ k = 8 ∨ k = 9 ∨ (k < 0 ∨ 9 < k) := by omega

set_option maxHeartbeats 1000000 in
theorem numbered_any (k n : Int) (s : ByteArray) (w : World) : Calls Try.prog 52 #[.agg #[.int .i64 k, .string s, .int .i64 n]] w fun e w' => e = .returned (.bool (L.numbered ⟨k, s, n⟩)) ∧ Below w.heap.size w w' := by
  rcases kind_cases k with rfl | rfl | rfl | rfl | rfl | rfl | rfl | rfl | rfl | rfl | h
  case inr.inr.inr.inr.inr.inr.inr.inr.inr.inr =>
    have e0 : (k == 0) = false := by simp; omega
    have e1 : (k == 1) = false := by simp; omega
    have e2 : (k == 2) = false := by simp; omega
    have e3 : (k == 3) = false := by simp; omega
    have e4 : (k == 4) = false := by simp; omega
    have e5 : (k == 5) = false := by simp; omega
    have e6 : (k == 6) = false := by simp; omega
    have e7 : (k == 7) = false := by simp; omega
    have e8 : (k == 8) = false := by simp; omega
    have e9 : (k == 9) = false := by simp; omega
    go_enter Try.func52, Try.ntmps52
    go_wp2
    go_ret
    refine ⟨ret_bool ?_, below_new _⟩
    simp only [beq_eq_false_iff_ne, ne_eq] at e0 e1 e2 e3 e4 e5 e6 e7 e8 e9
    simp [L.numbered, e0, e1, e2, e3, e4, e5, e6, e7, e8, e9]
  all_goals go_enter Try.func52, Try.ntmps52
  all_goals go_wp2
  all_goals go_ret
  all_goals refine ⟨ret_bool ?_, below_new _⟩
  all_goals rw [Bool.eq_iff_iff]
  all_goals simp [L.numbered]
  all_goals try omega

set_option maxHeartbeats 1000000 in
theorem refNumbered_any (k n : Int) (s : ByteArray) (w : World) : Calls Try.prog 55 #[.agg #[.int .i64 k, .string s, .int .i64 n]] w fun e w' => e = .returned (.bool (L.numbered ⟨k, s, n⟩)) ∧ Below w.heap.size w w' := by
  rcases kind_cases k with rfl | rfl | rfl | rfl | rfl | rfl | rfl | rfl | rfl | rfl | h
  case inr.inr.inr.inr.inr.inr.inr.inr.inr.inr =>
    have e0 : (k == 0) = false := by simp; omega
    have e1 : (k == 1) = false := by simp; omega
    have e2 : (k == 2) = false := by simp; omega
    have e3 : (k == 3) = false := by simp; omega
    have e4 : (k == 4) = false := by simp; omega
    have e5 : (k == 5) = false := by simp; omega
    have e6 : (k == 6) = false := by simp; omega
    have e7 : (k == 7) = false := by simp; omega
    have e8 : (k == 8) = false := by simp; omega
    have e9 : (k == 9) = false := by simp; omega
    go_enter Try.func55, Try.ntmps55
    go_wp2
    go_ret
    refine ⟨ret_bool ?_, below_new _⟩
    simp only [beq_eq_false_iff_ne, ne_eq] at e0 e1 e2 e3 e4 e5 e6 e7 e8 e9
    simp [L.numbered, e0, e1, e2, e3, e4, e5, e6, e7, e8, e9]
  all_goals go_enter Try.func55, Try.ntmps55
  all_goals go_wp2
  all_goals go_ret
  all_goals refine ⟨ret_bool ?_, below_new _⟩
  all_goals rw [Bool.eq_iff_iff]
  all_goals simp [L.numbered]
  all_goals try omega

set_option maxHeartbeats 1000000 in
theorem isLabel_any (k : Int) (s : ByteArray) (hs : s.size ≤ 9223372036854775807) (w : World) : Calls Try.prog 76 #[.int .i64 k, .string s] w fun e w' => e = .returned (.bool (L.isLabel k s)) ∧ Below w.heap.size w w' := by
  by_cases h6 : k = 6
  · subst h6
    go_enter Try.func76, Try.ntmps76
    go_wp2_with (go_at_call 88; refine (isWord_any s hs _).mono ?_; rintro e w' ⟨rfl, hb⟩)
    all_goals go_ret
    all_goals refine ⟨ret_bool ?_, hb⟩
    all_goals simp_all [L.isLabel]
  by_cases h7 : k = 7
  · subst h7
    go_enter Try.func76, Try.ntmps76
    go_wp2_with (go_at_call 89; refine (isTag_any s hs _).mono ?_; rintro e w' ⟨rfl, hb⟩)
    all_goals go_ret
    all_goals refine ⟨ret_bool ?_, hb⟩
    all_goals simp_all [L.isLabel]
  have e6 : (k == 6) = false := by simp; omega
  have e7 : (k == 7) = false := by simp; omega
  go_enter Try.func76, Try.ntmps76
  go_wp2
  go_ret
  refine ⟨ret_bool ?_, Below.refl _ _⟩
  simp [L.isLabel, h6, h7]

set_option maxHeartbeats 2000000 in
theorem mayStand_any (k n i k2 n2 : Int) (s b s2 : ByteArray) (hs : s2.size ≤ 9223372036854775807) (hn : -9223372036854775807 ≤ n ∧ n ≤ 9223372036854775807) (w : World) :
    Calls Try.prog 54 #[.agg #[.int .i64 k, .string s, .int .i64 n], .int .i64 i, .string b, .agg #[.int .i64 k2, .string s2, .int .i64 n2]] w fun e w' => e = .returned (.bool (L.mayStand ⟨k, s, n⟩ i b ⟨k2, s2, n2⟩)) ∧ Below w.heap.size w w' := by
  by_cases h5 : k = 5
  · subst h5
    go_enter Try.func54, Try.ntmps54
    go_wp2_with (go_at_call 50; refine (bare_any _ _ _ _).mono ?_; rintro e w' ⟨rfl, hb⟩)
    go_ret
    exact ⟨rfl, ((below_new _).trans ((below_new _).mono (by simp))).trans (hb.mono (by simp; omega))⟩
  have e5 : (k == 5) = false := by simp; omega
  by_cases h9 : k2 = 9
  · subst h9
    by_cases h0 : s2.size = 0
    · have he := is_empty h0
      go_enter Try.func54, Try.ntmps54
      go_wp2
      go_ret
      refine ⟨ret_bool ?_, (below_new _).trans ((below_new _).mono (by simp))⟩
      rw [Bool.eq_iff_iff]
      simp [L.mayStand, h5, h0]
    · have he := ne_empty (show 0 < s2.size by omega)
      go_enter Try.func54, Try.ntmps54
      go_wp2
      go_ret
      refine ⟨ret_bool ?_, (below_new _).trans ((below_new _).mono (by simp))⟩
      simp [L.mayStand, h5, h0]
  have e9 : (k2 == 9) = false := by simp; omega
  go_enter Try.func54, Try.ntmps54
  go_wp2_with fail
  refine (isLabel_any _ _ hs _).mono ?_
  rintro e w' ⟨rfl, hb⟩
  have hc : w'.cell? ⟨w.heap.size + 1, 1, none⟩ = some (.string s2) := by
    rw [hb.cell (p := ⟨w.heap.size + 1, 1, none⟩) (by simp)]
    simp
  go_wp2
  all_goals go_ret
  all_goals refine ⟨ret_bool ?_, ((below_new _).trans ((below_new _).mono (by simp))).trans (hb.mono (by simp; omega))⟩
  all_goals simp_all [L.mayStand, L.ltB]

end Go.Proofs.Ytkkigdbinnfbfaa
end

section
/-
  A row of nodes of the call's own, and a slice of nodes that is read; what is kept of both. No conditions but those that each lemma names.
-/
namespace Go.Proofs.Ytkkigdbinnfbfaa
open Go.RowKit

theorem heap_lt {w : World} {b : Nat} {o : Obj} (h : w.heap[b]? = some o) : b < w.heap.size := (Array.getElem?_eq_some_iff.1 h).1
theorem cell_lt {w : World} {a : Addr} {v : Value} (h : w.cell? a = some v) : a.block < w.heap.size := by
  rcases Nat.lt_or_ge a.block w.heap.size with hlt | hge
  · exact hlt
  · have hn : w.heap[a.block]? = none := Array.getElem?_eq_none hge
    simp [World.cell?, hn] at h

def ndC (x : L.Nd) : List Value := [.int .i64 x.kind, .string x.name, .int .i64 x.n]
def cellsN (l : List L.Nd) : List Value := l.flatMap ndC

theorem cellsN_len (l : List L.Nd) : (cellsN l).length = l.length * 3 := by
  induction l with
  | nil => rfl
  | cons t r ih => simp only [cellsN, ndC, List.flatMap_cons, List.length_append, List.length_cons, List.length_nil] at ih ⊢; omega

theorem cellsN_append (l r : List L.Nd) : cellsN (l ++ r) = cellsN l ++ cellsN r := by simp [cellsN]
theorem cellsN_cons (x : L.Nd) (l : List L.Nd) : cellsN (x :: l) = ndC x ++ cellsN l := by simp [cellsN]

theorem cellsN_one (l : List L.Nd) : ∀ u ∈ cellsN l, u.oneCell' = true := by
  intro u hu
  obtain ⟨x, _, hx⟩ := List.mem_flatMap.1 hu
  simp [ndC] at hx
  rcases hx with rfl | rfl | rfl <;> rfl

theorem cellsN_get (l : List L.Nd) (i : Nat) (h : i < l.length) :
    (cellsN l)[i * 3]? = some (.int .i64 l[i].kind) ∧ (cellsN l)[i * 3 + 1]? = some (.string l[i].name) ∧ (cellsN l)[i * 3 + 2]? = some (.int .i64 l[i].n) := by
  induction l generalizing i with
  | nil => simp at h
  | cons t r ih =>
    rw [cellsN_cons]
    cases i with
    | zero => simp [ndC]
    | succ i =>
      have hi : i < r.length := by simpa using h
      have h1 := ih i hi
      have e3 : ∀ j, (ndC t ++ cellsN r)[(i + 1) * 3 + j]? = (cellsN r)[i * 3 + j]? := by
        intro j
        rw [List.getElem?_append_right (by simp [ndC]; omega)]
        congr 1
        simp [ndC]
        omega
      have e0 := e3 0
      simp only [Nat.add_zero] at e0
      rw [e0, e3 1, e3 2]
      exact h1

theorem cellsN_of {l : List L.Nd} {j : Nat} {u : Value} (h : (cellsN l)[j]? = some u) : ∃ i, ∃ hi : i < l.length, (j = i * 3 ∧ u = .int .i64 l[i].kind) ∨ (j = i * 3 + 1 ∧ u = .string l[i].name) ∨ (j = i * 3 + 2 ∧ u = .int .i64 l[i].n) := by
  have hj : j < (cellsN l).length := by
    rcases Nat.lt_or_ge j (cellsN l).length with h2 | h2
    · exact h2
    · rw [List.getElem?_eq_none h2] at h; cases h
  rw [cellsN_len] at hj
  have hi : j / 3 < l.length := by omega
  obtain ⟨a, b, c⟩ := cellsN_get l (j / 3) hi
  refine ⟨j / 3, hi, ?_⟩
  rcases (by omega : j = j / 3 * 3 ∨ j = j / 3 * 3 + 1 ∨ j = j / 3 * 3 + 2) with e | e | e
  · rw [e, a] at h; exact Or.inl ⟨e, (Option.some.inj h).symm⟩
  · rw [e, b] at h; exact Or.inr (Or.inl ⟨e, (Option.some.inj h).symm⟩)
  · rw [e, c] at h; exact Or.inr (Or.inr ⟨e, (Option.some.inj h).symm⟩)

/-- A slice value that holds just these nodes, in a block from B on, of the call's own. -/
def Own (B : Nat) (v : Value) (l : List L.Nd) (w : World) : Prop := w.ownsRow B 39 3 v l.length (cellsN l)

/-- A slice value that reads as these nodes, in a block below B. -/
def Rd (w : World) (B : Nat) (v : Value) (l : List L.Nd) : Prop :=
  ∃ (A : Option Addr) (cap : Nat), v = .slice A l.length cap ∧ l.length ≤ cap ∧ cap ≤ maxLen ∧ (A = none → cap = 0) ∧
    (l ≠ [] → ∃ b o, A = some ⟨b, o, none⟩ ∧ b < B ∧ ∀ (i : Nat) (h : i < l.length), w.cell? ⟨b, o + i * 3, none⟩ = some (.int .i64 l[i].kind) ∧ w.cell? ⟨b, o + i * 3 + 1, none⟩ = some (.string l[i].name) ∧ w.cell? ⟨b, o + i * 3 + 2, none⟩ = some (.int .i64 l[i].n))

theorem grown_of_below {w w' : World} (h : Below w.heap.size w w') : w.grownBy w' none := ⟨h.os, h.tape, h.output, h.size, fun i hi _ => h.block i hi⟩

theorem Own.below {B : Nat} {v : Value} {l : List L.Nd} {w w' : World} (h : Own B v l w) (hb : Below w.heap.size w w') : Own B v l w' := by
  unfold Own at h ⊢
  by_cases hv : v.ownBlock = none
  · exact h.kept (grown_of_below hb) (Or.inl hv)
  · exact h.kept (grown_of_below hb) (Or.inr hv)
theorem Own.alloc {B : Nat} {v : Value} {l : List L.Nd} {w : World} (h : Own B v l w) (o : Obj) : Own B v l (w.alloc o) := World.ownsRow.alloc h o
theorem Own.nil (B : Nat) (w : World) : Own B (.slice none 0 0) [] w := World.ownsRow_nil w B _ 3
theorem Own.lt {B : Nat} {v : Value} {l : List L.Nd} {w : World} (h : Own B v l w) : ∀ k, v.ownBlock = some k → B ≤ k ∧ k < w.heap.size := World.ownsRow.lt h
theorem Own.append {B : Nat} {v : Value} {l r : List L.Nd} {w : World} (h : w.ownsRow B 39 3 v (l.length + r.length) (cellsN l ++ cellsN r)) : Own B v (l ++ r) w := by
  unfold Own
  rw [cellsN_append, List.length_append]
  exact h

theorem Own.rd {B : Nat} {v : Value} {l : List L.Nd} {w : World} (h : Own B v l w) : Rd w w.heap.size v l := by
  rcases h.2 with ⟨hv, h0⟩ | ⟨g, cap, cur, hv, _, hh, hc, hm, _⟩
  · refine ⟨none, 0, by rw [hv, h0], by omega, Nat.zero_le _, fun _ => rfl, fun hn => absurd (List.eq_nil_of_length_eq_zero h0) hn⟩
  · subst hv
    refine ⟨_, cap, rfl, hc, hm, by simp, fun _ => ⟨g, 0, rfl, heap_lt hh, fun i hi => ?_⟩⟩
    obtain ⟨a, b, c⟩ := cellsN_get l i hi
    have hc := fun j hj => World.ownsRow.cellAt h j hj
    rw [Nat.zero_add]
    exact ⟨(hc _ (by omega)).trans a, (hc _ (by omega)).trans b, (hc _ (by omega)).trans c⟩

theorem Rd.mono {w : World} {B B' : Nat} {v : Value} {l : List L.Nd} (h : Rd w B v l) (hB : B ≤ B') : Rd w B' v l := by
  obtain ⟨A, cap, hv, h1, h2, h3, hc⟩ := h
  refine ⟨A, cap, hv, h1, h2, h3, fun hn => ?_⟩
  obtain ⟨b, o, ha, hb, hx⟩ := hc hn
  exact ⟨b, o, ha, by omega, hx⟩

theorem Rd.kept {w w' : World} {B : Nat} {v : Value} {l : List L.Nd} (h : Rd w B v l) (hk : ∀ b, b < B → b < w.heap.size → w'.heap[b]? = w.heap[b]?) : Rd w' B v l := by
  obtain ⟨A, cap, hv, h1, h2, h3, hc⟩ := h
  refine ⟨A, cap, hv, h1, h2, h3, fun hn => ?_⟩
  obtain ⟨b, o, ha, hb, hx⟩ := hc hn
  refine ⟨b, o, ha, hb, fun i hi => ?_⟩
  obtain ⟨x, y, z⟩ := hx i hi
  have hlt := cell_lt x
  have e : ∀ j, w'.cell? ⟨b, j, none⟩ = w.cell? ⟨b, j, none⟩ := fun j => World.cell?_of_block (a := ⟨b, j, none⟩) (hk b hb hlt)
  rw [e, e, e]
  exact ⟨x, y, z⟩

theorem Rd.below {w w' : World} {B : Nat} {v : Value} {l : List L.Nd} (h : Rd w B v l) (hb : Below w.heap.size w w') : Rd w' B v l := h.kept fun b _ hl => hb.block b hl
theorem Rd.low {w w' : World} {B : Nat} {v : Value} {l : List L.Nd} (h : Rd w B v l) (hb : Below B w w') : Rd w' B v l := h.kept fun b hl _ => hb.block b hl
theorem Rd.grown {w w' : World} {B A : Nat} {v : Value} {l : List L.Nd} (h : Rd w B v l) (hg : w.grownBy w' (some A)) (hA : B ≤ A) : Rd w' B v l := h.kept fun b hl hs => hg.block b hs (by simp; omega)
theorem Rd.alloc {w : World} {B : Nat} {v : Value} {l : List L.Nd} (h : Rd w B v l) (o : Obj) : Rd (w.alloc o) B v l := h.below (below_new o)

theorem Rd.size {w : World} {B : Nat} {v : Value} {l : List L.Nd} (h : Rd w B v l) : Rd w w.heap.size v l := by
  obtain ⟨A, cap, hv, h1, h2, h3, hc⟩ := h
  refine ⟨A, cap, hv, h1, h2, h3, fun hn => ?_⟩
  obtain ⟨b, o, ha, hb, hx⟩ := hc hn
  have h0 : 0 < l.length := List.length_pos_iff.2 hn
  exact ⟨b, o, ha, cell_lt (hx 0 h0).1, hx⟩

/-- What is read may be appended to a row of the call's own. -/
theorem Rd.src {w : World} {B : Nat} {v : Value} {l : List L.Nd} (h : Rd w B v l) :
    (v = .slice none 0 0 ∧ l = []) ∨ ∃ a cap, v = .slice (some a) l.length cap ∧ ∀ j u, (cellsN l)[j]? = some u → w.cell? (a.add j) = some u := by
  obtain ⟨A, cap, rfl, h1, h2, h3, hc⟩ := h
  cases A with
  | none =>
    have h0 := h3 rfl
    subst h0
    have h4 : l = [] := List.eq_nil_of_length_eq_zero (by omega)
    subst h4
    exact Or.inl ⟨rfl, rfl⟩
  | some a =>
    refine Or.inr ⟨a, cap, rfl, fun j u hu => ?_⟩
    obtain ⟨i, hi, hh⟩ := cellsN_of hu
    obtain ⟨b, o, ha, _, hx⟩ := hc (by rintro rfl; simp at hi)
    injection ha with ha
    subst ha
    obtain ⟨x, y, z⟩ := hx i hi
    have e : ∀ j, (⟨b, o, none⟩ : Addr).add j = ⟨b, o + j, none⟩ := fun j => by unfold Addr.add; split <;> simp_all
    rw [e]
    rcases hh with ⟨rfl, rfl⟩ | ⟨rfl, rfl⟩ | ⟨rfl, rfl⟩
    · exact x
    · exact y
    · exact z

theorem infoNode : (Try.prog.info? 39).map (fun i => (i.zero, i.size, i.bytes)) = some (some (.agg #[.int .i64 0, .string ⟨#[]⟩, .int .i64 0]), 3, 32) := by kernel_rfl

end Go.Proofs.Ytkkigdbinnfbfaa
end

section
/-
  What is kept of a row of the call's own, of any type. No conditions but those that each lemma names.
-/
namespace Go.Proofs.Ytkkigdbinnfbfaa
open Go.RowKit

theorem row_below {B : Nat} {T : TypeId} {s n : Nat} {v : Value} {c : List Value} {w w' : World} (h : w.ownsRow B T s v n c) (hb : Below w.heap.size w w') : w'.ownsRow B T s v n c := by
  by_cases hv : v.ownBlock = none
  · exact h.kept (grown_of_below hb) (Or.inl hv)
  · exact h.kept (grown_of_below hb) (Or.inr hv)

/-- A row stays where a row of another type grows. -/
theorem row_aside {B B2 : Nat} {T T2 : TypeId} {s s2 n n2 : Nat} {v v2 : Value} {c c2 : List Value} {w w' : World} (h : w.ownsRow B T s v n c) (ho : w.ownsRow B2 T2 s2 v2 n2 c2) (hT : T ≠ T2) (hg : w.grownBy w' v2.ownBlock) : w'.ownsRow B T s v n c := by
  refine h.kept hg ?_
  rcases h.2 with ⟨hv, _⟩ | ⟨g, cap, cur, hv, _, hh, _⟩
  · left; rw [hv]; rfl
  · right
    rcases ho.2 with ⟨hv2, _⟩ | ⟨g2, cap2, cur2, hv2, _, hh2, _⟩
    · rw [hv, hv2]; simp [Value.ownBlock]
    · rw [hv, hv2]
      simp only [Value.ownBlock, ne_eq, Option.some.injEq]
      rintro rfl
      rw [hh] at hh2
      injection hh2 with hh2
      injection hh2 with _ h2
      exact hT h2

theorem row_more {B B' : Nat} {T : TypeId} {s n : Nat} {v : Value} {c : List Value} {w : World} (h : w.ownsRow B T s v n c) (hB : B' ≤ B) : w.ownsRow B' T s v n c :=
  ⟨h.1, h.2.imp id fun ⟨g, cp, cur, h1, h2, h3⟩ => ⟨g, cp, cur, h1, Nat.le_trans hB h2, h3⟩⟩

end Go.Proofs.Ytkkigdbinnfbfaa
end

section
/-
  The walks of ty.Same, with slices.EqualFunc, and of the reference's Same and One. Conditions: slices of at most 2^40 nodes.
-/
namespace Go.Proofs.Ytkkigdbinnfbfaa.L
open Go

/-- Are two nodes alike, but for a site? -/
def sameN (x y : Nd) : Bool := decide (x.kind = y.kind) && decide (x.name = y.name) && (decide (x.n = y.n) || decide (x.kind = 0))

/-- Are two rows of nodes alike, but for sites? -/
def sameL : List Nd → List Nd → Bool
  | [], [] => true
  | x :: a, y :: b => sameN x y && sameL a b
  | _, _ => false

theorem sameL_len {a b : List Nd} (h : sameL a b = true) : a.length = b.length := by
  induction a generalizing b with
  | nil => cases b <;> simp_all [sameL]
  | cons x a ih =>
    cases b with
    | nil => simp [sameL] at h
    | cons y b =>
      simp [sameL] at h
      simp [ih h.2]

/-- From place i on. -/
theorem sameL_step {a b : List Nd} {i : Nat} (ha : i < a.length) (hb : i < b.length) : sameL (a.drop i) (b.drop i) = (sameN a[i] b[i] && sameL (a.drop (i + 1)) (b.drop (i + 1))) := by
  rw [List.drop_eq_getElem_cons ha, List.drop_eq_getElem_cons hb, sameL]

theorem sameN_iff (x y : Nd) : sameN x y = true ↔ x.kind = y.kind ∧ x.name = y.name ∧ (x.n = y.n ∨ x.kind = 0) := by
  simp [sameN, and_assoc]

end Go.Proofs.Ytkkigdbinnfbfaa.L
namespace Go.Proofs.Ytkkigdbinnfbfaa
open Go.RowKit

theorem eqS (s t : ByteArray) : (s.toList == t.toList) = decide (s = t) := by
  rw [Bool.eq_iff_iff]
  simp only [beq_iff_eq, decide_eq_true_eq]
  constructor
  · intro h
    rw [Lib.toList_data, Lib.toList_data] at h
    exact ByteArray.ext (Array.toList_inj.1 h)
  · rintro rfl; rfl

end Go.Proofs.Ytkkigdbinnfbfaa
end

section
/-
  The walks of ty.Plain and ty.Static, with slices.ContainsFunc and IndexFunc, and of the reference's twins. No conditions but that the slice reads as nodes.
-/
namespace Go.Proofs.Ytkkigdbinnfbfaa.L
open Go

def varN (x : Nd) : Bool := decide (x.kind = 8) || decide (x.kind = 9)
def dynN (x : Nd) : Bool := decide (x.kind = 0)
def plainL (l : List Nd) : Bool := !(l.any varN)
def staticL (l : List Nd) : Bool := !(l.any dynN)

theorem any_step {p : Nd → Bool} {l : List Nd} {i : Nat} (h : i < l.length) : (l.drop i).any p = (p l[i] || (l.drop (i + 1)).any p) := by
  rw [List.drop_eq_getElem_cons h, List.any_cons]

end Go.Proofs.Ytkkigdbinnfbfaa.L
namespace Go.Proofs.Ytkkigdbinnfbfaa
open Go.RowKit

end Go.Proofs.Ytkkigdbinnfbfaa
end

section
/-
  The walks of the reference's Same and One, and of the statements' named. No conditions but that the slices read as nodes.
-/
namespace Go.Proofs.Ytkkigdbinnfbfaa.L
open Go

/-- Are all labels short, and not too many nodes? -/
def namedL (l : List Nd) : Bool := decide (l.length ≤ 200) && l.all fun x => decide (x.name.size ≤ 200)

theorem eq_step {a b : List Nd} {i : Nat} (ha : i < a.length) (hb : i < b.length) : decide (a.drop i = b.drop i) = (decide (a[i] = b[i]) && decide (a.drop (i + 1) = b.drop (i + 1))) := by
  rw [List.drop_eq_getElem_cons ha, List.drop_eq_getElem_cons hb, Bool.eq_iff_iff]
  simp only [decide_eq_true_eq, Bool.and_eq_true, List.cons.injEq]

end Go.Proofs.Ytkkigdbinnfbfaa.L
namespace Go.Proofs.Ytkkigdbinnfbfaa
open Go.RowKit

theorem below_drewN {B : Nat} {a w : World} (h : Below B a w) (n : Nat) : Below B a (w.drewN n) := ⟨h.os, h.tape, h.output, h.size, h.block⟩

set_option maxHeartbeats 4000000 in
set_option maxRecDepth 100000 in
theorem one_any (x y : List L.Nd) (vx vy : Value) (w : World) (hx : Rd w w.heap.size vx x) (hy : Rd w w.heap.size vy y) :
    Calls Try.prog 9 #[vx, vy] w fun e w' => e = .returned (.bool (decide (x = y))) ∧ Below w.heap.size w w' := by
  obtain ⟨A, cap, rfl, hl1, hl2, _, hcx⟩ := hx
  obtain ⟨A2, cap2, rfl, hm1, hm2, _, hcy⟩ := hy
  unfold maxLen at hl2 hm2
  have HCX := hid hcx
  have HCY := hid hcy
  clear hcx hcy
  by_cases hlen : x.length = y.length
  · go_enter Try.func9, Try.ntmps9
    rw [hlen]
    go_wp2
    go_loopw [5] (fun vi wr => ∃ k : Nat, vi = .int .i64 k ∧ k ≤ y.length ∧ Below w.heap.size w wr ∧ Hid (decide (x.drop k = y.drop k) = decide (x = y))) (fun vi _ => y.length - (intOf vi).toNat)
    case atStart => exact ⟨0, rfl, by omega, Below.refl _ _, hid rfl⟩
    case round =>
      obtain ⟨k, rfl, hk, hB, hS⟩ := hrel
      by_cases hlt : k < y.length
      · obtain ⟨b, o, hA, hb, hcx⟩ := HCX.out (by rintro rfl; simp at hlen; omega)
        obtain ⟨b2, o2, hA2, hb2, hcy⟩ := HCY.out (by rintro rfl; simp at hlt)
        obtain ⟨x0, x1, x2⟩ := hcx k (by omega)
        obtain ⟨y0, y1, y2⟩ := hcy k hlt
        have ex : ∀ j, wr.cell? ⟨b, j, none⟩ = w.cell? ⟨b, j, none⟩ := fun j => hB.cell (p := ⟨b, j, none⟩) hb
        have ey : ∀ j, wr.cell? ⟨b2, j, none⟩ = w.cell? ⟨b2, j, none⟩ := fun j => hB.cell (p := ⟨b2, j, none⟩) hb2
        rw [← ex] at x0 x1 x2
        rw [← ey] at y0 y1 y2
        subst hA hA2
        have hN : Hid (decide (x.drop k = y.drop k) = (decide (x[k] = y[k]) && decide (x.drop (k + 1) = y.drop (k + 1)))) := hid (L.eq_step (by omega) hlt)
        clear hcx hcy ex ey
        generalize x[k] = X at *
        generalize y[k] = Y at *
        obtain ⟨k1, s1, n1⟩ := X
        obtain ⟨k2, s2, n2⟩ := Y
        by_cases hne : (⟨k1, s1, n1⟩ : L.Nd) = ⟨k2, s2, n2⟩
        · injection hne with e1 e2 e3
          subst e1 e2 e3
          go_wp2
          go_quiet (fail)
          go_wp2
          go_roundw
          case rel =>
            refine ⟨k + 1, by go_num, by omega, below_drewN hB _, hid ?_⟩
            rw [← hS.out, hN.out]
            simp
          case measure => simp [intOf]; omega
        · have hz : Hid (decide (x = y) = false) := hid (by rw [← hS.out, hN.out]; simp [hne])
          have he := eqS s1 s2
          by_cases h1 : k1 = k2
          · by_cases h2 : s1 = s2
            · have e3 : (n1 == n2) = false := by simp; rintro rfl; exact hne (by rw [h1, h2])
              subst h1 h2
              clear he
              go_wp2
              go_quiet (fail)
              go_wp2
              go_ret
              exact ⟨ret_bool hz.out.symm, below_drewN hB _⟩
            · have e2 : (s1.toList == s2.toList) = false := by rw [he]; simp [h2]
              subst h1
              clear he
              go_wp2
              go_quiet (fail)
              go_wp2
              go_ret
              exact ⟨ret_bool hz.out.symm, below_drewN hB _⟩
          · have e1 : (k1 == k2) = false := by simp; omega
            clear he
            go_wp2
            go_quiet (fail)
            go_wp2
            go_ret
            exact ⟨ret_bool hz.out.symm, below_drewN hB _⟩
      · go_wp2
        go_ret
        refine ⟨ret_bool ?_, hB⟩
        rw [← hS.out, List.drop_eq_nil_of_le (by omega), List.drop_eq_nil_of_le (by omega)]
        rfl
  · go_enter Try.func9, Try.ntmps9
    have h2 : ((x.length : Int) != (y.length : Int)) = true := by simp; omega
    go_wp2
    go_ret
    refine ⟨ret_bool ?_, Below.refl _ _⟩
    symm
    simp
    rintro rfl
    exact hlen rfl

end Go.Proofs.Ytkkigdbinnfbfaa
end

section
/-
  The walk of the reference's Same. No conditions but that the slices read as nodes.
-/
namespace Go.Proofs.Ytkkigdbinnfbfaa
open Go.RowKit

end Go.Proofs.Ytkkigdbinnfbfaa
end

section
/-
  The walk of ty.Right, with the closure that visits a tree. Conditions: a slice that reads as nodes, labels of at most 2000000 bytes.
-/
namespace Go.Proofs.Ytkkigdbinnfbfaa.L
open Go

theorem n_small {x : Nd} (h : numbered x = true) (h0 : 0 < many x) : 0 ≤ x.n ∧ x.n ≤ 50 := by
  unfold numbered at h
  unfold many at h0
  repeat' split at h
  all_goals simp at h
  all_goals repeat' split at h0
  all_goals omega

end Go.Proofs.Ytkkigdbinnfbfaa.L
namespace Go.Proofs.Ytkkigdbinnfbfaa
open Go.RowKit Go.Sort

/-- What the closure stands on: the slice's box, the place's box, its own box. -/
structure VSt (l : List L.Nd) (v : Value) (g T A V p : Nat) (w : World) : Prop where
  t : w.heap[T]? = some (.cells #[v] 23 (0, 0))
  a : w.heap[A]? = some (.cells #[.int .i64 p] 3 (0, 0))
  f : w.heap[V]? = some (.cells #[.func (.func g) #[] #[.pointer (some ⟨T, 0, none⟩), .pointer (some ⟨A, 0, none⟩), .pointer (some ⟨V, 0, none⟩)]] 70 (0, 0))
  rd : Rd w A v l
  ta : T < A
  av : A < V

theorem VSt.keep {l : List L.Nd} {v : Value} {g T A V p q : Nat} {w w' : World} (h : VSt l v g T A V p w) (hg : w.grownBy w' (some A)) (ha : w'.heap[A]? = some (.cells #[.int .i64 q] 3 (0, 0))) : VSt l v g T A V q w' := by
  have hT := heap_lt h.t
  have hV := heap_lt h.f
  have := h.ta
  have := h.av
  exact ⟨(hg.block T hT (by simp; omega)).trans h.t, ha, (hg.block V hV (by simp; omega)).trans h.f, h.rd.grown hg (Nat.le_refl _), h.ta, h.av⟩

theorem Rd.at_slice {w : World} {B b o n cap : Nat} {l : List L.Nd} (h : Rd w B (.slice (some ⟨b, o, none⟩) n cap) l) (hn : l ≠ []) :
    ∀ (i : Nat) (h : i < l.length), w.cell? ⟨b, o + i * 3, none⟩ = some (.int .i64 l[i].kind) ∧ w.cell? ⟨b, o + i * 3 + 1, none⟩ = some (.string l[i].name) ∧ w.cell? ⟨b, o + i * 3 + 2, none⟩ = some (.int .i64 l[i].n) := by
  obtain ⟨A, c, hv, _, _, _, hc⟩ := h
  obtain ⟨b', o', hA, _, hx⟩ := hc hn
  rw [hA] at hv
  simp only [Value.slice.injEq, Option.some.injEq, Addr.mk.injEq] at hv
  obtain ⟨⟨rfl, rfl, _⟩, _⟩ := hv
  exact hx

theorem grown_refl (w : World) (r : Option Nat) : w.grownBy w r := ⟨rfl, rfl, rfl, Nat.le_refl _, fun _ _ _ => rfl⟩
theorem grown_trans {a b c : World} {A : Nat} (h : a.grownBy b (some A)) (k : b.grownBy c (some A)) : a.grownBy c (some A) :=
  ⟨k.os.trans h.os, k.tape.trans h.tape, k.output.trans h.output, Nat.le_trans h.size k.size, fun i hi hn => (k.block i (Nat.lt_of_lt_of_le hi h.size) hn).trans (h.block i hi hn)⟩
theorem grown_below {a b c : World} {A : Nat} (h : a.grownBy b (some A)) (k : Below b.heap.size b c) : a.grownBy c (some A) :=
  ⟨k.os.trans h.os, k.tape.trans h.tape, k.output.trans h.output, Nat.le_trans h.size k.size, fun i hi hn => (k.block i (Nat.lt_of_lt_of_le hi h.size)).trans (h.block i hi hn)⟩

set_option maxHeartbeats 2000000 in
set_option maxRecDepth 100000 in
theorem visit_any (l : List L.Nd) (hnm : ∀ x ∈ l, x.name.size ≤ 9223372036854775807) (v : Value) (T A V : Nat) (m : Nat) : ∀ (d p : Nat) (w : World), d + m = 101 → 1 ≤ d → p < l.length → VSt l v 51 T A V p w →
    Calls Try.prog 51 #[.int .i64 d, .pointer (some ⟨T, 0, none⟩), .pointer (some ⟨A, 0, none⟩), .pointer (some ⟨V, 0, none⟩)] w fun e w' =>
      e = .returned (.bool (L.visitF m (l.drop p)).isSome) ∧ w.grownBy w' (some A) ∧ ∀ r, L.visitF m (l.drop p) = some r → ∃ q : Nat, w'.heap[A]? = some (.cells #[.int .i64 q] 3 (0, 0)) ∧ q ≤ l.length ∧ l.drop q = r := by
  induction m with
  | zero =>
    intro d p w hd h1 hp hS
    obtain rfl : d = 101 := by omega
    obtain ⟨A0, cap, rfl, hl1, hl2, _, hcx⟩ := hS.rd
    obtain ⟨b, o, rfl, hb, hcx⟩ := hcx (by rintro rfl; simp at hp)
    obtain ⟨x0, x1, x2⟩ := hcx p hp
    have cT := Lib.cell_of_heap hS.t 0
    have cA := Lib.cell_of_heap hS.a 0
    unfold maxLen at hl2
    clear hS hcx hnm
    generalize l[p] = X at *
    obtain ⟨k1, s1, n1⟩ := X
    go_enter Try.func51, Try.ntmps51
    go_wp2
    go_ret
    exact ⟨rfl, World.grownBy_alloc _ _ _, fun r hr => by cases hr⟩
  | succ m ih =>
    intro d p w hd h1 hp hS
    have IH := hid ih
    have HS := hid hS
    obtain ⟨A0, cap, rfl, hl1, hl2, _, hcx⟩ := hS.rd
    obtain ⟨b, o, rfl, hb, hcx⟩ := hcx (by rintro rfl; simp at hp)
    obtain ⟨x0, x1, x2⟩ := hcx p hp
    have HC := hid hcx
    have cT := Lib.cell_of_heap hS.t 0
    have cA := Lib.cell_of_heap hS.a 0
    unfold maxLen at hl2
    have hdr : Hid (l.drop p = l[p] :: l.drop (p + 1)) := hid (List.drop_eq_getElem_cons hp)
    have hAt := heap_lt hS.a
    have fA : w.frozen? ⟨A, 0, none⟩ = false := Lib.frozen_of_heap hS.a 0
    have HNM := hid hnm
    clear hS hcx hnm ih
    generalize l[p] = X at *
    obtain ⟨k1, s1, n1⟩ := X
    have hd2 : d ≤ 100 := by omega
    have hnew : Hid (∀ w1 : World, Below (w.alloc (.cells #[.int .i64 k1, .string s1, .int .i64 n1] 39)).heap.size (w.alloc (.cells #[.int .i64 k1, .string s1, .int .i64 n1] 39)) w1 →
        w.grownBy w1 (some A) ∧ w1.heap[w.heap.size]? = some (.cells #[.int .i64 k1, .string s1, .int .i64 n1] 39 (0, 0)) ∧ w1.heap[A]? = some (.cells #[.int .i64 p] 3 (0, 0)) ∧ w.heap.size < w1.heap.size) := hid fun w1 hb1 =>
      ⟨grown_below (World.grownBy_alloc w _ _) hb1, (hb1.block _ (by simp)).trans (heap_alloc_new w _), (hb1.block _ (by simp; omega)).trans ((heap_alloc_old w _ hAt).trans HS.out.a), by have := hb1.size; simp at this; omega⟩
    by_cases hnum : L.numbered ⟨k1, s1, n1⟩ = true
    · have hu := numbered_any k1 n1 s1
      simp only [hnum] at hu
      have HU := hid hu
      have hV : Hid (L.visitF (m + 1) (l.drop p) = L.kidsF (L.visitF m) ⟨k1, s1, n1⟩ (L.many ⟨k1, s1, n1⟩).toNat 0 ⟨#[]⟩ (l.drop (p + 1))) := hid (by rw [hdr.out, L.visitF, if_pos hnum])
      have hmany := L.many_of_numbered hnum
      obtain ⟨c, hc⟩ : ∃ c : Nat, L.many ⟨k1, s1, n1⟩ = c := ⟨(L.many ⟨k1, s1, n1⟩).toNat, by omega⟩
      have hmn := many_any k1 n1 s1
      rw [hc] at hmn hV hmany
      have HM := hid hmn
      have hns : 0 < c → 0 ≤ n1 ∧ n1 ≤ 50 := fun h0 => L.n_small hnum (by rw [hc]; omega)
      have HNS := hid hns
      clear hu hnum hmn hns
      go_enter Try.func51, Try.ntmps51
      go_wp2_with fail
      refine (HU.out _).mono ?_
      rintro e w1 ⟨rfl, hb1⟩
      obtain ⟨hg1, hN1, hA1, hz1⟩ := hnew.out w1 hb1
      have cA1 := Lib.cell_of_heap hA1 0
      have fA1 : w1.frozen? ⟨A, 0, none⟩ = false := Lib.frozen_of_heap hA1 0
      have cN0 := Lib.cell_of_heap hN1 0
      have cN1 := Lib.cell_of_heap hN1 1
      have cN2 := Lib.cell_of_heap hN1 2
      simp only [List.getElem?_toArray] at cN0 cN1 cN2
      have hne : A ≠ w.heap.size := by omega
      have hne2 : w.heap.size ≠ A := by omega
      clear fA cA cT x0 x1 x2
      go_wp2_with fail
      refine (HM.out _).mono ?_
      rintro e w2 ⟨rfl, hb2⟩
      have hg2 : w.grownBy w2 (some A) := by
        refine grown_below (grown_trans hg1 ?_) hb2
        exact ⟨rfl, rfl, rfl, by simp, fun i hi hn => heap_setCell_other w1 ⟨A, 0, none⟩ i _ (fun h => hn (by rw [h]))⟩
      have hA2 : w2.heap[A]? = some (.cells #[.int .i64 ((p + 1 : Nat) : Int)] 3 (0, 0)) := (hb2.block A (by simp; omega)).trans (heap_setCell_same w1 A 0 _ _ _ hA1)
      have hN2 : w2.heap[w.heap.size]? = some (.cells #[.int .i64 k1, .string s1, .int .i64 n1] 39 (0, 0)) := (hb2.block _ (by simp; omega)).trans ((heap_setCell_other w1 _ _ _ (by simp; omega)).trans hN1)
      have HS2 : Hid (VSt l (.slice (some ⟨b, o, none⟩) l.length cap) 51 T A V (p + 1) w2) := hid (HS.out.keep hg2 hA2)
      clear hb2 hb1 hg1 hN1 hA1 cA1 fA1 cN0 cN1 cN2
      go_wp2
      go_loopw [7, 24] (fun v7 v24 wr => ∃ (k q : Nat) (bf : ByteArray), v7 = .string bf ∧ v24 = .int .i64 k ∧ k ≤ c ∧ q ≤ l.length ∧ VSt l (.slice (some ⟨b, o, none⟩) l.length cap) 51 T A V q wr ∧ w.grownBy wr (some A) ∧ wr.heap[w.heap.size]? = some (.cells #[.int .i64 k1, .string s1, .int .i64 n1] 39 (0, 0)) ∧
        Hid (L.kidsF (L.visitF m) ⟨k1, s1, n1⟩ (c - k) k bf (l.drop q) = L.visitF (m + 1) (l.drop p))) (fun _ v24 _ => c - (intOf v24).toNat)
      case atStart => exact ⟨0, p + 1, _, rfl, rfl, by omega, by omega, HS2.out, hg2, hN2, hid (by rw [hV.out]; rfl)⟩
      case round =>
        obtain ⟨k, q, bf, rfl, rfl, hk, hq, hS, hg, hN, hK⟩ := hrel
        have hN0 := Lib.cell_of_heap hN 0
        have hN1 := Lib.cell_of_heap hN 1
        have hN2 := Lib.cell_of_heap hN 2
        simp only [List.getElem?_toArray] at hN0 hN1 hN2
        have cT := Lib.cell_of_heap hS.t 0
        have cA := Lib.cell_of_heap hS.a 0
        have cV := Lib.cell_of_heap hS.f 0
        have hza := heap_lt hS.a
        have HSR := hid hS
        have HR := hid hS.rd
        by_cases hkc : k < c
        · obtain ⟨c', hc'⟩ : ∃ c', c - k = c' + 1 := ⟨c - k - 1, by omega⟩
          rw [hc'] at hK
          by_cases hql : q = l.length
          · subst hql
            have hz : Hid (L.visitF (m + 1) (l.drop p) = none) := hid (by rw [← hK.out, List.drop_length, L.kidsF])
            go_wp2
            have kT := cell_regrown cT
            have kA := cell_regrown cA
            clear cT cA cV hN0 hN1 hN2 hS hK
            refine wp_region_quiet_below (by kernel_rfl) (by kernel_rfl) ?_
            repeat (go_big_quiet_step (fail))
            refine wpQuiet_nil ?_
            intro _ hw'
            obtain ⟨⟨nq, osq⟩, hw''⟩ := hw'
            subst hw''
            have hB3 := below_regrown wr nq osq
            go_wp2
            go_ret
            exact ⟨ret_bool (by rw [hz.out]; rfl), grown_below hg hB3, fun r hr => by rw [hz.out] at hr; cases hr⟩
          · have hq2 : q < l.length := by omega
            have hcy := hS.rd.at_slice (by rintro rfl; simp at hq2)
            obtain ⟨y0, y1, y2⟩ := hcy q hq2
            have hsy : l[q].name.size ≤ 9223372036854775807 := HNM.out _ (List.getElem_mem hq2)
            have hdq : Hid (l.drop q = l[q] :: l.drop (q + 1)) := hid (List.drop_eq_getElem_cons hq2)
            clear hcy
            generalize l[q] = Y at *
            obtain ⟨k2, s2, n2⟩ := Y
            have hn : -9223372036854775807 ≤ n1 ∧ n1 ≤ 9223372036854775807 := by have := HNS.out (by omega); omega
            have hql2 : ((q : Int) == (l.length : Int)) = false := by simp; omega
            have hms := fun W => mayStand_any k1 n1 k k2 n2 s1 bf s2 hsy hn W
            cases hmay : L.mayStand ⟨k1, s1, n1⟩ k bf ⟨k2, s2, n2⟩ with
            | false =>
              simp only [hmay] at hms
              have cM := fun d os => Calls.regrown_of (hms (grow (redrawn wr d) os))
              have CM := hid cM
              have hz : Hid (L.visitF (m + 1) (l.drop p) = none) := hid (by rw [← hK.out, hdq.out, L.kidsF, if_neg (by rw [hmay]; simp)])
              go_wp2
              have kT := cell_regrown cT
              have kA := cell_regrown cA
              have kN0 := cell_regrown hN0
              have kN1 := cell_regrown hN1
              have kN2 := cell_regrown hN2
              have ky0 := cell_regrown y0
              have ky1 := cell_regrown y1
              have ky2 := cell_regrown y2
              clear cT cA cV hN0 hN1 hN2 hS hK hms cM y0 y1 y2
              refine wp_region_quiet_below (by kernel_rfl) (by kernel_rfl) ?_
              repeat (go_big_quiet_step (exact CM.out _ _))
              refine wpQuiet_nil ?_
              intro _ hw'
              obtain ⟨⟨nq, osq⟩, hw''⟩ := hw'
              subst hw''
              have hB3 := below_regrown wr nq osq
              go_wp2
              go_ret
              exact ⟨ret_bool (by rw [hz.out]; rfl), grown_below hg hB3, fun r hr => by rw [hz.out] at hr; cases hr⟩
            | true =>
              simp only [hmay] at hms
              have cM := fun d os => Calls.regrown_of (hms (grow (redrawn wr d) os))
              have CM := hid cM
              have hz : Hid (L.visitF (m + 1) (l.drop p) = (L.visitF m (l.drop q)).bind (L.kidsF (L.visitF m) ⟨k1, s1, n1⟩ c' (k + 1) s2)) := hid (by rw [← hK.out, hdq.out, L.kidsF, if_pos hmay])
              go_wp2
              have kT := cell_regrown cT
              have kA := cell_regrown cA
              have kN0 := cell_regrown hN0
              have kN1 := cell_regrown hN1
              have kN2 := cell_regrown hN2
              have ky0 := cell_regrown y0
              have ky1 := cell_regrown y1
              have ky2 := cell_regrown y2
              clear cT cA cV hN0 hN1 hN2 hS hK hms cM y0 y1 y2
              refine wp_region_quiet_below (by kernel_rfl) (by kernel_rfl) ?_
              repeat (go_big_quiet_step (exact CM.out _ _))
              refine wpQuiet_nil ?_
              intro _ hw'
              obtain ⟨⟨nq, osq⟩, hw''⟩ := hw'
              subst hw''
              have hB3 := below_regrown wr nq osq
              have hg3 := grown_below hg hB3
              have hS3 := HSR.out.keep (grown_of_below hB3 |> fun h => ⟨h.os, h.tape, h.output, h.size, fun i hi _ => h.block i hi (by simp)⟩) ((hB3.block A hza).trans HSR.out.a)
              have hN3 := (hB3.block _ (heap_lt hN)).trans hN
              have jT := kT nq osq
              have jA := kA nq osq
              have jy1 := ky1 nq osq
              have jV := cell_regrown (Lib.cell_of_heap HSR.out.f 0) nq osq
              clear kT kA kN0 kN1 kN2 ky0 ky1 ky2 hB3
              generalize grow (redrawn wr nq) osq = w3 at *
              have hi := IH.out (d + 1) q w3 (by omega) (by omega) hq2 hS3
              cases hvis : L.visitF m (l.drop q) with
              | none =>
                rw [hvis] at hi
                have HI := hid hi
                have hz2 : Hid (L.visitF (m + 1) (l.drop p) = none) := hid (by rw [hz.out, hvis]; rfl)
                clear hi
                go_wp2_with fail
                refine (HI.out).mono ?_
                rintro e w4 ⟨rfl, hg4, -⟩
                go_wp2
                go_ret
                exact ⟨ret_bool (by rw [hz2.out]; rfl), grown_trans hg3 hg4, fun r hr => by rw [hz2.out] at hr; cases hr⟩
              | some r =>
                rw [hvis] at hi
                have HI := hid hi
                have hz2 : Hid (L.visitF (m + 1) (l.drop p) = L.kidsF (L.visitF m) ⟨k1, s1, n1⟩ c' (k + 1) s2 r) := hid (by rw [hz.out, hvis]; rfl)
                clear hi
                go_wp2_with fail
                refine (HI.out).mono ?_
                rintro e w4 ⟨rfl, hg4, hr4⟩
                obtain ⟨q', hA4, hq', hdr'⟩ := hr4 r rfl
                go_wp2
                go_roundw
                case rel =>
                  refine ⟨k + 1, q', s2, rfl, by go_num, by omega, hq', hS3.keep hg4 hA4, grown_trans hg3 hg4, (hg4.block _ (heap_lt hN3) (by simp; omega)).trans hN3, hid ?_⟩
                  rw [hz2.out, show c - (k + 1) = c' by omega, hdr']
                case measure => simp [intOf]; omega
        · obtain rfl : k = c := by omega
          go_wp2
          go_ret
          rw [Nat.sub_self, L.kidsF] at hK
          refine ⟨ret_bool (by rw [← hK.out]; rfl), hg, fun r hr => ?_⟩
          rw [← hK.out] at hr
          exact ⟨q, HSR.out.a, hq, Option.some.inj hr⟩
    · have hu := numbered_any k1 n1 s1
      have hnf : L.numbered ⟨k1, s1, n1⟩ = false := by simpa using hnum
      simp only [hnf] at hu
      have HU := hid hu
      have hV : Hid (L.visitF (m + 1) (l.drop p) = none) := hid (by rw [hdr.out, L.visitF, if_neg hnum])
      clear hu hnum hnf
      go_enter Try.func51, Try.ntmps51
      go_wp2_with fail
      refine (HU.out _).mono ?_
      rintro e w1 ⟨rfl, hb1⟩
      obtain ⟨hg1, -⟩ := hnew.out w1 hb1
      go_wp2
      go_ret
      exact ⟨ret_bool (by rw [hV.out]; rfl), hg1, fun r hr => by rw [hV.out] at hr; cases hr⟩

set_option maxHeartbeats 4000000 in
set_option maxRecDepth 100000 in
theorem right_any (l : List L.Nd) (hnm : ∀ x ∈ l, x.name.size ≤ 9223372036854775807) (v : Value) (w : World) (hx : Rd w w.heap.size v l) :
    Calls Try.prog 25 #[v] w fun e w' => e = .returned (.bool (L.rightL l)) ∧ Below w.heap.size w w' := by
  have HX := hid hx
  obtain ⟨A, cap, rfl, hl1, hl2, _, hcx⟩ := hx
  unfold maxLen at hl2
  have HCX := hid hcx
  have HNM := hid hnm
  clear hcx hnm
  by_cases h0 : l = []
  · subst h0
    go_enter Try.func25, Try.ntmps25
    go_wp2
    go_ret
    exact ⟨rfl, below_new _⟩
  have hpos : 0 < l.length := List.length_pos_iff.2 h0
  have e0 : ((l.length : Int) == 0) = false := by simp; omega
  by_cases hbig : 10000 < l.length
  · go_enter Try.func25, Try.ntmps25
    go_wp2
    go_ret
    refine ⟨ret_bool ?_, below_new _⟩
    cases l with
    | nil => exact absurd rfl h0
    | cons x r =>
      symm
      simp only [L.rightL, Bool.and_eq_false_iff]
      exact Or.inl (Or.inl (by simp at hbig ⊢; omega))
  obtain ⟨b, o, rfl, hb, hcx⟩ := HCX.out h0
  obtain ⟨x0, x1, x2⟩ := hcx 0 hpos
  have hl0 : ∃ r, l = l[0] :: r := by
    cases l with
    | nil => exact absurd rfl h0
    | cons x r => exact ⟨r, rfl⟩
  have hbig2 : l.length ≤ 10000 := by omega
  clear hcx
  have HL0 := hid hl0
  clear hl0
  simp only [Nat.zero_mul, Nat.add_zero] at x0 x1 x2
  generalize l[0] = X at *
  obtain ⟨k1, s1, n1⟩ := X
  have hba := bare_any k1 n1 s1
  cases hbare : L.bare ⟨k1, s1, n1⟩ with
  | false =>
    simp only [hbare] at hba
    have HB := hid hba
    have hz : Hid (L.rightL l = false) := hid (by obtain ⟨r, hr⟩ := HL0.out; rw [hr, L.rightL, hbare]; simp)
    clear hba hbare
    go_enter Try.func25, Try.ntmps25
    go_wp2_with fail
    refine (HB.out _).mono ?_
    rintro e w1 ⟨rfl, hb1⟩
    go_wp2
    go_ret
    exact ⟨ret_bool hz.out.symm, (below_new _).trans (hb1.mono (by simp))⟩
  | true =>
    simp only [hbare] at hba
    have HB := hid hba
    have hz : Hid (L.rightL l = decide (L.visitF 100 (l.drop 0) = some [])) := hid (by
      obtain ⟨r, hr⟩ := HL0.out
      rw [hr] at hbig2 ⊢
      rw [L.rightL, hbare, List.drop_zero]
      simp only [hbig2, decide_true, Bool.true_and])
    clear hba hbare
    go_enter Try.func25, Try.ntmps25
    go_wp2_with fail
    refine (HB.out _).mono ?_
    rintro e w1 ⟨rfl, hb1⟩
    have hw1 : Below w.heap.size w w1 := (below_new _).trans (hb1.mono (by simp))
    have hT1 : w1.heap[w.heap.size]? = some (.cells #[.slice (some ⟨b, o, none⟩) l.length cap] 23 (0, 0)) := (hb1.block _ (by simp)).trans (heap_alloc_new w _)
    have HT1 := hid hT1
    have c1 := Lib.cell_of_heap hT1 0
    have hz1 := heap_lt hT1
    clear hT1
    have hne : w.heap.size ≠ w1.heap.size := by omega
    have hne1 : w.heap.size ≠ w1.heap.size + 1 := by omega
    go_wp2_with fail
    have hS : VSt l (.slice (some ⟨b, o, none⟩) l.length cap) 51 w.heap.size w1.heap.size (w1.heap.size + 1) 0 ((w1.alloc (.cells #[.int .i64 ((0 : Nat) : Int)] 3)).alloc (.cells #[.func (.func 51) #[] #[.pointer (some ⟨w.heap.size, 0, none⟩), .pointer (some ⟨w1.heap.size, 0, none⟩), .pointer (some ⟨w1.heap.size + 1, 0, none⟩)]] 70)) := by
      refine ⟨?_, ?_, ?_, ?_, hz1, by omega⟩
      · rw [Lib.alloc_old _ _ _ (by simp; omega), Lib.alloc_old _ _ _ hz1]; exact HT1.out
      · rw [Lib.alloc_old _ _ _ (by simp)]; exact heap_alloc_new w1 _
      · have := heap_alloc_new (w1.alloc (.cells #[.int .i64 ((0 : Nat) : Int)] 3)) (.cells #[.func (.func 51) #[] #[.pointer (some ⟨w.heap.size, 0, none⟩), .pointer (some ⟨w1.heap.size, 0, none⟩), .pointer (some ⟨w1.heap.size + 1, 0, none⟩)]] 70)
        simpa using this
      · exact (((HX.out.mono hw1.size).below hw1).alloc _).alloc _
    refine (visit_any l HNM.out _ _ _ _ 100 1 0 _ (by omega) (by omega) hpos hS).mono ?_
    rintro e w2 ⟨rfl, hg2, hr2⟩
    have hB2 : Below w.heap.size w w2 := by
      refine hw1.trans ⟨hg2.os, hg2.tape, hg2.output, by have := hg2.size; simp at this; omega, fun k hk => ?_⟩
      rw [hg2.block k (by simp; omega) (by simp; omega), Lib.alloc_old _ _ _ (by simp; omega), Lib.alloc_old _ _ _ (by omega)]
    have hT2 := (hg2.block w.heap.size (by simp; omega) (by simp; omega)).trans hS.t
    have cT2 := Lib.cell_of_heap hT2 0
    cases hv : L.visitF 100 (l.drop 0) with
    | none =>
      rw [hv] at hz
      go_wp2
      go_ret
      exact ⟨ret_bool (by rw [hz.out]; rfl), hB2⟩
    | some r =>
      rw [hv] at hz
      obtain ⟨q, hA2, hq, hdq⟩ := hr2 r hv
      have cA2 := Lib.cell_of_heap hA2 0
      go_wp2
      go_ret
      refine ⟨ret_bool ?_, hB2⟩
      rw [hz.out, ← hdq, Bool.eq_iff_iff]
      simp
      omega

end Go.Proofs.Ytkkigdbinnfbfaa
end
