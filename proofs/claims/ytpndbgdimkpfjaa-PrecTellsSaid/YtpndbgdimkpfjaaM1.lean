/-
  The texts GlyM, TyW, TyM, TyF, TyO, TyRo, TyS, TyP, TyT, TyU, TyR, one behind the other. Conditions: those that each of them names.
-/
import Derived.Lib.RuneBytes
import Derived.Laws.RangeAny
import Derived.Lib.Strings
import Derived.Test.YtpndbgdimkpfjaaShelf
import Derived.WalkKit
import Derived.WalkSpells
import Derived.WalkLawsBesides
import Derived.Laws.OwnMore
import Derived.Laws.AppendOwnNone
import Derived.BigQuiet
import Derived.RegionTactic
import Derived.ChangeAlike
import Derived.Lib.QuietBelow
import Derived.Laws.EntriesVeiled
section
/-
  Plain lists of bytes, no program: what a rune at a list's head is and how long it is, what quoting, unquoting, places and words come to. No conditions but those that each lemma names.
-/
namespace Go.Proofs.Ytpndbgdimkpfjaa.G
open Go

def at0 (l : List UInt8) (k : Nat) : Nat := (l.getD k 0).toNat
def contL (l : List UInt8) (k a b : Nat) : Bool := decide (k < l.length) && (decide (a ≤ at0 l k) && decide (at0 l k ≤ b))

/-- How many bytes the rune at the head has; 0: the first byte is part of none. -/
def longL (l : List UInt8) : Nat :=
  if at0 l 0 < 128 then 1
  else if (decide (194 ≤ at0 l 0) && decide (at0 l 0 ≤ 223)) && contL l 1 128 191 then 2
  else if (decide (224 ≤ at0 l 0) && decide (at0 l 0 ≤ 239)) && contL l 1 (if at0 l 0 = 224 then 160 else 128) (if at0 l 0 = 237 then 159 else 191) && contL l 2 128 191 then 3
  else if (decide (240 ≤ at0 l 0) && decide (at0 l 0 ≤ 244)) && contL l 1 (if at0 l 0 = 240 then 144 else 128) (if at0 l 0 = 244 then 143 else 191) && contL l 2 128 191 && contL l 3 128 191 then 4
  else 0

/-- The rune at the head and its width, as a range over a string sees it. -/
def runeL (l : List UInt8) : Nat × Nat :=
  let cont (k : Nat) : Bool := decide (k < l.length) && at0 l k / 64 == 2
  if at0 l 0 < 0x80 then (at0 l 0, 1)
  else if at0 l 0 / 32 == 6 && cont 1 then
    let c := (at0 l 0 % 32) * 64 + at0 l 1 % 64
    if c ≥ 0x80 then (c, 2) else (Utf8.runeError, 1)
  else if at0 l 0 / 16 == 14 && cont 1 && cont 2 then
    let c := (at0 l 0 % 16) * 4096 + (at0 l 1 % 64) * 64 + at0 l 2 % 64
    if c ≥ 0x800 && Utf8.valid c then (c, 3) else (Utf8.runeError, 1)
  else if at0 l 0 / 8 == 30 && cont 1 && cont 2 && cont 3 then
    let c := (at0 l 0 % 8) * 262144 + (at0 l 1 % 64) * 4096 + (at0 l 2 % 64) * 64 + at0 l 3 % 64
    if c ≥ 0x10000 && Utf8.valid c then (c, 4) else (Utf8.runeError, 1)
  else (Utf8.runeError, 1)

theorem get_drop (s : ByteArray) (i k : Nat) : (s.get! (i + k)).toNat = at0 (s.data.toList.drop i) k := by
  unfold at0
  by_cases h : i + k < s.size
  · have h2 : i + k < s.data.toList.length := by simpa using h
    have : s.get! (i + k) = s.data.toList[i + k] := by
      simp [ByteArray.get!, getElem!_pos, h]
    rw [this, List.getD_eq_getElem?_getD, List.getElem?_drop, List.getElem?_eq_getElem h2]
    rfl
  · have h2 : s.data.toList.length ≤ i + k := by simpa using h
    have : s.get! (i + k) = 0 := by
      have h3 : ¬ i + k < s.data.size := by simpa using h
      show s.data[i + k]! = 0
      rw [getElem!_neg s.data (i + k) h3]
      rfl
    rw [this, List.getD_eq_getElem?_getD, List.getElem?_drop, List.getElem?_eq_none h2]
    rfl

theorem decode_eq (s : ByteArray) (i : Nat) : Utf8.decode s i = runeL (s.data.toList.drop i) := by
  have hl : ∀ k, (decide (i + k < s.size)) = decide (k < (s.data.toList.drop i).length) := by
    intro k
    have : (s.data.toList.drop i).length = s.size - i := by simp
    rw [this]
    congr 1
    apply propext
    constructor <;> intro h <;> omega
  simp only [Utf8.decode, runeL, get_drop, hl]

theorem at0_lt (l : List UInt8) (k : Nat) : at0 l k < 256 := UInt8.toNat_lt _

/-- The bytes that stand for a number. -/
theorem u8_of (c : UInt8) (x : Int) (h : x = c.toNat) : x.toNat.toUInt8 = c := by
  subst h
  simp

theorem take_getD (l : List UInt8) (n : Nat) (h : n ≤ l.length) : l.take n = (List.range n).map (fun k => l.getD k 0) := by
  apply List.ext_getElem
  · simp [h]
  · intro i h1 h2
    simp at h1 h2
    simp [List.getElem?_eq_getElem (show i < l.length by omega)]

theorem valid_iff (c : Nat) : Utf8.valid c = decide (c < 55296 ∨ (57344 ≤ c ∧ c ≤ 1114111)) := by
  unfold Utf8.valid
  by_cases h : c < 55296 ∨ (57344 ≤ c ∧ c ≤ 1114111)
  · rw [decide_eq_true h]; rcases h with h | h <;> simp <;> omega
  · rw [decide_eq_false h]; simp; omega

/-- What a range sees is what the bytes say: no rune: U+FFFD of one byte; else the rune's own bytes. -/
theorem rune_long (l : List UInt8) (hl : l ≠ []) :
    (longL l = 0 ∧ runeL l = (65533, 1) ∧ 128 ≤ at0 l 0) ∨
    (1 ≤ longL l ∧ longL l ≤ l.length ∧ longL l ≤ 4 ∧ (runeL l).2 = longL l ∧ Lib.encodeRune ((runeL l).1 : Int) = l.take (longL l) ∧
      ((at0 l 0 < 128 ∧ longL l = 1 ∧ (runeL l).1 = at0 l 0) ∨ (128 ≤ at0 l 0 ∧ 2 ≤ longL l ∧ 128 ≤ (runeL l).1))) := by
  have hlen : 0 < l.length := List.length_pos_iff.mpr hl
  have b0 := at0_lt l 0; have b1 := at0_lt l 1; have b2 := at0_lt l 2; have b3 := at0_lt l 3
  have u : ∀ k (x : Int), x = at0 l k → x.toNat.toUInt8 = l.getD k 0 := fun k x h => u8_of _ _ h
  by_cases c1 : at0 l 0 < 128
  · right
    have e1 : longL l = 1 := by simp [longL, c1]
    have e2 : runeL l = (at0 l 0, 1) := by simp [runeL, c1]
    rw [e1, e2]
    refine ⟨by omega, by omega, by omega, rfl, ?_, Or.inl ⟨c1, rfl, rfl⟩⟩
    rw [take_getD l 1 (by omega)]
    simp only [Lib.encodeRune, Lib.encodeRuneZ_one (r := (at0 l 0 : Int)) (by omega) (by omega)]
    simp [List.range_succ, at0]
  by_cases c2 : 194 ≤ at0 l 0 ∧ at0 l 0 ≤ 223 ∧ 1 < l.length ∧ 128 ≤ at0 l 1 ∧ at0 l 1 ≤ 191
  · right
    obtain ⟨h1, h2, h3, h4, h5⟩ := c2
    have e1 : longL l = 2 := by simp [longL, contL, c1, h1, h2, h3, h4, h5]
    have e2 : runeL l = ((at0 l 0 % 32) * 64 + at0 l 1 % 64, 2) := by
      have a1 : at0 l 0 / 32 = 6 := by omega
      have a2 : at0 l 1 / 64 = 2 := by omega
      have a3 : 128 ≤ (at0 l 0 % 32) * 64 + at0 l 1 % 64 := by omega
      simp [runeL, c1, a1, a2, a3, h3]
    rw [e1, e2]
    refine ⟨by omega, by omega, by omega, rfl, ?_, Or.inr ⟨by omega, by omega, by show 128 ≤ (at0 l 0 % 32) * 64 + at0 l 1 % 64; omega⟩⟩
    rw [take_getD l 2 (by omega)]
    simp only [Lib.encodeRune, Lib.encodeRuneZ_two (r := (((at0 l 0 % 32) * 64 + at0 l 1 % 64 : Nat) : Int)) (by omega) (by omega)]
    simp only [List.map_cons, List.map_nil, List.range_succ, List.range_zero, List.nil_append, List.cons_append]
    rw [u 0 _ (by omega), u 1 _ (by omega)]
  by_cases c3 : 224 ≤ at0 l 0 ∧ at0 l 0 ≤ 239 ∧ 1 < l.length ∧ (if at0 l 0 = 224 then 160 else 128) ≤ at0 l 1 ∧ at0 l 1 ≤ (if at0 l 0 = 237 then 159 else 191) ∧ 2 < l.length ∧ 128 ≤ at0 l 2 ∧ at0 l 2 ≤ 191
  · right
    obtain ⟨h1, h2, h3, h4, h5, h6, h7, h8⟩ := c3
    have n2 : ¬ at0 l 0 ≤ 223 := by omega
    have e1 : longL l = 3 := by
      unfold longL
      rw [if_neg c1, if_neg (by simp; omega), if_pos (by simp [contL, h1, h2, h3, h4, h5, h6, h7, h8])]
    have e2 : runeL l = ((at0 l 0 % 16) * 4096 + (at0 l 1 % 64) * 64 + at0 l 2 % 64, 3) := by
      have a1 : at0 l 0 / 32 ≠ 6 := by omega
      have a0 : at0 l 0 / 16 = 14 := by omega
      have a2 : at0 l 1 / 64 = 2 := by split at h4 <;> split at h5 <;> omega
      have a4 : at0 l 2 / 64 = 2 := by omega
      have a3 : 2048 ≤ (at0 l 0 % 16) * 4096 + (at0 l 1 % 64) * 64 + at0 l 2 % 64 := by split at h4 <;> split at h5 <;> omega
      have a5 : Utf8.valid (((at0 l 0 % 16) * 4096 + (at0 l 1 % 64) * 64 + at0 l 2 % 64 : Nat) : Int) = true := by
        rw [valid_iff]
        apply decide_eq_true
        split at h4 <;> split at h5 <;> omega
      unfold runeL
      simp only
      rw [if_neg c1, if_neg (by simp [a1]), if_pos (by simp [a0, a2, a4, h3, h6]), if_pos (by rw [a5]; simp [a3])]
    rw [e1, e2]
    have hr : (2048 ≤ (((at0 l 0 % 16) * 4096 + (at0 l 1 % 64) * 64 + at0 l 2 % 64 : Nat) : Int) ∧ (((at0 l 0 % 16) * 4096 + (at0 l 1 % 64) * 64 + at0 l 2 % 64 : Nat) : Int) < 55296) ∨ (57343 < (((at0 l 0 % 16) * 4096 + (at0 l 1 % 64) * 64 + at0 l 2 % 64 : Nat) : Int) ∧ (((at0 l 0 % 16) * 4096 + (at0 l 1 % 64) * 64 + at0 l 2 % 64 : Nat) : Int) ≤ 65535) := by
      split at h4 <;> split at h5 <;> omega
    have g1 : 128 ≤ at0 l 1 ∧ at0 l 1 ≤ 191 := by split at h4 <;> split at h5 <;> omega
    refine ⟨by omega, by omega, by omega, rfl, ?_, Or.inr ⟨by omega, by omega, by show 128 ≤ (at0 l 0 % 16) * 4096 + (at0 l 1 % 64) * 64 + at0 l 2 % 64; omega⟩⟩
    rw [take_getD l 3 (by omega)]
    simp only [Lib.encodeRune, Lib.encodeRuneZ_three hr]
    simp only [List.map_cons, List.map_nil, List.range_succ, List.range_zero, List.nil_append, List.cons_append]
    rw [u 0 _ (by omega), u 1 _ (by omega), u 2 _ (by omega)]
  by_cases c4 : 240 ≤ at0 l 0 ∧ at0 l 0 ≤ 244 ∧ 1 < l.length ∧ (if at0 l 0 = 240 then 144 else 128) ≤ at0 l 1 ∧ at0 l 1 ≤ (if at0 l 0 = 244 then 143 else 191) ∧ 2 < l.length ∧ 128 ≤ at0 l 2 ∧ at0 l 2 ≤ 191 ∧ 3 < l.length ∧ 128 ≤ at0 l 3 ∧ at0 l 3 ≤ 191
  · right
    obtain ⟨h1, h2, h3, h4, h5, h6, h7, h8, h9, h10, h11⟩ := c4
    have e1 : longL l = 4 := by
      unfold longL
      rw [if_neg c1, if_neg (by simp; omega), if_neg (by simp; omega), if_pos (by simp [contL, h1, h2, h3, h4, h5, h6, h7, h8, h9, h10, h11])]
    have g1 : 128 ≤ at0 l 1 ∧ at0 l 1 ≤ 191 := by split at h4 <;> split at h5 <;> omega
    have g2 : 65536 ≤ (at0 l 0 % 8) * 262144 + (at0 l 1 % 64) * 4096 + (at0 l 2 % 64) * 64 + at0 l 3 % 64 ∧ (at0 l 0 % 8) * 262144 + (at0 l 1 % 64) * 4096 + (at0 l 2 % 64) * 64 + at0 l 3 % 64 ≤ 1114111 := by
      split at h4 <;> split at h5 <;> omega
    have e2 : runeL l = ((at0 l 0 % 8) * 262144 + (at0 l 1 % 64) * 4096 + (at0 l 2 % 64) * 64 + at0 l 3 % 64, 4) := by
      have a1 : at0 l 0 / 32 ≠ 6 := by omega
      have a0 : at0 l 0 / 16 ≠ 14 := by omega
      have a6 : at0 l 0 / 8 = 30 := by omega
      have a2 : at0 l 1 / 64 = 2 := by omega
      have a4 : at0 l 2 / 64 = 2 := by omega
      have a7 : at0 l 3 / 64 = 2 := by omega
      have a5 : Utf8.valid (((at0 l 0 % 8) * 262144 + (at0 l 1 % 64) * 4096 + (at0 l 2 % 64) * 64 + at0 l 3 % 64 : Nat) : Int) = true := by
        rw [valid_iff]
        apply decide_eq_true
        omega
      unfold runeL
      simp only
      rw [if_neg c1, if_neg (by simp [a1]), if_neg (by simp [a0]), if_pos (by simp [a6, a2, a4, a7, h3, h6, h9]), if_pos (by rw [a5]; simp; exact g2.1)]
    rw [e1, e2]
    refine ⟨by omega, by omega, by omega, rfl, ?_, Or.inr ⟨by omega, by omega, by show 128 ≤ (at0 l 0 % 8) * 262144 + (at0 l 1 % 64) * 4096 + (at0 l 2 % 64) * 64 + at0 l 3 % 64; omega⟩⟩
    rw [take_getD l 4 (by omega)]
    simp only [Lib.encodeRune, Lib.encodeRuneZ_four (r := (((at0 l 0 % 8) * 262144 + (at0 l 1 % 64) * 4096 + (at0 l 2 % 64) * 64 + at0 l 3 % 64 : Nat) : Int)) (by omega) (by omega)]
    simp only [List.map_cons, List.map_nil, List.range_succ, List.range_zero, List.nil_append, List.cons_append]
    rw [u 0 _ (by omega), u 1 _ (by omega), u 2 _ (by omega), u 3 _ (by omega)]
  · left
    have e1 : longL l = 0 := by
      unfold longL
      rw [if_neg c1, if_neg, if_neg, if_neg]
      · simp only [contL, Bool.and_eq_true, decide_eq_true_eq]
        rintro ⟨⟨⟨⟨p, q⟩, r, s, t⟩, r2, s2, t2⟩, r3, s3, t3⟩
        exact c4 ⟨p, q, r, s, t, r2, s2, t2, r3, s3, t3⟩
      · simp only [contL, Bool.and_eq_true, decide_eq_true_eq]
        rintro ⟨⟨⟨p, q⟩, r, s, t⟩, r2, s2, t2⟩
        exact c3 ⟨p, q, r, s, t, r2, s2, t2⟩
      · simp only [contL, Bool.and_eq_true, decide_eq_true_eq]
        rintro ⟨⟨p, q⟩, r, s, t⟩
        exact c2 ⟨p, q, r, s, t⟩
    refine ⟨e1, ?_, by omega⟩
    unfold runeL
    simp only
    rw [if_neg c1]
    split
    · rename_i h
      simp only [Bool.and_eq_true, decide_eq_true_eq, beq_iff_eq] at h
      rw [if_neg (by intro z; apply c2; refine ⟨by omega, by omega, h.2.1, by omega, by omega⟩)]
      rfl
    split
    · rename_i h
      simp only [Bool.and_eq_true, decide_eq_true_eq, beq_iff_eq] at h
      rw [if_neg]
      · rfl
      · rw [valid_iff]
        simp only [Bool.and_eq_true, decide_eq_true_eq]
        rintro ⟨z, y⟩
        apply c3
        refine ⟨by omega, by omega, h.1.2.1, ?_, ?_, h.2.1, by omega, by omega⟩
        · split <;> omega
        · split <;> omega
    split
    · rename_i h
      simp only [Bool.and_eq_true, decide_eq_true_eq, beq_iff_eq] at h
      rw [if_neg]
      · rfl
      · rw [valid_iff]
        simp only [Bool.and_eq_true, decide_eq_true_eq]
        rintro ⟨z, y⟩
        apply c4
        refine ⟨by omega, by omega, h.1.1.2.1, ?_, ?_, h.1.2.1, by omega, by omega, h.2.1, by omega, by omega⟩
        · split <;> omega
        · split <;> omega
    · rfl

theorem longL_1 {l : List UInt8} (h : at0 l 0 < 128) : longL l = 1 := by unfold longL; rw [if_pos h]
theorem longL_2 {l : List UInt8} (h : 194 ≤ at0 l 0) (h2 : at0 l 0 ≤ 223) : longL l = if contL l 1 128 191 then 2 else 0 := by
  unfold longL
  rw [if_neg (by omega)]
  cases hc : contL l 1 128 191
  · rw [if_neg (by simp), if_neg (by simp; omega), if_neg (by simp; omega), if_neg (by simp)]
  · rw [if_pos (by simp; omega), if_pos rfl]
theorem longL_3 {l : List UInt8} (h : 224 ≤ at0 l 0) (h2 : at0 l 0 ≤ 239) {lo hi : Nat} (hlo : lo = if at0 l 0 = 224 then 160 else 128) (hhi : hi = if at0 l 0 = 237 then 159 else 191) :
    longL l = if contL l 1 lo hi && contL l 2 128 191 then 3 else 0 := by
  unfold longL
  rw [if_neg (by omega), if_neg (by simp; omega), ← hlo, ← hhi]
  have a : (decide (224 ≤ at0 l 0) && decide (at0 l 0 ≤ 239)) = true := by simp; omega
  have b : (decide (240 ≤ at0 l 0) && decide (at0 l 0 ≤ 244)) = false := by simp; omega
  rw [a, b]
  simp
theorem longL_4 {l : List UInt8} (h : 240 ≤ at0 l 0) (h2 : at0 l 0 ≤ 244) {lo hi : Nat} (hlo : lo = if at0 l 0 = 240 then 144 else 128) (hhi : hi = if at0 l 0 = 244 then 143 else 191) :
    longL l = if contL l 1 lo hi && contL l 2 128 191 && contL l 3 128 191 then 4 else 0 := by
  unfold longL
  rw [if_neg (by omega), if_neg (by simp; omega), if_neg (by simp; omega), ← hlo, ← hhi]
  have b : (decide (240 ≤ at0 l 0) && decide (at0 l 0 ≤ 244)) = true := by simp; omega
  rw [b]
  simp
theorem longL_0 {l : List UInt8} (h : 128 ≤ at0 l 0) (h2 : at0 l 0 < 194 ∨ 245 ≤ at0 l 0) : longL l = 0 := by
  unfold longL
  rw [if_neg (by omega), if_neg (by simp; omega), if_neg (by simp; omega), if_neg (by simp; omega)]

/-- How far a step goes: the rune's bytes, or one. -/
def wid (l : List UInt8) : Nat := max (longL l) 1

theorem runeL_wid {l : List UInt8} (hl : l ≠ []) : (runeL l).2 = wid l := by
  unfold wid
  rcases rune_long l hl with ⟨h, h2, _⟩ | ⟨h, _, _, h2, _⟩
  · rw [h2, h]; rfl
  · rw [h2]; omega
theorem wid_pos (l : List UInt8) : 1 ≤ wid l := by unfold wid; omega
theorem wid_le {l : List UInt8} (hl : l ≠ []) : wid l ≤ l.length := by
  have := List.length_pos_iff.mpr hl
  unfold wid
  rcases rune_long l hl with ⟨h, _, _⟩ | ⟨_, h, _⟩ <;> omega

/-- The line and the column of a place, from a line and a column on. -/
def placeL : Nat → Int → List UInt8 → Nat → Nat → Nat × Nat
  | 0, _, _, a, b => (a, b)
  | f + 1, k, l, a, b => if l = [] ∨ k ≤ 0 then (a, b) else if at0 l 0 = 10 then placeL f (k - wid l) (l.drop (wid l)) (a + 1) 1 else placeL f (k - wid l) (l.drop (wid l)) a (b + 1)

theorem placeL_stop {f : Nat} {k : Int} {l : List UInt8} {a b : Nat} (h : l = [] ∨ k ≤ 0) : placeL f k l a b = (a, b) := by
  cases f with
  | zero => rfl
  | succ f => rw [placeL, if_pos h]

end Go.Proofs.Ytpndbgdimkpfjaa.G
end

section
/-
  The walks of words and tags, the program's and the reference's: each returns what plain arithmetic on the bytes says. Condition: strings of at most 2000000 bytes.
-/
namespace Go.Proofs.Ytpndbgdimkpfjaa
open Go.RowKit

theorem hid {p : Prop} (h : p) : Hid p := h

def inB (c a b : Int) : Bool := decide (a ≤ c) && decide (c ≤ b)

theorem ret_bool {a b : Bool} (h : a = b) : Ending.returned (.bool a) = .returned (.bool b) := by rw [h]

set_option maxHeartbeats 400000 in
theorem within_any (c a b : Int) (w : World) : Calls Try.prog 63 #[.int .u8 c, .int .u8 a, .int .u8 b] w fun e w' => e = .returned (.bool (inB c a b)) ∧ w = w' := by
  by_cases h1 : a ≤ c
  · by_cases h2 : c ≤ b
    · go_enter Try.func63, Try.ntmps63
      go_wp2
      go_ret
      exact ⟨ret_bool (by simp [inB, h1, h2]), rfl⟩
    · go_enter Try.func63, Try.ntmps63
      go_wp2
      go_ret
      exact ⟨ret_bool (by simp [inB, h1, h2]), rfl⟩
  · go_enter Try.func63, Try.ntmps63
    go_wp2
    go_ret
    exact ⟨ret_bool (by simp [inB]; omega), rfl⟩

/-- May a byte, or a rune, stand behind the first one of a word? -/
def behB (c : Int) : Bool := inB c 97 122 || inB c 65 90 || inB c 48 57 || c == 95

set_option maxHeartbeats 400000 in
theorem behind_any (c : Int) (w : World) : Calls Try.prog 66 #[.int .u8 c] w fun e w' => e = .returned (.bool (behB c)) ∧ w = w' := by
  go_enter Try.func66, Try.ntmps66
  go_wp2_with (go_at_call 63; refine (within_any _ _ _ _).mono ?_; rintro e w' ⟨rfl, rfl⟩)
  all_goals go_ret
  all_goals exact ⟨ret_bool (by simp_all [behB]), rfl⟩

/-- Byte i of a string, as a number. -/
def byteAt (s : ByteArray) (i : Nat) : Nat := G.at0 (s.data.toList.drop i) 0

theorem byteAt_eq (s : ByteArray) (i : Nat) (h : i < s.size) : (s[i]'h).toNat = byteAt s i := by
  have h2 : i < s.data.toList.length := by simpa using h
  unfold byteAt G.at0
  rw [List.getD_eq_getElem?_getD, List.getElem?_drop, Nat.add_zero, List.getElem?_eq_getElem h2]
  rfl

/-- From byte i on all bytes may stand in a word. -/
def allB : Nat → ByteArray → Nat → Bool
  | 0, _, _ => true
  | f + 1, s, i => if i < s.size then behB (byteAt s i) && allB f s (i + 1) else true

theorem allB_end (s : ByteArray) (f i : Nat) (h : ¬ i < s.size) : allB f s i = true := by
  cases f with
  | zero => rfl
  | succ f => simp [allB, h]

set_option maxHeartbeats 400000 in
theorem all_any (s : ByteArray) (hs : s.size ≤ 2000000) (w : World) : Calls Try.prog 64 #[.string s] w fun e w' => e = .returned (.bool (allB s.size s 1)) ∧ w = w' := by
  go_enter Try.func64, Try.ntmps64
  go_wp2
  go_loop [3] (fun i => ∃ k f : Nat, k ≤ s.size + 1 ∧ i = .int .i64 k ∧ allB f s k = allB s.size s 1 ∧ s.size ≤ k + f) (fun i => s.size + 1 - (intOf i).toNat)
  case atStart => exact ⟨1, s.size, by omega, rfl, rfl, by omega⟩
  case round =>
    obtain ⟨k, f, hk, rfl, ha, hf⟩ := hrel
    have HA := hid ha
    clear ha
    by_cases hlt : k < s.size
    · have hb := byteAt_eq s k hlt
      obtain ⟨f, rfl⟩ : ∃ g, f = g + 1 := ⟨f - 1, by omega⟩
      have HB := hid hb
      clear hb
      go_wp2_with (go_at_call 66; refine (behind_any _ _).mono ?_; rintro e w' ⟨rfl, rfl⟩)
      · go_ret
        have ht : (!behB ((s[k]'hlt).toNat : Int)) = true := by assumption
        rw [HB.out] at ht
        exact ⟨ret_bool (by rw [← HA.out]; simp at ht; simp [allB, hlt, ht]), rfl⟩
      · go_round
        case rel =>
          have ht : (!behB ((s[k]'hlt).toNat : Int)) = false := by first | assumption | simp_all
          rw [HB.out] at ht
          exact ⟨k + 1, f, by omega, by go_num, by rw [← HA.out]; simp at ht; simp [allB, hlt, ht], by omega⟩
        case measure => simp [intOf]; omega
    · go_wp2
      go_ret
      exact ⟨ret_bool (by rw [← HA.out, allB_end s f k hlt]), rfl⟩

theorem ret_int {k : IntKind} {a b : Int} (h : a = b) : Ending.returned (.int k a) = .returned (.int k b) := by rw [h]

theorem drop_ne {s : ByteArray} {i : Nat} (hi : i < s.size) : s.data.toList.drop i ≠ [] := by
  intro hn
  have := congrArg List.length hn
  simp at this
  omega

/-- 'next' at a rune, with its numbers named. -/
theorem next_at (w : World) (s : ByteArray) (pos : Nat) (ty : TypeId) (h : pos < s.size) (r n : Nat) (hd : G.runeL (s.data.toList.drop pos) = (r, n)) :
    (Instr.next (.pointer (some ⟨w.heap.size, 0, none⟩)) true ty).run Try.prog (w.iter s pos) = .ok (.tuple #[.bool true, .int .i64 pos, .int .i32 r]) (w.iter s (pos + n)) := by
  rw [run_next_any w s pos ty h, G.decode_eq, hd]

/-- A word, or a tag: the first byte from lo to hi, all others such as may stand in one. -/
def nameB (lo hi : Int) (s : ByteArray) : Bool := decide (0 < s.size) && (inB (byteAt s 0) lo hi && allB s.size s 1)

theorem behB_of_in {lo hi c : Int} (h : (lo = 97 ∧ hi = 122) ∨ (lo = 65 ∧ hi = 90)) (hb : inB c lo hi = true) : behB c = true := by
  rcases h with ⟨rfl, rfl⟩ | ⟨rfl, rfl⟩ <;> simp [behB, hb]

theorem behB_high {c : Int} (h : 128 ≤ c) : behB c = false := by
  unfold behB inB
  have a : decide (c ≤ 122) = false := by simp; omega
  have b : decide (c ≤ 90) = false := by simp; omega
  have d : decide (c ≤ 57) = false := by simp; omega
  have e : (c == 95) = false := by simp; omega
  simp [a, b, d, e]

/-- Somewhere from i on stands a byte that may not. -/
theorem allB_bad (s : ByteArray) (f i j : Nat) (hij : i ≤ j) (hj : j < s.size) (hf : s.size ≤ i + f) (hb : behB (byteAt s j) = false) : allB f s i = false := by
  induction f generalizing i with
  | zero => omega
  | succ f ih =>
    rw [allB, if_pos (by omega)]
    by_cases e : i = j
    · subst e; rw [hb]; rfl
    · rw [ih (i + 1) (by omega) (by omega)]; simp

theorem ne_empty {s : ByteArray} (h : 0 < s.size) : s.toList.isEmpty = false := by
  rw [Lib.toList_data]
  cases hl : s.data.toList with
  | nil =>
    have e : s.data.toList.length = s.size := by simp
    rw [hl] at e
    simp at e
    omega
  | cons _ _ => rfl
theorem is_empty {s : ByteArray} (h : s.size = 0) : s.toList.isEmpty = true := by
  rw [Lib.toList_data]
  cases hl : s.data.toList with
  | nil => rfl
  | cons _ _ =>
    have e : s.data.toList.length = s.size := by simp
    rw [hl] at e
    simp at e
    omega

theorem runeL_low {s : ByteArray} {pos : Nat} (hp : pos < s.size) (hc : byteAt s pos < 128) : G.runeL (s.data.toList.drop pos) = (byteAt s pos, 1) := by
  have e : byteAt s pos = G.at0 (s.data.toList.drop pos) 0 := rfl
  rcases G.rune_long _ (drop_ne hp) with ⟨_, _, h⟩ | ⟨_, _, _, h2, _, ⟨_, h3, h4⟩ | ⟨h3, _, _⟩⟩
  · omega
  · rw [Prod.ext_iff]; exact ⟨h4, h2.trans h3⟩
  · omega

theorem runeL_high {s : ByteArray} {pos : Nat} (hp : pos < s.size) (hc : 128 ≤ byteAt s pos) : ∃ r n, G.runeL (s.data.toList.drop pos) = (r, n) ∧ 128 ≤ r := by
  have e : byteAt s pos = G.at0 (s.data.toList.drop pos) 0 := rfl
  rcases G.rune_long _ (drop_ne hp) with ⟨_, h, _⟩ | ⟨_, _, _, h2, _, ⟨h3, _, _⟩ | ⟨_, _, h3⟩⟩
  · exact ⟨_, _, h, by omega⟩
  · omega
  · exact ⟨_, _, rfl, h3⟩

set_option maxHeartbeats 400000 in
theorem refWord_any (s : ByteArray) (hs : s.size ≤ 2000000) (w : World) :
    Calls Try.prog 59 #[.string s] w fun e w' => e = .returned (.bool (nameB 97 122 s)) ∧ w = w' := by
  by_cases h0 : 0 < s.size
  · have HB := hid (byteAt_eq s 0 h0)
    go_enter Try.func59, Try.ntmps59
    go_wp2_with (first | (go_at_call 63; refine (within_any _ _ _ _).mono ?_; rintro e w' ⟨rfl, rfl⟩) | (go_at_call 64; refine (all_any s hs _).mono ?_; rintro e w' ⟨rfl, rfl⟩))
    all_goals go_ret
    all_goals refine ⟨ret_bool ?_, rfl⟩
    all_goals rw [HB.out] at *
    all_goals simp_all [nameB]
  · go_enter Try.func59, Try.ntmps59
    go_wp2
    go_ret
    exact ⟨ret_bool (by simp [nameB, h0]), rfl⟩

set_option maxHeartbeats 400000 in
theorem refTag_any (s : ByteArray) (hs : s.size ≤ 2000000) (w : World) :
    Calls Try.prog 60 #[.string s] w fun e w' => e = .returned (.bool (nameB 65 90 s)) ∧ w = w' := by
  by_cases h0 : 0 < s.size
  · have HB := hid (byteAt_eq s 0 h0)
    go_enter Try.func60, Try.ntmps60
    go_wp2_with (first | (go_at_call 63; refine (within_any _ _ _ _).mono ?_; rintro e w' ⟨rfl, rfl⟩) | (go_at_call 64; refine (all_any s hs _).mono ?_; rintro e w' ⟨rfl, rfl⟩))
    all_goals go_ret
    all_goals refine ⟨ret_bool ?_, rfl⟩
    all_goals rw [HB.out] at *
    all_goals simp_all [nameB]
  · go_enter Try.func60, Try.ntmps60
    go_wp2
    go_ret
    exact ⟨ret_bool (by simp [nameB, h0]), rfl⟩

theorem drop_nil {s : ByteArray} {i : Nat} (hi : ¬ i < s.size) : s.data.toList.drop i = [] := by
  apply List.drop_eq_nil_of_le
  simp
  omega

theorem ret_two {a b c d : Int} (h : a = c) (h2 : b = d) : Ending.returned (.tuple #[.int .i64 a, .int .i64 b]) = .returned (.tuple #[.int .i64 c, .int .i64 d]) := by rw [h, h2]

end Go.Proofs.Ytpndbgdimkpfjaa
end

section
/-
  Plain lists of nodes, no program: forests in pre-order, what a type is, where a tree ends. No conditions but those that each lemma names.
-/
namespace Go.Proofs.Ytpndbgdimkpfjaa.L
open Go

/-- A node: its kind, its label, its number. -/
structure Nd where
  kind : Int
  name : ByteArray
  n : Int
  deriving DecidableEq, Inhabited

def many (x : Nd) : Int := if x.kind = 5 then 2 else if x.kind = 6 ∨ x.kind = 7 then x.n else 0

def bare (x : Nd) : Bool := decide (x.name.size = 0) && decide (x.kind ≠ 9)

def numbered (x : Nd) : Bool :=
  if x.kind = 0 ∨ x.kind = 8 ∨ x.kind = 9 then decide (0 ≤ x.n)
  else if x.kind = 1 ∨ x.kind = 2 ∨ x.kind = 3 ∨ x.kind = 4 ∨ x.kind = 5 then decide (x.n = 0)
  else if x.kind = 6 then decide (0 ≤ x.n) && decide (x.n ≤ 50)
  else if x.kind = 7 then decide (1 ≤ x.n) && decide (x.n ≤ 50)
  else false

def isLabel (kind : Int) (s : ByteArray) : Bool := (decide (kind = 6) && nameB 97 122 s) || (decide (kind = 7) && nameB 65 90 s)

/-- One text ahead of another, byte by byte. -/
def ltB (a b : ByteArray) : Bool := Op.bytesLess a.toList b.toList

def mayStand (x : Nd) (k : Int) (before : ByteArray) (kid : Nd) : Bool :=
  if x.kind = 5 then bare kid
  else if kid.kind = 9 then decide (kid.name.size = 0) && decide (k = x.n - 1)
  else isLabel x.kind kid.name && ltB before kid.name

/-- A row of trees: the first one's outermost node, its children, the others. -/
inductive Fo where
  | nil : Fo
  | cons : Nd → Fo → Fo → Fo

def Fo.flat : Fo → List Nd
  | .nil => []
  | .cons x ks r => x :: (ks.flat ++ r.flat)
def Fo.count : Fo → Nat
  | .nil => 0
  | .cons _ _ r => r.count + 1
def Fo.deep : Fo → Nat
  | .nil => 0
  | .cons _ ks r => max (ks.deep + 1) r.deep

/-- The children from number k on, the one ahead of them labelled so, may stand under x. -/
def Fo.stand (x : Nd) : Nat → ByteArray → Fo → Bool
  | _, _, .nil => true
  | k, b, .cons y _ r => mayStand x k b y && Fo.stand x (k + 1) y.name r

/-- Each node is such as it may be, has as many children as it says, and these may stand under it. -/
def Fo.ok : Fo → Bool
  | .nil => true
  | .cons x ks r => numbered x && decide (many x = ks.count) && Fo.stand x 0 ⟨#[]⟩ ks && ks.ok && r.ok

theorem many_of_numbered {x : Nd} (h : numbered x = true) : 0 ≤ many x ∧ many x ≤ 50 := by
  unfold numbered at h
  unfold many
  repeat' split at h
  all_goals simp at h
  all_goals repeat' split
  all_goals omega

/-- What stands behind one tree, with so many levels left. -/
def kidsF (V : List Nd → Option (List Nd)) (x : Nd) : Nat → Nat → ByteArray → List Nd → Option (List Nd)
  | 0, _, _, l => some l
  | _ + 1, _, _, [] => none
  | c + 1, k, b, y :: r => if mayStand x k b y then (V (y :: r)).bind (kidsF V x c (k + 1) y.name) else none

def visitF : Nat → List Nd → Option (List Nd)
  | 0, _ => none
  | _ + 1, [] => none
  | m + 1, x :: r => if numbered x then kidsF (visitF m) x (many x).toNat 0 ⟨#[]⟩ r else none

/-- Is it a type? -/
def rightL (l : List Nd) : Bool :=
  match l with
  | [] => false
  | x :: _ => decide (l.length ≤ 10000) && bare x && decide (visitF 100 l = some [])

theorem kidsF_iff {V : List Nd → Option (List Nd)} {m : Nat} (hV : ∀ l r, V l = some r ↔ ∃ x ks, l = x :: (ks.flat ++ r) ∧ (Fo.cons x ks .nil).ok = true ∧ ks.deep + 1 ≤ m) (x : Nd) :
    ∀ (c k : Nat) (b : ByteArray) (l r : List Nd), kidsF V x c k b l = some r ↔ ∃ f : Fo, l = f.flat ++ r ∧ f.count = c ∧ f.ok = true ∧ Fo.stand x k b f = true ∧ f.deep ≤ m := by
  intro c
  induction c with
  | zero =>
    intro k b l r
    rw [kidsF]
    constructor
    · intro h
      cases h
      exact ⟨.nil, rfl, rfl, rfl, rfl, Nat.zero_le _⟩
    · rintro ⟨f, rfl, hc, _⟩
      cases f with
      | nil => rfl
      | cons x ks r => simp [Fo.count] at hc
  | succ c ih =>
    intro k b l r
    cases l with
    | nil =>
      rw [kidsF]
      constructor
      · intro h; cases h
      · rintro ⟨f, hf, hc, _⟩
        cases f with
        | nil => simp [Fo.count] at hc
        | cons x ks r => simp [Fo.flat] at hf
    | cons y l =>
      rw [kidsF]
      constructor
      · intro h
        split at h
        · rename_i hm
          obtain ⟨r1, h1, h2⟩ := Option.bind_eq_some_iff.1 h
          obtain ⟨z, ks, hz, hok, hd⟩ := (hV _ _).1 h1
          obtain ⟨f, hf, hc, hfo, hfs, hfd⟩ := (ih _ _ _ _).1 h2
          injection hz with hz1 hz2
          subst hz1
          refine ⟨.cons y ks f, ?_, ?_, ?_, ?_, ?_⟩
          · simp [Fo.flat, hz2, hf]
          · simp [Fo.count, hc]
          · simp [Fo.ok] at hok ⊢
            exact ⟨hok, hfo⟩
          · simp [Fo.stand, hm, hfs]
          · simp [Fo.deep]; omega
        · cases h
      · rintro ⟨f, hf, hc, hfo, hfs, hfd⟩
        cases f with
        | nil => simp [Fo.count] at hc
        | cons z ks g =>
          simp only [Fo.flat, List.cons_append, List.cons.injEq] at hf
          obtain ⟨rfl, hf⟩ := hf
          simp [Fo.count] at hc
          simp [Fo.stand] at hfs
          simp [Fo.deep] at hfd
          simp [Fo.ok] at hfo
          rw [if_pos hfs.1, Option.bind_eq_some_iff]
          refine ⟨g.flat ++ r, (hV _ _).2 ⟨y, ks, by rw [hf]; simp, by simp [Fo.ok]; exact hfo.1, by omega⟩, (ih _ _ _ _).2 ⟨g, rfl, hc, hfo.2, hfs.2, by omega⟩⟩

theorem visitF_iff (m : Nat) : ∀ l r, visitF m l = some r ↔ ∃ x ks, l = x :: (ks.flat ++ r) ∧ (Fo.cons x ks .nil).ok = true ∧ ks.deep + 1 ≤ m := by
  induction m with
  | zero =>
    intro l r
    rw [visitF]
    constructor
    · intro h; cases h
    · rintro ⟨_, _, _, _, h⟩; omega
  | succ m ih =>
    intro l r
    cases l with
    | nil =>
      rw [visitF]
      constructor
      · intro h; cases h
      · rintro ⟨_, _, h, _⟩; cases h
    | cons x l =>
      rw [visitF]
      constructor
      · intro h
        split at h
        · rename_i hn
          obtain ⟨f, hf, hc, hfo, hfs, hfd⟩ := (kidsF_iff ih x _ _ _ _ _).1 h
          have := many_of_numbered hn
          refine ⟨x, f, by rw [hf], ?_, by omega⟩
          simp [Fo.ok, hn, hfo, hfs, hc]
          omega
        · cases h
      · rintro ⟨y, ks, hl, hok, hd⟩
        injection hl with h1 h2
        subst h1
        simp [Fo.ok] at hok
        obtain ⟨⟨⟨hn, hm⟩, hs⟩, hk⟩ := hok
        rw [if_pos hn]
        exact (kidsF_iff ih x _ _ _ _ _).2 ⟨ks, h2, by omega, hk, hs, by omega⟩

/-- A type is a tree, each of whose nodes is such as it may be. -/
theorem rightL_iff (l : List Nd) : rightL l = true ↔ ∃ x ks, l = x :: Fo.flat ks ∧ l.length ≤ 10000 ∧ bare x = true ∧ (Fo.cons x ks .nil).ok = true ∧ ks.deep + 1 ≤ 100 := by
  cases l with
  | nil => simp [rightL]
  | cons y l =>
    simp only [rightL, Bool.and_eq_true, decide_eq_true_eq]
    constructor
    · rintro ⟨⟨h1, h2⟩, h3⟩
      obtain ⟨x, ks, hl, hok, hd⟩ := (visitF_iff _ _ _).1 h3
      rw [List.append_nil] at hl
      injection hl with ha hb
      subst ha
      exact ⟨y, ks, by rw [hb], h1, h2, hok, hd⟩
    · rintro ⟨x, ks, hl, h1, h2, hok, hd⟩
      injection hl with ha hb
      subst ha
      exact ⟨⟨h1, h2⟩, (visitF_iff _ _ _).2 ⟨y, ks, by rw [hb]; simp, hok, hd⟩⟩

/-- How many nodes so many trees are, as far as there are nodes. -/
def eat : Nat → List Nd → Nat
  | _, [] => 0
  | 0, _ => 0
  | c + 1, x :: r => 1 + eat (c + (many x).toNat) r

theorem eat_zero (l : List Nd) : eat 0 l = 0 := by cases l <;> rfl

theorem eat_le (c : Nat) (l : List Nd) : eat c l ≤ l.length := by
  induction l generalizing c with
  | nil => simp [eat]
  | cons x l ih =>
    cases c with
    | zero => simp [eat]
    | succ c =>
      rw [eat]
      have := ih (c + (many x).toNat)
      simp
      omega

theorem eat_pos {c : Nat} {l : List Nd} (hc : 0 < c) (hl : l ≠ []) : 0 < eat c l := by
  obtain ⟨c, rfl⟩ : ∃ d, c = d + 1 := ⟨c - 1, by omega⟩
  cases l with
  | nil => exact absurd rfl hl
  | cons x l => rw [eat]; omega

/-- The trees of a row are eaten one behind the other. -/
theorem eat_flat (f : Fo) (h : f.ok = true) (c : Nat) (r : List Nd) : eat (f.count + c) (f.flat ++ r) = f.flat.length + eat c r := by
  induction f generalizing c r with
  | nil => simp [Fo.count, Fo.flat]
  | cons x ks g ih1 ih2 =>
    simp [Fo.ok] at h
    obtain ⟨⟨⟨⟨hn, hm⟩, hs⟩, hk⟩, hg⟩ := h
    have e : (Fo.cons x ks g).count + c = (g.count + c) + 1 := by simp [Fo.count]; omega
    have e2 : g.count + c + (many x).toNat = ks.count + (g.count + c) := by omega
    rw [e]
    simp only [Fo.flat, List.cons_append, List.append_assoc]
    rw [eat, e2, ih1 hk, ih2 hg]
    simp
    omega

theorem eat_tree {x : Nd} {ks : Fo} (h : (Fo.cons x ks .nil).ok = true) (r : List Nd) : eat 1 (x :: (ks.flat ++ r)) = ks.flat.length + 1 := by
  have := eat_flat (Fo.cons x ks .nil) h 0 r
  simp only [Fo.count, Fo.flat, List.append_nil, List.cons_append, eat_zero, Nat.zero_add, Nat.add_zero] at this
  rw [this]
  simp

/-- The places of so many trees from place p on. -/
def kidsL (l : List Nd) : Nat → Nat → List Nat
  | 0, _ => []
  | c + 1, p => if p < l.length then p :: kidsL l c (p + eat 1 (l.drop p)) else []

theorem kidsL_length_le (l : List Nd) (c p : Nat) : (kidsL l c p).length ≤ c := by
  induction c generalizing p with
  | zero => simp [kidsL]
  | succ c ih =>
    rw [kidsL]
    split
    · have := ih (p + eat 1 (l.drop p)); simp; omega
    · simp

end Go.Proofs.Ytpndbgdimkpfjaa.L
end

section
/-
  The walks of ty's small questions on nodes, and of the reference's: each returns what the plain definition says; blocks of the call's own may be laid. Condition: labels of at most 2000000 bytes.
-/
namespace Go.Proofs.Ytpndbgdimkpfjaa
open Go.RowKit

theorem below_new {w : World} (o : Obj) : Below w.heap.size w (w.alloc o) := (Below.refl _ _).alloc (Nat.le_refl _) _

set_option maxHeartbeats 400000 in
theorem many_any (k n : Int) (s : ByteArray) (w : World) : Calls Try.prog 54 #[.agg #[.int .i64 k, .string s, .int .i64 n]] w fun e w' => e = .returned (.int .i64 (L.many ⟨k, s, n⟩)) ∧ Below w.heap.size w w' := by
  by_cases h5 : k = 5
  · subst h5
    go_enter Try.func54, Try.ntmps54
    go_wp2
    go_ret
    exact ⟨rfl, below_new _⟩
  by_cases h6 : k = 6
  · subst h6
    go_enter Try.func54, Try.ntmps54
    go_wp2
    go_ret
    exact ⟨rfl, below_new _⟩
  by_cases h7 : k = 7
  · subst h7
    go_enter Try.func54, Try.ntmps54
    go_wp2
    go_ret
    exact ⟨rfl, below_new _⟩
  have e5 : (k == 5) = false := by simp; omega
  have e6 : (k == 6) = false := by simp; omega
  have e7 : (k == 7) = false := by simp; omega
  go_enter Try.func54, Try.ntmps54
  go_wp2
  go_ret
  refine ⟨ret_int ?_, below_new _⟩
  simp [L.many, h5, h6, h7]

set_option maxHeartbeats 400000 in
theorem refMany_any (k n : Int) (s : ByteArray) (w : World) : Calls Try.prog 58 #[.agg #[.int .i64 k, .string s, .int .i64 n]] w fun e w' => e = .returned (.int .i64 (L.many ⟨k, s, n⟩)) ∧ Below w.heap.size w w' := by
  by_cases h5 : k = 5
  · subst h5
    go_enter Try.func58, Try.ntmps58
    go_wp2
    go_ret
    exact ⟨rfl, below_new _⟩
  by_cases h6 : k = 6
  · subst h6
    go_enter Try.func58, Try.ntmps58
    go_wp2
    go_ret
    exact ⟨rfl, below_new _⟩
  by_cases h7 : k = 7
  · subst h7
    go_enter Try.func58, Try.ntmps58
    go_wp2
    go_ret
    exact ⟨rfl, below_new _⟩
  have e5 : (k == 5) = false := by simp; omega
  have e6 : (k == 6) = false := by simp; omega
  have e7 : (k == 7) = false := by simp; omega
  go_enter Try.func58, Try.ntmps58
  go_wp2
  go_ret
  refine ⟨ret_int ?_, below_new _⟩
  simp [L.many, h5, h6, h7]

theorem kind_cases (k : Int) : k = 0 ∨ k = 1 ∨ k = 2 ∨ k = 3 ∨ k = 4 ∨ k = 5 ∨ k = 6 ∨ k = 7 ∨ k = 8 ∨ k = 9 ∨ (k < 0 ∨ 9 < k) := by omega

set_option maxHeartbeats 1000000 in
theorem refNumbered_any (k n : Int) (s : ByteArray) (w : World) : Calls Try.prog 48 #[.agg #[.int .i64 k, .string s, .int .i64 n]] w fun e w' => e = .returned (.bool (L.numbered ⟨k, s, n⟩)) ∧ Below w.heap.size w w' := by
  rcases kind_cases k with rfl | rfl | rfl | rfl | rfl | rfl | rfl | rfl | rfl | rfl | h
  case inr.inr.inr.inr.inr.inr.inr.inr.inr.inr =>
    have e0 : (k == 0) = false := by simp; omega
    have e1 : (k == 1) = false := by simp; omega
    have e2 : (k == 2) = false := by simp; omega
    have e3 : (k == 3) = false := by simp; omega
    have e4 : (k == 4) = false := by simp; omega
    have e5 : (k == 5) = false := by simp; omega
    have e6 : (k == 6) = false := by simp; omega
    have e7 : (k == 7) = false := by simp; omega
    have e8 : (k == 8) = false := by simp; omega
    have e9 : (k == 9) = false := by simp; omega
    go_enter Try.func48, Try.ntmps48
    go_wp2
    go_ret
    refine ⟨ret_bool ?_, below_new _⟩
    simp only [beq_eq_false_iff_ne, ne_eq] at e0 e1 e2 e3 e4 e5 e6 e7 e8 e9
    simp [L.numbered, e0, e1, e2, e3, e4, e5, e6, e7, e8, e9]
  all_goals go_enter Try.func48, Try.ntmps48
  all_goals go_wp2
  all_goals go_ret
  all_goals refine ⟨ret_bool ?_, below_new _⟩
  all_goals rw [Bool.eq_iff_iff]
  all_goals simp [L.numbered]
  all_goals try omega

end Go.Proofs.Ytpndbgdimkpfjaa
end

section
/-
  A row of nodes of the call's own, and a slice of nodes that is read; what is kept of both. No conditions but those that each lemma names.
-/
namespace Go.Proofs.Ytpndbgdimkpfjaa
open Go.RowKit

theorem heap_lt {w : World} {b : Nat} {o : Obj} (h : w.heap[b]? = some o) : b < w.heap.size := (Array.getElem?_eq_some_iff.1 h).1
theorem cell_lt {w : World} {a : Addr} {v : Value} (h : w.cell? a = some v) : a.block < w.heap.size := by
  rcases Nat.lt_or_ge a.block w.heap.size with hlt | hge
  · exact hlt
  · have hn : w.heap[a.block]? = none := Array.getElem?_eq_none hge
    simp [World.cell?, hn] at h

def ndC (x : L.Nd) : List Value := [.int .i64 x.kind, .string x.name, .int .i64 x.n]
def cellsN (l : List L.Nd) : List Value := l.flatMap ndC

theorem cellsN_len (l : List L.Nd) : (cellsN l).length = l.length * 3 := by
  induction l with
  | nil => rfl
  | cons t r ih => simp only [cellsN, ndC, List.flatMap_cons, List.length_append, List.length_cons, List.length_nil] at ih ⊢; omega

theorem cellsN_append (l r : List L.Nd) : cellsN (l ++ r) = cellsN l ++ cellsN r := by simp [cellsN]
theorem cellsN_cons (x : L.Nd) (l : List L.Nd) : cellsN (x :: l) = ndC x ++ cellsN l := by simp [cellsN]

theorem cellsN_one (l : List L.Nd) : ∀ u ∈ cellsN l, u.oneCell' = true := by
  intro u hu
  obtain ⟨x, _, hx⟩ := List.mem_flatMap.1 hu
  simp [ndC] at hx
  rcases hx with rfl | rfl | rfl <;> rfl

theorem cellsN_get (l : List L.Nd) (i : Nat) (h : i < l.length) :
    (cellsN l)[i * 3]? = some (.int .i64 l[i].kind) ∧ (cellsN l)[i * 3 + 1]? = some (.string l[i].name) ∧ (cellsN l)[i * 3 + 2]? = some (.int .i64 l[i].n) := by
  induction l generalizing i with
  | nil => simp at h
  | cons t r ih =>
    rw [cellsN_cons]
    cases i with
    | zero => simp [ndC]
    | succ i =>
      have hi : i < r.length := by simpa using h
      have h1 := ih i hi
      have e3 : ∀ j, (ndC t ++ cellsN r)[(i + 1) * 3 + j]? = (cellsN r)[i * 3 + j]? := by
        intro j
        rw [List.getElem?_append_right (by simp [ndC]; omega)]
        congr 1
        simp [ndC]
        omega
      have e0 := e3 0
      simp only [Nat.add_zero] at e0
      rw [e0, e3 1, e3 2]
      exact h1

theorem cellsN_of {l : List L.Nd} {j : Nat} {u : Value} (h : (cellsN l)[j]? = some u) : ∃ i, ∃ hi : i < l.length, (j = i * 3 ∧ u = .int .i64 l[i].kind) ∨ (j = i * 3 + 1 ∧ u = .string l[i].name) ∨ (j = i * 3 + 2 ∧ u = .int .i64 l[i].n) := by
  have hj : j < (cellsN l).length := by
    rcases Nat.lt_or_ge j (cellsN l).length with h2 | h2
    · exact h2
    · rw [List.getElem?_eq_none h2] at h; cases h
  rw [cellsN_len] at hj
  have hi : j / 3 < l.length := by omega
  obtain ⟨a, b, c⟩ := cellsN_get l (j / 3) hi
  refine ⟨j / 3, hi, ?_⟩
  rcases (by omega : j = j / 3 * 3 ∨ j = j / 3 * 3 + 1 ∨ j = j / 3 * 3 + 2) with e | e | e
  · rw [e, a] at h; exact Or.inl ⟨e, (Option.some.inj h).symm⟩
  · rw [e, b] at h; exact Or.inr (Or.inl ⟨e, (Option.some.inj h).symm⟩)
  · rw [e, c] at h; exact Or.inr (Or.inr ⟨e, (Option.some.inj h).symm⟩)

/-- A slice value that holds just these nodes, in a block from B on, of the call's own. -/
def Own (B : Nat) (v : Value) (l : List L.Nd) (w : World) : Prop := w.ownsRow B 39 3 v l.length (cellsN l)

/-- A slice value that reads as these nodes, in a block below B. -/
def Rd (w : World) (B : Nat) (v : Value) (l : List L.Nd) : Prop :=
  ∃ (A : Option Addr) (cap : Nat), v = .slice A l.length cap ∧ l.length ≤ cap ∧ cap ≤ maxLen ∧ (A = none → cap = 0) ∧
    (l ≠ [] → ∃ b o, A = some ⟨b, o, none⟩ ∧ b < B ∧ ∀ (i : Nat) (h : i < l.length), w.cell? ⟨b, o + i * 3, none⟩ = some (.int .i64 l[i].kind) ∧ w.cell? ⟨b, o + i * 3 + 1, none⟩ = some (.string l[i].name) ∧ w.cell? ⟨b, o + i * 3 + 2, none⟩ = some (.int .i64 l[i].n))

theorem grown_of_below {w w' : World} (h : Below w.heap.size w w') : w.grownBy w' none := ⟨h.os, h.tape, h.output, h.size, fun i hi _ => h.block i hi⟩

theorem Own.below {B : Nat} {v : Value} {l : List L.Nd} {w w' : World} (h : Own B v l w) (hb : Below w.heap.size w w') : Own B v l w' := by
  unfold Own at h ⊢
  by_cases hv : v.ownBlock = none
  · exact h.kept (grown_of_below hb) (Or.inl hv)
  · exact h.kept (grown_of_below hb) (Or.inr hv)
theorem Own.alloc {B : Nat} {v : Value} {l : List L.Nd} {w : World} (h : Own B v l w) (o : Obj) : Own B v l (w.alloc o) := World.ownsRow.alloc h o
theorem Own.nil (B : Nat) (w : World) : Own B (.slice none 0 0) [] w := World.ownsRow_nil w B _ 3
theorem Own.lt {B : Nat} {v : Value} {l : List L.Nd} {w : World} (h : Own B v l w) : ∀ k, v.ownBlock = some k → B ≤ k ∧ k < w.heap.size := World.ownsRow.lt h
theorem Own.append {B : Nat} {v : Value} {l r : List L.Nd} {w : World} (h : w.ownsRow B 39 3 v (l.length + r.length) (cellsN l ++ cellsN r)) : Own B v (l ++ r) w := by
  unfold Own
  rw [cellsN_append, List.length_append]
  exact h

theorem Own.rd {B : Nat} {v : Value} {l : List L.Nd} {w : World} (h : Own B v l w) : Rd w w.heap.size v l := by
  rcases h.2 with ⟨hv, h0⟩ | ⟨g, cap, cur, hv, _, hh, hc, hm, _⟩
  · refine ⟨none, 0, by rw [hv, h0], by omega, Nat.zero_le _, fun _ => rfl, fun hn => absurd (List.eq_nil_of_length_eq_zero h0) hn⟩
  · subst hv
    refine ⟨_, cap, rfl, hc, hm, by simp, fun _ => ⟨g, 0, rfl, heap_lt hh, fun i hi => ?_⟩⟩
    obtain ⟨a, b, c⟩ := cellsN_get l i hi
    have hc := fun j hj => World.ownsRow.cellAt h j hj
    rw [Nat.zero_add]
    exact ⟨(hc _ (by omega)).trans a, (hc _ (by omega)).trans b, (hc _ (by omega)).trans c⟩

theorem Rd.mono {w : World} {B B' : Nat} {v : Value} {l : List L.Nd} (h : Rd w B v l) (hB : B ≤ B') : Rd w B' v l := by
  obtain ⟨A, cap, hv, h1, h2, h3, hc⟩ := h
  refine ⟨A, cap, hv, h1, h2, h3, fun hn => ?_⟩
  obtain ⟨b, o, ha, hb, hx⟩ := hc hn
  exact ⟨b, o, ha, by omega, hx⟩

theorem Rd.kept {w w' : World} {B : Nat} {v : Value} {l : List L.Nd} (h : Rd w B v l) (hk : ∀ b, b < B → b < w.heap.size → w'.heap[b]? = w.heap[b]?) : Rd w' B v l := by
  obtain ⟨A, cap, hv, h1, h2, h3, hc⟩ := h
  refine ⟨A, cap, hv, h1, h2, h3, fun hn => ?_⟩
  obtain ⟨b, o, ha, hb, hx⟩ := hc hn
  refine ⟨b, o, ha, hb, fun i hi => ?_⟩
  obtain ⟨x, y, z⟩ := hx i hi
  have hlt := cell_lt x
  have e : ∀ j, w'.cell? ⟨b, j, none⟩ = w.cell? ⟨b, j, none⟩ := fun j => World.cell?_of_block (a := ⟨b, j, none⟩) (hk b hb hlt)
  rw [e, e, e]
  exact ⟨x, y, z⟩

theorem Rd.below {w w' : World} {B : Nat} {v : Value} {l : List L.Nd} (h : Rd w B v l) (hb : Below w.heap.size w w') : Rd w' B v l := h.kept fun b _ hl => hb.block b hl
theorem Rd.low {w w' : World} {B : Nat} {v : Value} {l : List L.Nd} (h : Rd w B v l) (hb : Below B w w') : Rd w' B v l := h.kept fun b hl _ => hb.block b hl
theorem Rd.grown {w w' : World} {B A : Nat} {v : Value} {l : List L.Nd} (h : Rd w B v l) (hg : w.grownBy w' (some A)) (hA : B ≤ A) : Rd w' B v l := h.kept fun b hl hs => hg.block b hs (by simp; omega)
theorem Rd.alloc {w : World} {B : Nat} {v : Value} {l : List L.Nd} (h : Rd w B v l) (o : Obj) : Rd (w.alloc o) B v l := h.below (below_new o)

theorem Rd.size {w : World} {B : Nat} {v : Value} {l : List L.Nd} (h : Rd w B v l) : Rd w w.heap.size v l := by
  obtain ⟨A, cap, hv, h1, h2, h3, hc⟩ := h
  refine ⟨A, cap, hv, h1, h2, h3, fun hn => ?_⟩
  obtain ⟨b, o, ha, hb, hx⟩ := hc hn
  have h0 : 0 < l.length := List.length_pos_iff.2 hn
  exact ⟨b, o, ha, cell_lt (hx 0 h0).1, hx⟩

/-- What is read may be appended to a row of the call's own. -/
theorem Rd.src {w : World} {B : Nat} {v : Value} {l : List L.Nd} (h : Rd w B v l) :
    (v = .slice none 0 0 ∧ l = []) ∨ ∃ a cap, v = .slice (some a) l.length cap ∧ ∀ j u, (cellsN l)[j]? = some u → w.cell? (a.add j) = some u := by
  obtain ⟨A, cap, rfl, h1, h2, h3, hc⟩ := h
  cases A with
  | none =>
    have h0 := h3 rfl
    subst h0
    have h4 : l = [] := List.eq_nil_of_length_eq_zero (by omega)
    subst h4
    exact Or.inl ⟨rfl, rfl⟩
  | some a =>
    refine Or.inr ⟨a, cap, rfl, fun j u hu => ?_⟩
    obtain ⟨i, hi, hh⟩ := cellsN_of hu
    obtain ⟨b, o, ha, _, hx⟩ := hc (by rintro rfl; simp at hi)
    injection ha with ha
    subst ha
    obtain ⟨x, y, z⟩ := hx i hi
    have e : ∀ j, (⟨b, o, none⟩ : Addr).add j = ⟨b, o + j, none⟩ := fun j => by unfold Addr.add; split <;> simp_all
    rw [e]
    rcases hh with ⟨rfl, rfl⟩ | ⟨rfl, rfl⟩ | ⟨rfl, rfl⟩
    · exact x
    · exact y
    · exact z

theorem infoNode : (Try.prog.info? 39).map (fun i => (i.zero, i.size, i.bytes)) = some (some (.agg #[.int .i64 0, .string ⟨#[]⟩, .int .i64 0]), 3, 32) := by kernel_rfl

end Go.Proofs.Ytpndbgdimkpfjaa
end

section
/-
  What is kept of a row of the call's own, of any type. No conditions but those that each lemma names.
-/
namespace Go.Proofs.Ytpndbgdimkpfjaa
open Go.RowKit

theorem row_below {B : Nat} {T : TypeId} {s n : Nat} {v : Value} {c : List Value} {w w' : World} (h : w.ownsRow B T s v n c) (hb : Below w.heap.size w w') : w'.ownsRow B T s v n c := by
  by_cases hv : v.ownBlock = none
  · exact h.kept (grown_of_below hb) (Or.inl hv)
  · exact h.kept (grown_of_below hb) (Or.inr hv)

/-- A row stays where a row of another type grows. -/
theorem row_aside {B B2 : Nat} {T T2 : TypeId} {s s2 n n2 : Nat} {v v2 : Value} {c c2 : List Value} {w w' : World} (h : w.ownsRow B T s v n c) (ho : w.ownsRow B2 T2 s2 v2 n2 c2) (hT : T ≠ T2) (hg : w.grownBy w' v2.ownBlock) : w'.ownsRow B T s v n c := by
  refine h.kept hg ?_
  rcases h.2 with ⟨hv, _⟩ | ⟨g, cap, cur, hv, _, hh, _⟩
  · left; rw [hv]; rfl
  · right
    rcases ho.2 with ⟨hv2, _⟩ | ⟨g2, cap2, cur2, hv2, _, hh2, _⟩
    · rw [hv, hv2]; simp [Value.ownBlock]
    · rw [hv, hv2]
      simp only [Value.ownBlock, ne_eq, Option.some.injEq]
      rintro rfl
      rw [hh] at hh2
      injection hh2 with hh2
      injection hh2 with _ h2
      exact hT h2

theorem row_more {B B' : Nat} {T : TypeId} {s n : Nat} {v : Value} {c : List Value} {w : World} (h : w.ownsRow B T s v n c) (hB : B' ≤ B) : w.ownsRow B' T s v n c :=
  ⟨h.1, h.2.imp id fun ⟨g, cp, cur, h1, h2, h3⟩ => ⟨g, cp, cur, h1, Nat.le_trans hB h2, h3⟩⟩

end Go.Proofs.Ytpndbgdimkpfjaa
end

section
/-
  The walks of ty.Same, with slices.EqualFunc, and of the reference's Same and One. Conditions: slices of at most 2^40 nodes.
-/
namespace Go.Proofs.Ytpndbgdimkpfjaa.L
open Go

/-- Are two nodes alike, but for a site? -/
def sameN (x y : Nd) : Bool := decide (x.kind = y.kind) && decide (x.name = y.name) && (decide (x.n = y.n) || decide (x.kind = 0))

/-- Are two rows of nodes alike, but for sites? -/
def sameL : List Nd → List Nd → Bool
  | [], [] => true
  | x :: a, y :: b => sameN x y && sameL a b
  | _, _ => false

theorem sameL_len {a b : List Nd} (h : sameL a b = true) : a.length = b.length := by
  induction a generalizing b with
  | nil => cases b <;> simp_all [sameL]
  | cons x a ih =>
    cases b with
    | nil => simp [sameL] at h
    | cons y b =>
      simp [sameL] at h
      simp [ih h.2]

/-- From place i on. -/
theorem sameL_step {a b : List Nd} {i : Nat} (ha : i < a.length) (hb : i < b.length) : sameL (a.drop i) (b.drop i) = (sameN a[i] b[i] && sameL (a.drop (i + 1)) (b.drop (i + 1))) := by
  rw [List.drop_eq_getElem_cons ha, List.drop_eq_getElem_cons hb, sameL]

theorem sameN_iff (x y : Nd) : sameN x y = true ↔ x.kind = y.kind ∧ x.name = y.name ∧ (x.n = y.n ∨ x.kind = 0) := by
  simp [sameN, and_assoc]

end Go.Proofs.Ytpndbgdimkpfjaa.L
namespace Go.Proofs.Ytpndbgdimkpfjaa
open Go.RowKit

theorem eqS (s t : ByteArray) : (s.toList == t.toList) = decide (s = t) := by
  rw [Bool.eq_iff_iff]
  simp only [beq_iff_eq, decide_eq_true_eq]
  constructor
  · intro h
    rw [Lib.toList_data, Lib.toList_data] at h
    exact ByteArray.ext (Array.toList_inj.1 h)
  · rintro rfl; rfl

end Go.Proofs.Ytpndbgdimkpfjaa
end

section
/-
  The walks of ty.Plain and ty.Static, with slices.ContainsFunc and IndexFunc, and of the reference's twins. No conditions but that the slice reads as nodes.
-/
namespace Go.Proofs.Ytpndbgdimkpfjaa.L
open Go

def varN (x : Nd) : Bool := decide (x.kind = 8) || decide (x.kind = 9)
def dynN (x : Nd) : Bool := decide (x.kind = 0)
def plainL (l : List Nd) : Bool := !(l.any varN)
def staticL (l : List Nd) : Bool := !(l.any dynN)

theorem any_step {p : Nd → Bool} {l : List Nd} {i : Nat} (h : i < l.length) : (l.drop i).any p = (p l[i] || (l.drop (i + 1)).any p) := by
  rw [List.drop_eq_getElem_cons h, List.any_cons]

end Go.Proofs.Ytpndbgdimkpfjaa.L
namespace Go.Proofs.Ytpndbgdimkpfjaa
open Go.RowKit

set_option maxHeartbeats 4000000 in
set_option maxRecDepth 100000 in
theorem ref_plain (l : List L.Nd) (v : Value) (w : World) (hx : Rd w w.heap.size v l) :
    Calls Try.prog 29 #[v] w fun e w' => e = .returned (.bool (L.plainL l)) ∧ w' = w := by
  obtain ⟨A, cap, rfl, hl1, hl2, _, hcx⟩ := hx
  unfold maxLen at hl2
  have HCX := hid hcx
  clear hcx
  go_enter Try.func29, Try.ntmps29
  go_wp2
  go_loop [3] (fun vi => ∃ k : Nat, vi = .int .i64 k ∧ k ≤ l.length ∧ Hid ((l.drop k).any L.varN = l.any L.varN)) (fun vi => l.length - (intOf vi).toNat)
  case atStart => exact ⟨0, rfl, by omega, hid rfl⟩
  case round =>
    obtain ⟨k, rfl, hk, hS⟩ := hrel
    by_cases hlt : k < l.length
    · obtain ⟨b, o, hA, hb, hcx⟩ := HCX.out (by rintro rfl; simp at hlt)
      obtain ⟨x0, x1, x2⟩ := hcx k hlt
      subst hA
      have hN : Hid ((l.drop k).any L.varN = (L.varN l[k] || (l.drop (k + 1)).any L.varN)) := hid (L.any_step hlt)
      clear hcx
      generalize l[k] = X at *
      obtain ⟨k1, s1, n1⟩ := X
      by_cases h8 : k1 = 8
      · subst h8
        go_wp2
        go_ret
        refine ⟨ret_bool ?_, rfl⟩
        rw [L.plainL, ← hS.out, hN.out]
        simp [L.varN]
      by_cases h9 : k1 = 9
      · subst h9
        go_wp2
        go_ret
        refine ⟨ret_bool ?_, rfl⟩
        rw [L.plainL, ← hS.out, hN.out]
        simp [L.varN]
      have e8 : (k1 == 8) = false := by simp; omega
      have e9 : (k1 == 9) = false := by simp; omega
      go_wp2
      go_round
      case rel =>
        refine ⟨k + 1, by go_num, by omega, hid ?_⟩
        rw [← hS.out, hN.out]
        simp [L.varN, h8, h9]
      case measure => simp [intOf]; omega
    · go_wp2
      go_ret
      refine ⟨ret_bool ?_, rfl⟩
      rw [L.plainL, ← hS.out, List.drop_eq_nil_of_le (by omega)]
      rfl

set_option maxHeartbeats 4000000 in
set_option maxRecDepth 100000 in
theorem ref_static (l : List L.Nd) (v : Value) (w : World) (hx : Rd w w.heap.size v l) :
    Calls Try.prog 30 #[v] w fun e w' => e = .returned (.bool (L.staticL l)) ∧ w' = w := by
  obtain ⟨A, cap, rfl, hl1, hl2, _, hcx⟩ := hx
  unfold maxLen at hl2
  have HCX := hid hcx
  clear hcx
  go_enter Try.func30, Try.ntmps30
  go_wp2
  go_loop [3] (fun vi => ∃ k : Nat, vi = .int .i64 k ∧ k ≤ l.length ∧ Hid ((l.drop k).any L.dynN = l.any L.dynN)) (fun vi => l.length - (intOf vi).toNat)
  case atStart => exact ⟨0, rfl, by omega, hid rfl⟩
  case round =>
    obtain ⟨k, rfl, hk, hS⟩ := hrel
    by_cases hlt : k < l.length
    · obtain ⟨b, o, hA, hb, hcx⟩ := HCX.out (by rintro rfl; simp at hlt)
      obtain ⟨x0, x1, x2⟩ := hcx k hlt
      subst hA
      have hN : Hid ((l.drop k).any L.dynN = (L.dynN l[k] || (l.drop (k + 1)).any L.dynN)) := hid (L.any_step hlt)
      clear hcx
      generalize l[k] = X at *
      obtain ⟨k1, s1, n1⟩ := X
      by_cases h0 : k1 = 0
      · subst h0
        go_wp2
        go_ret
        refine ⟨ret_bool ?_, rfl⟩
        rw [L.staticL, ← hS.out, hN.out]
        simp [L.dynN]
      have e0 : (k1 == 0) = false := by simp; omega
      go_wp2
      go_round
      case rel =>
        refine ⟨k + 1, by go_num, by omega, hid ?_⟩
        rw [← hS.out, hN.out]
        simp [L.dynN, h0]
      case measure => simp [intOf]; omega
    · go_wp2
      go_ret
      refine ⟨ret_bool ?_, rfl⟩
      rw [L.staticL, ← hS.out, List.drop_eq_nil_of_le (by omega)]
      rfl

end Go.Proofs.Ytpndbgdimkpfjaa
end

section
/-
  The walks of the reference's Same and One, and of the statements' named. No conditions but that the slices read as nodes.
-/
namespace Go.Proofs.Ytpndbgdimkpfjaa.L
open Go

/-- Are all labels short, and not too many nodes? -/
def namedL (l : List Nd) : Bool := decide (l.length ≤ 200) && l.all fun x => decide (x.name.size ≤ 200)

theorem eq_step {a b : List Nd} {i : Nat} (ha : i < a.length) (hb : i < b.length) : decide (a.drop i = b.drop i) = (decide (a[i] = b[i]) && decide (a.drop (i + 1) = b.drop (i + 1))) := by
  rw [List.drop_eq_getElem_cons ha, List.drop_eq_getElem_cons hb, Bool.eq_iff_iff]
  simp only [decide_eq_true_eq, Bool.and_eq_true, List.cons.injEq]

end Go.Proofs.Ytpndbgdimkpfjaa.L
namespace Go.Proofs.Ytpndbgdimkpfjaa
open Go.RowKit

theorem below_drewN {B : Nat} {a w : World} (h : Below B a w) (n : Nat) : Below B a (w.drewN n) := ⟨h.os, h.tape, h.output, h.size, h.block⟩

set_option maxHeartbeats 4000000 in
set_option maxRecDepth 100000 in
theorem one_any (x y : List L.Nd) (vx vy : Value) (w : World) (hx : Rd w w.heap.size vx x) (hy : Rd w w.heap.size vy y) :
    Calls Try.prog 19 #[vx, vy] w fun e w' => e = .returned (.bool (decide (x = y))) ∧ Below w.heap.size w w' := by
  obtain ⟨A, cap, rfl, hl1, hl2, _, hcx⟩ := hx
  obtain ⟨A2, cap2, rfl, hm1, hm2, _, hcy⟩ := hy
  unfold maxLen at hl2 hm2
  have HCX := hid hcx
  have HCY := hid hcy
  clear hcx hcy
  by_cases hlen : x.length = y.length
  · go_enter Try.func19, Try.ntmps19
    rw [hlen]
    go_wp2
    go_loopw [5] (fun vi wr => ∃ k : Nat, vi = .int .i64 k ∧ k ≤ y.length ∧ Below w.heap.size w wr ∧ Hid (decide (x.drop k = y.drop k) = decide (x = y))) (fun vi _ => y.length - (intOf vi).toNat)
    case atStart => exact ⟨0, rfl, by omega, Below.refl _ _, hid rfl⟩
    case round =>
      obtain ⟨k, rfl, hk, hB, hS⟩ := hrel
      by_cases hlt : k < y.length
      · obtain ⟨b, o, hA, hb, hcx⟩ := HCX.out (by rintro rfl; simp at hlen; omega)
        obtain ⟨b2, o2, hA2, hb2, hcy⟩ := HCY.out (by rintro rfl; simp at hlt)
        obtain ⟨x0, x1, x2⟩ := hcx k (by omega)
        obtain ⟨y0, y1, y2⟩ := hcy k hlt
        have ex : ∀ j, wr.cell? ⟨b, j, none⟩ = w.cell? ⟨b, j, none⟩ := fun j => hB.cell (p := ⟨b, j, none⟩) hb
        have ey : ∀ j, wr.cell? ⟨b2, j, none⟩ = w.cell? ⟨b2, j, none⟩ := fun j => hB.cell (p := ⟨b2, j, none⟩) hb2
        rw [← ex] at x0 x1 x2
        rw [← ey] at y0 y1 y2
        subst hA hA2
        have hN : Hid (decide (x.drop k = y.drop k) = (decide (x[k] = y[k]) && decide (x.drop (k + 1) = y.drop (k + 1)))) := hid (L.eq_step (by omega) hlt)
        clear hcx hcy ex ey
        generalize x[k] = X at *
        generalize y[k] = Y at *
        obtain ⟨k1, s1, n1⟩ := X
        obtain ⟨k2, s2, n2⟩ := Y
        by_cases hne : (⟨k1, s1, n1⟩ : L.Nd) = ⟨k2, s2, n2⟩
        · injection hne with e1 e2 e3
          subst e1 e2 e3
          go_wp2
          go_quiet (fail)
          go_wp2
          go_roundw
          case rel =>
            refine ⟨k + 1, by go_num, by omega, below_drewN hB _, hid ?_⟩
            rw [← hS.out, hN.out]
            simp
          case measure => simp [intOf]; omega
        · have hz : Hid (decide (x = y) = false) := hid (by rw [← hS.out, hN.out]; simp [hne])
          have he := eqS s1 s2
          by_cases h1 : k1 = k2
          · by_cases h2 : s1 = s2
            · have e3 : (n1 == n2) = false := by simp; rintro rfl; exact hne (by rw [h1, h2])
              subst h1 h2
              clear he
              go_wp2
              go_quiet (fail)
              go_wp2
              go_ret
              exact ⟨ret_bool hz.out.symm, below_drewN hB _⟩
            · have e2 : (s1.toList == s2.toList) = false := by rw [he]; simp [h2]
              subst h1
              clear he
              go_wp2
              go_quiet (fail)
              go_wp2
              go_ret
              exact ⟨ret_bool hz.out.symm, below_drewN hB _⟩
          · have e1 : (k1 == k2) = false := by simp; omega
            clear he
            go_wp2
            go_quiet (fail)
            go_wp2
            go_ret
            exact ⟨ret_bool hz.out.symm, below_drewN hB _⟩
      · go_wp2
        go_ret
        refine ⟨ret_bool ?_, hB⟩
        rw [← hS.out, List.drop_eq_nil_of_le (by omega), List.drop_eq_nil_of_le (by omega)]
        rfl
  · go_enter Try.func19, Try.ntmps19
    have h2 : ((x.length : Int) != (y.length : Int)) = true := by simp; omega
    go_wp2
    go_ret
    refine ⟨ret_bool ?_, Below.refl _ _⟩
    symm
    simp
    rintro rfl
    exact hlen rfl

end Go.Proofs.Ytpndbgdimkpfjaa
end

section
/-
  The walk of the reference's Same. No conditions but that the slices read as nodes.
-/
namespace Go.Proofs.Ytpndbgdimkpfjaa
open Go.RowKit

set_option maxHeartbeats 8000000 in
set_option maxRecDepth 100000 in
theorem refSame_any (x y : List L.Nd) (vx vy : Value) (w : World) (hx : Rd w w.heap.size vx x) (hy : Rd w w.heap.size vy y) :
    Calls Try.prog 27 #[vx, vy] w fun e w' => e = .returned (.bool (L.sameL x y)) ∧ Below w.heap.size w w' := by
  obtain ⟨A, cap, rfl, hl1, hl2, _, hcx⟩ := hx
  obtain ⟨A2, cap2, rfl, hm1, hm2, _, hcy⟩ := hy
  unfold maxLen at hl2 hm2
  have HCX := hid hcx
  have HCY := hid hcy
  clear hcx hcy
  by_cases hlen : x.length = y.length
  · go_enter Try.func27, Try.ntmps27
    rw [hlen]
    go_wp2
    go_loopw [5] (fun vi wr => ∃ k : Nat, vi = .int .i64 k ∧ k ≤ y.length ∧ Below w.heap.size w wr ∧ Hid (L.sameL (x.drop k) (y.drop k) = L.sameL x y)) (fun vi _ => y.length - (intOf vi).toNat)
    case atStart => exact ⟨0, rfl, by omega, Below.refl _ _, hid rfl⟩
    case round =>
      obtain ⟨k, rfl, hk, hB, hS⟩ := hrel
      by_cases hlt : k < y.length
      · obtain ⟨b, o, hA, hb, hcx⟩ := HCX.out (by rintro rfl; simp at hlen; omega)
        obtain ⟨b2, o2, hA2, hb2, hcy⟩ := HCY.out (by rintro rfl; simp at hlt)
        obtain ⟨x0, x1, x2⟩ := hcx k (by omega)
        obtain ⟨y0, y1, y2⟩ := hcy k hlt
        have ex : ∀ j, wr.cell? ⟨b, j, none⟩ = w.cell? ⟨b, j, none⟩ := fun j => hB.cell (p := ⟨b, j, none⟩) hb
        have ey : ∀ j, wr.cell? ⟨b2, j, none⟩ = w.cell? ⟨b2, j, none⟩ := fun j => hB.cell (p := ⟨b2, j, none⟩) hb2
        rw [← ex] at x0 x1 x2
        rw [← ey] at y0 y1 y2
        subst hA hA2
        have hN : Hid (L.sameL (x.drop k) (y.drop k) = (L.sameN x[k] y[k] && L.sameL (x.drop (k + 1)) (y.drop (k + 1)))) := hid (L.sameL_step (by omega) hlt)
        clear hcx hcy ex ey
        generalize x[k] = X at *
        generalize y[k] = Y at *
        obtain ⟨k1, s1, n1⟩ := X
        obtain ⟨k2, s2, n2⟩ := Y
        have hbw := hB.size
        have g1 : b < wr.heap.size := by omega
        have g2 : b2 < wr.heap.size := by omega
        have g3 : b ≠ wr.heap.size := by omega
        have g4 : b2 ≠ wr.heap.size := by omega
        have he := eqS s1 s2
        by_cases h1 : k1 = k2
        · subst h1
          by_cases h2 : s1 = s2
          · subst h2
            clear he
            by_cases h0 : k1 = 0
            · subst h0
              go_wp2
              go_region
              all_goals go_wp2
              all_goals go_roundw
              all_goals first
                | (refine ⟨k + 1, by go_num, by omega, by (repeat (first | exact hB | refine Below.drew ?_ | refine below_drewN ?_ _ | refine Below.setCell ?_ (by first | omega | (simp; omega)) _ | refine Below.alloc ?_ (by first | omega | (simp; omega)) _)), hid ?_⟩; rw [← hS.out, hN.out]; simp [L.sameN]; done)
                | (simp [intOf]; omega)
            · have e0 : (k1 == 0) = false := by simp; omega
              by_cases h3 : n1 = n2
              · subst h3
                go_wp2
                go_region
                all_goals go_wp2
                all_goals go_roundw
                all_goals first
                  | (refine ⟨k + 1, by go_num, by omega, by (repeat (first | exact hB | refine Below.drew ?_ | refine below_drewN ?_ _ | refine Below.setCell ?_ (by first | omega | (simp; omega)) _ | refine Below.alloc ?_ (by first | omega | (simp; omega)) _)), hid ?_⟩; rw [← hS.out, hN.out]; simp [L.sameN]; done)
                  | (simp [intOf]; omega)
              · have e3 : (n1 == n2) = false := by simp; omega
                have hz : Hid (L.sameL x y = false) := hid (by rw [← hS.out, hN.out]; simp [L.sameN, beq_eq_false_iff_ne.1 e3, beq_eq_false_iff_ne.1 e0])
                go_wp2
                go_region
                all_goals go_wp2
                all_goals go_ret
                all_goals exact ⟨ret_bool hz.out.symm, by (repeat (first | exact hB | refine Below.drew ?_ | refine below_drewN ?_ _ | refine Below.setCell ?_ (by first | omega | (simp; omega)) _ | refine Below.alloc ?_ (by first | omega | (simp; omega)) _))⟩
          · have e2 : (s1.toList == s2.toList) = false := by rw [he]; simp [h2]
            clear he
            by_cases h0 : k1 = 0
            · subst h0
              have hz : Hid (L.sameL x y = false) := hid (by rw [← hS.out, hN.out]; simp [L.sameN, h2])
              go_wp2
              go_region
              all_goals go_wp2
              all_goals go_ret
              all_goals exact ⟨ret_bool hz.out.symm, by (repeat (first | exact hB | refine Below.drew ?_ | refine below_drewN ?_ _ | refine Below.setCell ?_ (by first | omega | (simp; omega)) _ | refine Below.alloc ?_ (by first | omega | (simp; omega)) _))⟩
            · have e0 : (k1 == 0) = false := by simp; omega
              have hz : Hid (L.sameL x y = false) := hid (by rw [← hS.out, hN.out]; simp [L.sameN, h2])
              go_wp2
              go_region
              all_goals go_wp2
              all_goals go_ret
              all_goals exact ⟨ret_bool hz.out.symm, by (repeat (first | exact hB | refine Below.drew ?_ | refine below_drewN ?_ _ | refine Below.setCell ?_ (by first | omega | (simp; omega)) _ | refine Below.alloc ?_ (by first | omega | (simp; omega)) _))⟩
        · have e1 : (k1 == k2) = false := by simp; omega
          clear he
          by_cases h0 : k1 = 0
          · subst h0
            · have e4 : (k2 == 0) = false := by simp; omega
              have hz : Hid (L.sameL x y = false) := hid (by rw [← hS.out, hN.out]; simp [L.sameN, h1])
              go_wp2
              go_region
              all_goals go_wp2
              all_goals go_ret
              all_goals exact ⟨ret_bool hz.out.symm, by (repeat (first | exact hB | refine Below.drew ?_ | refine below_drewN ?_ _ | refine Below.setCell ?_ (by first | omega | (simp; omega)) _ | refine Below.alloc ?_ (by first | omega | (simp; omega)) _))⟩
          · have e0 : (k1 == 0) = false := by simp; omega
            by_cases h5 : k2 = 0
            · subst h5
              have hz : Hid (L.sameL x y = false) := hid (by rw [← hS.out, hN.out]; simp [L.sameN, h1])
              go_wp2
              go_region
              all_goals go_wp2
              all_goals go_ret
              all_goals exact ⟨ret_bool hz.out.symm, by (repeat (first | exact hB | refine Below.drew ?_ | refine below_drewN ?_ _ | refine Below.setCell ?_ (by first | omega | (simp; omega)) _ | refine Below.alloc ?_ (by first | omega | (simp; omega)) _))⟩
            · have e4 : (k2 == 0) = false := by simp; omega
              have hz : Hid (L.sameL x y = false) := hid (by rw [← hS.out, hN.out]; simp [L.sameN, h1])
              go_wp2
              go_region
              all_goals go_wp2
              all_goals go_ret
              all_goals exact ⟨ret_bool hz.out.symm, by (repeat (first | exact hB | refine Below.drew ?_ | refine below_drewN ?_ _ | refine Below.setCell ?_ (by first | omega | (simp; omega)) _ | refine Below.alloc ?_ (by first | omega | (simp; omega)) _))⟩
      · go_wp2
        go_ret
        refine ⟨ret_bool ?_, hB⟩
        rw [← hS.out, List.drop_eq_nil_of_le (by omega), List.drop_eq_nil_of_le (by omega)]
        rfl
  · go_enter Try.func27, Try.ntmps27
    have h2 : ((x.length : Int) != (y.length : Int)) = true := by simp; omega
    go_wp2
    go_ret
    refine ⟨ret_bool ?_, Below.refl _ _⟩
    cases hh : L.sameL x y with
    | false => rfl
    | true => exact absurd (L.sameL_len hh) hlen

end Go.Proofs.Ytpndbgdimkpfjaa
end

section
/-
  The walk of ty.Right, with the closure that visits a tree. Conditions: a slice that reads as nodes, labels of at most 2000000 bytes.
-/
namespace Go.Proofs.Ytpndbgdimkpfjaa.L
open Go

theorem n_small {x : Nd} (h : numbered x = true) (h0 : 0 < many x) : 0 ≤ x.n ∧ x.n ≤ 50 := by
  unfold numbered at h
  unfold many at h0
  repeat' split at h
  all_goals simp at h
  all_goals repeat' split at h0
  all_goals omega

end Go.Proofs.Ytpndbgdimkpfjaa.L
namespace Go.Proofs.Ytpndbgdimkpfjaa
open Go.RowKit Go.Sort

theorem Rd.at_slice {w : World} {B b o n cap : Nat} {l : List L.Nd} (h : Rd w B (.slice (some ⟨b, o, none⟩) n cap) l) (hn : l ≠ []) :
    ∀ (i : Nat) (h : i < l.length), w.cell? ⟨b, o + i * 3, none⟩ = some (.int .i64 l[i].kind) ∧ w.cell? ⟨b, o + i * 3 + 1, none⟩ = some (.string l[i].name) ∧ w.cell? ⟨b, o + i * 3 + 2, none⟩ = some (.int .i64 l[i].n) := by
  obtain ⟨A, c, hv, _, _, _, hc⟩ := h
  obtain ⟨b', o', hA, _, hx⟩ := hc hn
  rw [hA] at hv
  simp only [Value.slice.injEq, Option.some.injEq, Addr.mk.injEq] at hv
  obtain ⟨⟨rfl, rfl, _⟩, _⟩ := hv
  exact hx

theorem grown_refl (w : World) (r : Option Nat) : w.grownBy w r := ⟨rfl, rfl, rfl, Nat.le_refl _, fun _ _ _ => rfl⟩
theorem grown_trans {a b c : World} {A : Nat} (h : a.grownBy b (some A)) (k : b.grownBy c (some A)) : a.grownBy c (some A) :=
  ⟨k.os.trans h.os, k.tape.trans h.tape, k.output.trans h.output, Nat.le_trans h.size k.size, fun i hi hn => (k.block i (Nat.lt_of_lt_of_le hi h.size) hn).trans (h.block i hi hn)⟩
theorem grown_below {a b c : World} {A : Nat} (h : a.grownBy b (some A)) (k : Below b.heap.size b c) : a.grownBy c (some A) :=
  ⟨k.os.trans h.os, k.tape.trans h.tape, k.output.trans h.output, Nat.le_trans h.size k.size, fun i hi hn => (k.block i (Nat.lt_of_lt_of_le hi h.size)).trans (h.block i hi hn)⟩

end Go.Proofs.Ytpndbgdimkpfjaa
end
