/-
  Plain lists of bytes, no program: what a rune at a list's head is and how long it is, what quoting, unquoting, places and words come to. No conditions but those that each lemma names.
-/
import Derived.Lib.RuneBytes
import Derived.Laws.RangeAny
namespace Go.Proofs.YtimlblbmfckeiaaDoor.G
open Go

def at0 (l : List UInt8) (k : Nat) : Nat := (l.getD k 0).toNat
def contL (l : List UInt8) (k a b : Nat) : Bool := decide (k < l.length) && (decide (a ≤ at0 l k) && decide (at0 l k ≤ b))

/-- How many bytes the rune at the head has; 0: the first byte is part of none. -/
def longL (l : List UInt8) : Nat :=
  if at0 l 0 < 128 then 1
  else if (decide (194 ≤ at0 l 0) && decide (at0 l 0 ≤ 223)) && contL l 1 128 191 then 2
  else if (decide (224 ≤ at0 l 0) && decide (at0 l 0 ≤ 239)) && contL l 1 (if at0 l 0 = 224 then 160 else 128) (if at0 l 0 = 237 then 159 else 191) && contL l 2 128 191 then 3
  else if (decide (240 ≤ at0 l 0) && decide (at0 l 0 ≤ 244)) && contL l 1 (if at0 l 0 = 240 then 144 else 128) (if at0 l 0 = 244 then 143 else 191) && contL l 2 128 191 && contL l 3 128 191 then 4
  else 0

/-- The rune at the head and its width, as a range over a string sees it. -/
def runeL (l : List UInt8) : Nat × Nat :=
  let cont (k : Nat) : Bool := decide (k < l.length) && at0 l k / 64 == 2
  if at0 l 0 < 0x80 then (at0 l 0, 1)
  else if at0 l 0 / 32 == 6 && cont 1 then
    let c := (at0 l 0 % 32) * 64 + at0 l 1 % 64
    if c ≥ 0x80 then (c, 2) else (Utf8.runeError, 1)
  else if at0 l 0 / 16 == 14 && cont 1 && cont 2 then
    let c := (at0 l 0 % 16) * 4096 + (at0 l 1 % 64) * 64 + at0 l 2 % 64
    if c ≥ 0x800 && Utf8.valid c then (c, 3) else (Utf8.runeError, 1)
  else if at0 l 0 / 8 == 30 && cont 1 && cont 2 && cont 3 then
    let c := (at0 l 0 % 8) * 262144 + (at0 l 1 % 64) * 4096 + (at0 l 2 % 64) * 64 + at0 l 3 % 64
    if c ≥ 0x10000 && Utf8.valid c then (c, 4) else (Utf8.runeError, 1)
  else (Utf8.runeError, 1)

theorem get_drop (s : ByteArray) (i k : Nat) : (s.get! (i + k)).toNat = at0 (s.data.toList.drop i) k := by
  unfold at0
  by_cases h : i + k < s.size
  · have h2 : i + k < s.data.toList.length := by simpa using h
    have : s.get! (i + k) = s.data.toList[i + k] := by
      simp [ByteArray.get!, getElem!_pos, h]
    rw [this, List.getD_eq_getElem?_getD, List.getElem?_drop, List.getElem?_eq_getElem h2]
    rfl
  · have h2 : s.data.toList.length ≤ i + k := by simpa using h
    have : s.get! (i + k) = 0 := by
      have h3 : ¬ i + k < s.data.size := by simpa using h
      show s.data[i + k]! = 0
      rw [getElem!_neg s.data (i + k) h3]
      rfl
    rw [this, List.getD_eq_getElem?_getD, List.getElem?_drop, List.getElem?_eq_none h2]
    rfl

theorem decode_eq (s : ByteArray) (i : Nat) : Utf8.decode s i = runeL (s.data.toList.drop i) := by
  have hl : ∀ k, (decide (i + k < s.size)) = decide (k < (s.data.toList.drop i).length) := by
    intro k
    have : (s.data.toList.drop i).length = s.size - i := by simp
    rw [this]
    congr 1
    apply propext
    constructor <;> intro h <;> omega
  simp only [Utf8.decode, runeL, get_drop, hl]

theorem at0_lt (l : List UInt8) (k : Nat) : at0 l k < 256 := UInt8.toNat_lt _

/-- The bytes that stand for a number. -/
theorem u8_of (c : UInt8) (x : Int) (h : x = c.toNat) : x.toNat.toUInt8 = c := by
  subst h
  simp

theorem take_getD (l : List UInt8) (n : Nat) (h : n ≤ l.length) : l.take n = (List.range n).map (fun k => l.getD k 0) := by
  apply List.ext_getElem
  · simp [h]
  · intro i h1 h2
    simp at h1 h2
    simp [List.getElem?_eq_getElem (show i < l.length by omega)]

theorem valid_iff (c : Nat) : Utf8.valid c = decide (c < 55296 ∨ (57344 ≤ c ∧ c ≤ 1114111)) := by
  unfold Utf8.valid
  by_cases h : c < 55296 ∨ (57344 ≤ c ∧ c ≤ 1114111)
  · rw [decide_eq_true h]; rcases h with h | h <;> simp <;> omega
  · rw [decide_eq_false h]; simp; omega

/-- What a range sees is what the bytes say: no rune: U+FFFD of one byte; else the rune's own bytes. -/
theorem rune_long (l : List UInt8) (hl : l ≠ []) :
    (longL l = 0 ∧ runeL l = (65533, 1) ∧ 128 ≤ at0 l 0) ∨
    (1 ≤ longL l ∧ longL l ≤ l.length ∧ longL l ≤ 4 ∧ (runeL l).2 = longL l ∧ Lib.encodeRune ((runeL l).1 : Int) = l.take (longL l) ∧
      ((at0 l 0 < 128 ∧ longL l = 1 ∧ (runeL l).1 = at0 l 0) ∨ (128 ≤ at0 l 0 ∧ 2 ≤ longL l ∧ 128 ≤ (runeL l).1))) := by
  have hlen : 0 < l.length := List.length_pos_iff.mpr hl
  have b0 := at0_lt l 0; have b1 := at0_lt l 1; have b2 := at0_lt l 2; have b3 := at0_lt l 3
  have u : ∀ k (x : Int), x = at0 l k → x.toNat.toUInt8 = l.getD k 0 := fun k x h => u8_of _ _ h
  by_cases c1 : at0 l 0 < 128
  · right
    have e1 : longL l = 1 := by simp [longL, c1]
    have e2 : runeL l = (at0 l 0, 1) := by simp [runeL, c1]
    rw [e1, e2]
    refine ⟨by omega, by omega, by omega, rfl, ?_, Or.inl ⟨c1, rfl, rfl⟩⟩
    rw [take_getD l 1 (by omega)]
    simp only [Lib.encodeRune, Lib.encodeRuneZ_one (r := (at0 l 0 : Int)) (by omega) (by omega)]
    simp [List.range_succ, at0]
  by_cases c2 : 194 ≤ at0 l 0 ∧ at0 l 0 ≤ 223 ∧ 1 < l.length ∧ 128 ≤ at0 l 1 ∧ at0 l 1 ≤ 191
  · right
    obtain ⟨h1, h2, h3, h4, h5⟩ := c2
    have e1 : longL l = 2 := by simp [longL, contL, c1, h1, h2, h3, h4, h5]
    have e2 : runeL l = ((at0 l 0 % 32) * 64 + at0 l 1 % 64, 2) := by
      have a1 : at0 l 0 / 32 = 6 := by omega
      have a2 : at0 l 1 / 64 = 2 := by omega
      have a3 : 128 ≤ (at0 l 0 % 32) * 64 + at0 l 1 % 64 := by omega
      simp [runeL, c1, a1, a2, a3, h3]
    rw [e1, e2]
    refine ⟨by omega, by omega, by omega, rfl, ?_, Or.inr ⟨by omega, by omega, by show 128 ≤ (at0 l 0 % 32) * 64 + at0 l 1 % 64; omega⟩⟩
    rw [take_getD l 2 (by omega)]
    simp only [Lib.encodeRune, Lib.encodeRuneZ_two (r := (((at0 l 0 % 32) * 64 + at0 l 1 % 64 : Nat) : Int)) (by omega) (by omega)]
    simp only [List.map_cons, List.map_nil, List.range_succ, List.range_zero, List.nil_append, List.cons_append]
    rw [u 0 _ (by omega), u 1 _ (by omega)]
  by_cases c3 : 224 ≤ at0 l 0 ∧ at0 l 0 ≤ 239 ∧ 1 < l.length ∧ (if at0 l 0 = 224 then 160 else 128) ≤ at0 l 1 ∧ at0 l 1 ≤ (if at0 l 0 = 237 then 159 else 191) ∧ 2 < l.length ∧ 128 ≤ at0 l 2 ∧ at0 l 2 ≤ 191
  · right
    obtain ⟨h1, h2, h3, h4, h5, h6, h7, h8⟩ := c3
    have n2 : ¬ at0 l 0 ≤ 223 := by omega
    have e1 : longL l = 3 := by
      unfold longL
      rw [if_neg c1, if_neg (by simp; omega), if_pos (by simp [contL, h1, h2, h3, h4, h5, h6, h7, h8])]
    have e2 : runeL l = ((at0 l 0 % 16) * 4096 + (at0 l 1 % 64) * 64 + at0 l 2 % 64, 3) := by
      have a1 : at0 l 0 / 32 ≠ 6 := by omega
      have a0 : at0 l 0 / 16 = 14 := by omega
      have a2 : at0 l 1 / 64 = 2 := by split at h4 <;> split at h5 <;> omega
      have a4 : at0 l 2 / 64 = 2 := by omega
      have a3 : 2048 ≤ (at0 l 0 % 16) * 4096 + (at0 l 1 % 64) * 64 + at0 l 2 % 64 := by split at h4 <;> split at h5 <;> omega
      have a5 : Utf8.valid (((at0 l 0 % 16) * 4096 + (at0 l 1 % 64) * 64 + at0 l 2 % 64 : Nat) : Int) = true := by
        rw [valid_iff]
        apply decide_eq_true
        split at h4 <;> split at h5 <;> omega
      unfold runeL
      simp only
      rw [if_neg c1, if_neg (by simp [a1]), if_pos (by simp [a0, a2, a4, h3, h6]), if_pos (by rw [a5]; simp [a3])]
    rw [e1, e2]
    have hr : (2048 ≤ (((at0 l 0 % 16) * 4096 + (at0 l 1 % 64) * 64 + at0 l 2 % 64 : Nat) : Int) ∧ (((at0 l 0 % 16) * 4096 + (at0 l 1 % 64) * 64 + at0 l 2 % 64 : Nat) : Int) < 55296) ∨ (57343 < (((at0 l 0 % 16) * 4096 + (at0 l 1 % 64) * 64 + at0 l 2 % 64 : Nat) : Int) ∧ (((at0 l 0 % 16) * 4096 + (at0 l 1 % 64) * 64 + at0 l 2 % 64 : Nat) : Int) ≤ 65535) := by
      split at h4 <;> split at h5 <;> omega
    have g1 : 128 ≤ at0 l 1 ∧ at0 l 1 ≤ 191 := by split at h4 <;> split at h5 <;> omega
    refine ⟨by omega, by omega, by omega, rfl, ?_, Or.inr ⟨by omega, by omega, by show 128 ≤ (at0 l 0 % 16) * 4096 + (at0 l 1 % 64) * 64 + at0 l 2 % 64; omega⟩⟩
    rw [take_getD l 3 (by omega)]
    simp only [Lib.encodeRune, Lib.encodeRuneZ_three hr]
    simp only [List.map_cons, List.map_nil, List.range_succ, List.range_zero, List.nil_append, List.cons_append]
    rw [u 0 _ (by omega), u 1 _ (by omega), u 2 _ (by omega)]
  by_cases c4 : 240 ≤ at0 l 0 ∧ at0 l 0 ≤ 244 ∧ 1 < l.length ∧ (if at0 l 0 = 240 then 144 else 128) ≤ at0 l 1 ∧ at0 l 1 ≤ (if at0 l 0 = 244 then 143 else 191) ∧ 2 < l.length ∧ 128 ≤ at0 l 2 ∧ at0 l 2 ≤ 191 ∧ 3 < l.length ∧ 128 ≤ at0 l 3 ∧ at0 l 3 ≤ 191
  · right
    obtain ⟨h1, h2, h3, h4, h5, h6, h7, h8, h9, h10, h11⟩ := c4
    have e1 : longL l = 4 := by
      unfold longL
      rw [if_neg c1, if_neg (by simp; omega), if_neg (by simp; omega), if_pos (by simp [contL, h1, h2, h3, h4, h5, h6, h7, h8, h9, h10, h11])]
    have g1 : 128 ≤ at0 l 1 ∧ at0 l 1 ≤ 191 := by split at h4 <;> split at h5 <;> omega
    have g2 : 65536 ≤ (at0 l 0 % 8) * 262144 + (at0 l 1 % 64) * 4096 + (at0 l 2 % 64) * 64 + at0 l 3 % 64 ∧ (at0 l 0 % 8) * 262144 + (at0 l 1 % 64) * 4096 + (at0 l 2 % 64) * 64 + at0 l 3 % 64 ≤ 1114111 := by
      split at h4 <;> split at h5 <;> omega
    have e2 : runeL l = ((at0 l 0 % 8) * 262144 + (at0 l 1 % 64) * 4096 + (at0 l 2 % 64) * 64 + at0 l 3 % 64, 4) := by
      have a1 : at0 l 0 / 32 ≠ 6 := by omega
      have a0 : at0 l 0 / 16 ≠ 14 := by omega
      have a6 : at0 l 0 / 8 = 30 := by omega
      have a2 : at0 l 1 / 64 = 2 := by omega
      have a4 : at0 l 2 / 64 = 2 := by omega
      have a7 : at0 l 3 / 64 = 2 := by omega
      have a5 : Utf8.valid (((at0 l 0 % 8) * 262144 + (at0 l 1 % 64) * 4096 + (at0 l 2 % 64) * 64 + at0 l 3 % 64 : Nat) : Int) = true := by
        rw [valid_iff]
        apply decide_eq_true
        omega
      unfold runeL
      simp only
      rw [if_neg c1, if_neg (by simp [a1]), if_neg (by simp [a0]), if_pos (by simp [a6, a2, a4, a7, h3, h6, h9]), if_pos (by rw [a5]; simp; exact g2.1)]
    rw [e1, e2]
    refine ⟨by omega, by omega, by omega, rfl, ?_, Or.inr ⟨by omega, by omega, by show 128 ≤ (at0 l 0 % 8) * 262144 + (at0 l 1 % 64) * 4096 + (at0 l 2 % 64) * 64 + at0 l 3 % 64; omega⟩⟩
    rw [take_getD l 4 (by omega)]
    simp only [Lib.encodeRune, Lib.encodeRuneZ_four (r := (((at0 l 0 % 8) * 262144 + (at0 l 1 % 64) * 4096 + (at0 l 2 % 64) * 64 + at0 l 3 % 64 : Nat) : Int)) (by omega) (by omega)]
    simp only [List.map_cons, List.map_nil, List.range_succ, List.range_zero, List.nil_append, List.cons_append]
    rw [u 0 _ (by omega), u 1 _ (by omega), u 2 _ (by omega), u 3 _ (by omega)]
  · left
    have e1 : longL l = 0 := by
      unfold longL
      rw [if_neg c1, if_neg, if_neg, if_neg]
      · simp only [contL, Bool.and_eq_true, decide_eq_true_eq]
        rintro ⟨⟨⟨⟨p, q⟩, r, s, t⟩, r2, s2, t2⟩, r3, s3, t3⟩
        exact c4 ⟨p, q, r, s, t, r2, s2, t2, r3, s3, t3⟩
      · simp only [contL, Bool.and_eq_true, decide_eq_true_eq]
        rintro ⟨⟨⟨p, q⟩, r, s, t⟩, r2, s2, t2⟩
        exact c3 ⟨p, q, r, s, t, r2, s2, t2⟩
      · simp only [contL, Bool.and_eq_true, decide_eq_true_eq]
        rintro ⟨⟨p, q⟩, r, s, t⟩
        exact c2 ⟨p, q, r, s, t⟩
    refine ⟨e1, ?_, by omega⟩
    unfold runeL
    simp only
    rw [if_neg c1]
    split
    · rename_i h
      simp only [Bool.and_eq_true, decide_eq_true_eq, beq_iff_eq] at h
      rw [if_neg (by intro z; apply c2; refine ⟨by omega, by omega, h.2.1, by omega, by omega⟩)]
      rfl
    split
    · rename_i h
      simp only [Bool.and_eq_true, decide_eq_true_eq, beq_iff_eq] at h
      rw [if_neg]
      · rfl
      · rw [valid_iff]
        simp only [Bool.and_eq_true, decide_eq_true_eq]
        rintro ⟨z, y⟩
        apply c3
        refine ⟨by omega, by omega, h.1.2.1, ?_, ?_, h.2.1, by omega, by omega⟩
        · split <;> omega
        · split <;> omega
    split
    · rename_i h
      simp only [Bool.and_eq_true, decide_eq_true_eq, beq_iff_eq] at h
      rw [if_neg]
      · rfl
      · rw [valid_iff]
        simp only [Bool.and_eq_true, decide_eq_true_eq]
        rintro ⟨z, y⟩
        apply c4
        refine ⟨by omega, by omega, h.1.1.2.1, ?_, ?_, h.1.2.1, by omega, by omega, h.2.1, by omega, by omega⟩
        · split <;> omega
        · split <;> omega
    · rfl

theorem longL_1 {l : List UInt8} (h : at0 l 0 < 128) : longL l = 1 := by unfold longL; rw [if_pos h]
theorem longL_2 {l : List UInt8} (h : 194 ≤ at0 l 0) (h2 : at0 l 0 ≤ 223) : longL l = if contL l 1 128 191 then 2 else 0 := by
  unfold longL
  rw [if_neg (by omega)]
  cases hc : contL l 1 128 191
  · rw [if_neg (by simp), if_neg (by simp; omega), if_neg (by simp; omega), if_neg (by simp)]
  · rw [if_pos (by simp; omega), if_pos rfl]
theorem longL_3 {l : List UInt8} (h : 224 ≤ at0 l 0) (h2 : at0 l 0 ≤ 239) {lo hi : Nat} (hlo : lo = if at0 l 0 = 224 then 160 else 128) (hhi : hi = if at0 l 0 = 237 then 159 else 191) :
    longL l = if contL l 1 lo hi && contL l 2 128 191 then 3 else 0 := by
  unfold longL
  rw [if_neg (by omega), if_neg (by simp; omega), ← hlo, ← hhi]
  have a : (decide (224 ≤ at0 l 0) && decide (at0 l 0 ≤ 239)) = true := by simp; omega
  have b : (decide (240 ≤ at0 l 0) && decide (at0 l 0 ≤ 244)) = false := by simp; omega
  rw [a, b]
  simp
theorem longL_4 {l : List UInt8} (h : 240 ≤ at0 l 0) (h2 : at0 l 0 ≤ 244) {lo hi : Nat} (hlo : lo = if at0 l 0 = 240 then 144 else 128) (hhi : hi = if at0 l 0 = 244 then 143 else 191) :
    longL l = if contL l 1 lo hi && contL l 2 128 191 && contL l 3 128 191 then 4 else 0 := by
  unfold longL
  rw [if_neg (by omega), if_neg (by simp; omega), if_neg (by simp; omega), ← hlo, ← hhi]
  have b : (decide (240 ≤ at0 l 0) && decide (at0 l 0 ≤ 244)) = true := by simp; omega
  rw [b]
  simp
theorem longL_0 {l : List UInt8} (h : 128 ≤ at0 l 0) (h2 : at0 l 0 < 194 ∨ 245 ≤ at0 l 0) : longL l = 0 := by
  unfold longL
  rw [if_neg (by omega), if_neg (by simp; omega), if_neg (by simp; omega), if_neg (by simp; omega)]

/-- How far a step goes: the rune's bytes, or one. -/
def wid (l : List UInt8) : Nat := max (longL l) 1

theorem runeL_wid {l : List UInt8} (hl : l ≠ []) : (runeL l).2 = wid l := by
  unfold wid
  rcases rune_long l hl with ⟨h, h2, _⟩ | ⟨h, _, _, h2, _⟩
  · rw [h2, h]; rfl
  · rw [h2]; omega
theorem wid_pos (l : List UInt8) : 1 ≤ wid l := by unfold wid; omega
theorem wid_le {l : List UInt8} (hl : l ≠ []) : wid l ≤ l.length := by
  have := List.length_pos_iff.mpr hl
  unfold wid
  rcases rune_long l hl with ⟨h, _, _⟩ | ⟨_, h, _⟩ <;> omega

/-- The line and the column of a place, from a line and a column on. -/
def placeL : Nat → Int → List UInt8 → Nat → Nat → Nat × Nat
  | 0, _, _, a, b => (a, b)
  | f + 1, k, l, a, b => if l = [] ∨ k ≤ 0 then (a, b) else if at0 l 0 = 10 then placeL f (k - wid l) (l.drop (wid l)) (a + 1) 1 else placeL f (k - wid l) (l.drop (wid l)) a (b + 1)

theorem placeL_stop {f : Nat} {k : Int} {l : List UInt8} {a b : Nat} (h : l = [] ∨ k ≤ 0) : placeL f k l a b = (a, b) := by
  cases f with
  | zero => rfl
  | succ f => rw [placeL, if_pos h]

end Go.Proofs.YtimlblbmfckeiaaDoor.G
