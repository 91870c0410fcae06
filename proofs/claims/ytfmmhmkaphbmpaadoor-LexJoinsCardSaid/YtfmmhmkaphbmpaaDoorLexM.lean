/-
  Plain lists of bytes, no program: what stands between tokens, signs, keys, the kind of a word, one token, all tokens, and tokens joined. No conditions but those that each lemma names.
-/
import Derived.Test.YtfmmhmkaphbmpaaDoorGlyW
import Derived.Test.YtfmmhmkaphbmpaaDoorGlyN
import Derived.Test.YtfmmhmkaphbmpaaDoorGlyO
namespace Go.Proofs.YtfmmhmkaphbmpaaDoor.L
open Go

def blankB (c : UInt8) : Bool := c.toNat == 32 || c.toNat == 9 || c.toNat == 10
def lineB (c : UInt8) : Bool := c.toNat != 10
def goesB (c : UInt8) : Bool := behB (c.toNat : Int)
def digB (c : UInt8) : Bool := inB (c.toNat : Int) 48 57

/-- How many bytes at the head are such. -/
def runL (p : UInt8 → Bool) : List UInt8 → Nat
  | [] => 0
  | c :: r => if p c then runL p r + 1 else 0

/-- How many bytes at the head stand between tokens; true: within a remark. -/
def skipL : Bool → List UInt8 → Nat
  | _, [] => 0
  | false, c :: r => if blankB c then skipL false r + 1 else if c.toNat = 35 then skipL true r + 1 else 0
  | true, c :: r => if c.toNat = 10 then skipL false r + 1 else skipL true r + 1

def signsL : List (List UInt8) := [[45, 62], [61, 61], [38, 38], [124, 124], [43, 43], [40], [41], [123], [125], [91], [93], [44], [59], [58], [46], [61], [124], [43], [45], [42], [47], [60], [63], [33]]
def keysL : List (List UInt8) := [[105, 109, 112, 111, 114, 116], [100, 101, 102], [102, 117, 110], [108, 101, 116], [114, 101, 99], [105, 110], [105, 102], [116, 104, 101, 110], [101, 108, 115, 101], [99, 97, 115, 101], [111, 102], [101, 110, 100], [116, 114, 117, 101], [102, 97, 108, 115, 101], [117, 110, 105, 116], [105, 110, 116], [98, 111, 111, 108], [115, 116, 114, 105, 110, 103]]

/-- The first of some texts that a list begins with; none: the empty one. -/
def firstL (gs : List (List UInt8)) (l : List UInt8) : List UInt8 :=
  match gs with
  | [] => []
  | g :: r => if g.isPrefixOf l then g else firstL r l
def signL (l : List UInt8) : List UInt8 := firstL signsL l

def keyL (l : List UInt8) : Bool := keysL.contains l
def nameL (lo hi : Int) (l : List UInt8) : Bool :=
  match l with
  | [] => false
  | c :: r => inB (c.toNat : Int) lo hi && r.all goesB
def numL (l : List UInt8) : Bool := decide (0 < l.length) && (decide (l.length ≤ 18) && decide (runL digB l = l.length))

/-- The kind of what is made of letters, figures and _: 0: none. -/
def kindL (l : List UInt8) : Nat := if keyL l then 6 else if nameL 97 122 l then 1 else if nameL 65 90 l then 2 else if numL l then 3 else 0

structure Tok where
  kind : Nat
  text : List UInt8
  fr : Nat
  to : Nat

/-- The token at the head of what is not empty: its kind, its text, how many bytes it has. -/
def oneL (l : List UInt8) : Option (Nat × List UInt8 × Nat) :=
  if G.at0 l 0 = 34 then (match G.unqL l with | some x => some (4, x.1, x.2) | none => none)
  else if signL l ≠ [] then some (5, signL l, (signL l).length)
  else if kindL (l.take (runL goesB l)) = 0 then none
  else some (kindL (l.take (runL goesB l)), l.take (runL goesB l), runL goesB l)

/-- From place p on, with the tokens that were read: all tokens, or where there is none. -/
def toksF : Nat → Nat → List Tok → List UInt8 → Except Nat (List Tok)
  | 0, _, acc, _ => .ok acc
  | f + 1, p, acc, l =>
    if l = [] then .ok (acc ++ [⟨0, [], p, p⟩])
    else match oneL l with
      | none => .error p
      | some (k, x, n) => toksF f (p + n + skipL false (l.drop n)) (acc ++ [⟨k, x, p, p + n⟩]) ((l.drop n).drop (skipL false (l.drop n)))
def toksL (l : List UInt8) : Except Nat (List Tok) := toksF (l.length + 1) (skipL false l) [] (l.drop (skipL false l))

theorem runL_le (p : UInt8 → Bool) (l : List UInt8) : runL p l ≤ l.length := by
  induction l with
  | nil => simp [runL]
  | cons c r ih => unfold runL; split <;> simp <;> omega

theorem runL_step {p : UInt8 → Bool} {l : List UInt8} {k : Nat} (h : k < l.length) (hp : p l[k] = true) : runL p (l.drop k) = runL p (l.drop (k + 1)) + 1 := by
  rw [List.drop_eq_getElem_cons h, runL, if_pos hp]
theorem runL_stop {p : UInt8 → Bool} {l : List UInt8} {k : Nat} (h : k < l.length) (hp : p l[k] = false) : runL p (l.drop k) = 0 := by
  rw [List.drop_eq_getElem_cons h, runL, if_neg (by rw [hp]; simp)]
theorem runL_end {p : UInt8 → Bool} {l : List UInt8} {k : Nat} (h : l.length ≤ k) : runL p (l.drop k) = 0 := by
  rw [List.drop_eq_nil_of_le h, runL]

theorem runL_again (p : UInt8 → Bool) (l : List UInt8) : runL p (l.drop (runL p l)) = 0 := by
  induction l with
  | nil => simp [runL]
  | cons c r ih =>
    by_cases h : p c = true
    · rw [runL, if_pos h, List.drop_succ_cons, ih]
    · rw [runL, if_neg h, List.drop_zero, runL, if_neg h]

theorem skipL_le (b : Bool) (l : List UInt8) : skipL b l ≤ l.length := by
  induction l generalizing b with
  | nil => cases b <;> simp [skipL]
  | cons c r ih =>
    cases b
    · unfold skipL; split
      · have := ih false; simp; omega
      · split
        · have := ih true; simp; omega
        · simp
    · unfold skipL; split
      · have := ih false; simp; omega
      · have := ih true; simp; omega

theorem skipL_blank (l : List UInt8) : skipL false l = runL blankB l + skipL false (l.drop (runL blankB l)) := by
  induction l with
  | nil => simp [skipL, runL]
  | cons c r ih =>
    by_cases h : blankB c = true
    · rw [runL, if_pos h, List.drop_succ_cons, skipL, if_pos h, ih]; omega
    · rw [runL, if_neg h, List.drop_zero]; omega
theorem skipL_line (l : List UInt8) : skipL true l = runL lineB l + skipL false (l.drop (runL lineB l)) := by
  induction l with
  | nil => simp [skipL, runL]
  | cons c r ih =>
    by_cases h : c.toNat = 10
    · rw [runL, if_neg (by simp [lineB, h]), List.drop_zero]
      simp only [skipL, if_pos h]
      rw [if_pos (by simp [blankB, h])]; omega
    · rw [runL, if_pos (by simp [lineB, h]), List.drop_succ_cons, skipL, if_neg h, ih]; omega
theorem skipL_mark {l : List UInt8} (h : G.at0 l 0 = 35) : skipL false l = skipL true l := by
  cases l with
  | nil => rfl
  | cons c r =>
    have h : c.toNat = 35 := h
    rw [skipL, if_neg (by simp [blankB, h]), if_pos h, skipL, if_neg (by omega)]
theorem skipL_stop {l : List UInt8} (h : G.at0 l 0 ≠ 35) (hb : runL blankB l = 0) : skipL false l = 0 := by
  cases l with
  | nil => rfl
  | cons c r =>
    have h : c.toNat ≠ 35 := h
    have hb : ¬ blankB c = true := by
      intro hc
      rw [runL, if_pos hc] at hb
      omega
    rw [skipL, if_neg hb, if_neg h]

theorem unqF_le (f : Nat) : ∀ (p : Nat) (acc l : List UInt8) (x : List UInt8 × Nat), G.unqF f p acc l = some x → p < x.2 ∧ x.2 ≤ p + l.length := by
  induction f with
  | zero => intro p acc l x h; cases h
  | succ f ih =>
    intro p acc l x h
    rw [G.unqF] at h
    split at h
    · cases h
    rename_i hl
    have hpos : 0 < l.length := List.length_pos_iff.2 hl
    split at h
    · cases h
      exact ⟨by simp, by simp; omega⟩
    split at h
    · cases h
    rename_i hz
    split at h
    · rename_i h92
      split at h
      · cases h
      rename_i hne
      obtain ⟨_, _, hor⟩ := G.escL_facts l (by omega)
      rcases hor with h0 | ⟨h2, hle, _⟩
      · exact absurd h0 hne
      · have := ih _ _ _ _ h
        rw [List.length_drop] at this
        omega
    · have := ih _ _ _ _ h
      rw [List.length_drop] at this
      have hw := G.wid_le hl
      unfold G.wid at hw
      omega
theorem unqL_le {l : List UInt8} {x : List UInt8 × Nat} (h : G.unqL l = some x) : 2 ≤ x.2 ∧ x.2 ≤ l.length := by
  unfold G.unqL at h
  split at h
  · rename_i h34
    have := unqF_le _ _ _ _ _ h
    rw [List.length_drop] at this
    have hl : l ≠ [] := by
      rintro rfl
      exact absurd h34 (by decide)
    have := List.length_pos_iff.2 hl
    omega
  · cases h

theorem kindL_le (l : List UInt8) : kindL l ≤ 6 := by
  unfold kindL
  split
  · omega
  split
  · omega
  split
  · omega
  split <;> omega

end Go.Proofs.YtfmmhmkaphbmpaaDoor.L
