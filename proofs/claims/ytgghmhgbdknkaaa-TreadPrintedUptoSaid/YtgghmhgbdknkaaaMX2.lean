/-
  The texts LexM, LexC, LexW, LexT, LexK, LexN, LexA, LexO, LexR, LexS, LexG, LexP, LexI, LexJ, LexU, LexX, LexY, LexB, LexE, LexE2, LexE3, one behind the other. Conditions: those that each of them names.
-/
import Derived.Test.YtgghmhgbdknkaaaMX1
import Derived.Laws.Rows
import Derived.BigCall
import Derived.Laws.OwnMore
import Derived.BigQuiet
import Derived.Deep.QuietTactic
import Derived.IntWalk
section
/-
  Plain lists of bytes, no program: what stands between tokens, signs, keys, the kind of a word, one token, all tokens, and tokens joined. No conditions but those that each lemma names.
-/
namespace Go.Proofs.Ytgghmhgbdknkaaa.X.L
open Go

def blankB (c : UInt8) : Bool := c.toNat == 32 || c.toNat == 9 || c.toNat == 10
def lineB (c : UInt8) : Bool := c.toNat != 10
def goesB (c : UInt8) : Bool := behB (c.toNat : Int)
def digB (c : UInt8) : Bool := inB (c.toNat : Int) 48 57

/-- How many bytes at the head are such. -/
def runL (p : UInt8 → Bool) : List UInt8 → Nat
  | [] => 0
  | c :: r => if p c then runL p r + 1 else 0

/-- How many bytes at the head stand between tokens; true: within a remark. -/
def skipL : Bool → List UInt8 → Nat
  | _, [] => 0
  | false, c :: r => if blankB c then skipL false r + 1 else if c.toNat = 35 then skipL true r + 1 else 0
  | true, c :: r => if c.toNat = 10 then skipL false r + 1 else skipL true r + 1

def signsL : List (List UInt8) := [[45, 62], [61, 61], [38, 38], [124, 124], [43, 43], [40], [41], [123], [125], [91], [93], [44], [59], [58], [46], [61], [124], [43], [45], [42], [47], [60], [63], [33]]
def keysL : List (List UInt8) := [[105, 109, 112, 111, 114, 116], [100, 101, 102], [102, 117, 110], [108, 101, 116], [114, 101, 99], [105, 110], [105, 102], [116, 104, 101, 110], [101, 108, 115, 101], [99, 97, 115, 101], [111, 102], [101, 110, 100], [116, 114, 117, 101], [102, 97, 108, 115, 101], [117, 110, 105, 116], [105, 110, 116], [98, 111, 111, 108], [115, 116, 114, 105, 110, 103]]

/-- The first of some texts that a list begins with; none: the empty one. -/
def firstL (gs : List (List UInt8)) (l : List UInt8) : List UInt8 :=
  match gs with
  | [] => []
  | g :: r => if g.isPrefixOf l then g else firstL r l
def signL (l : List UInt8) : List UInt8 := firstL signsL l

def keyL (l : List UInt8) : Bool := keysL.contains l
def nameL (lo hi : Int) (l : List UInt8) : Bool :=
  match l with
  | [] => false
  | c :: r => inB (c.toNat : Int) lo hi && r.all goesB
def numL (l : List UInt8) : Bool := decide (0 < l.length) && (decide (l.length ≤ 18) && decide (runL digB l = l.length))

/-- The kind of what is made of letters, figures and _: 0: none. -/
def kindL (l : List UInt8) : Nat := if keyL l then 6 else if nameL 97 122 l then 1 else if nameL 65 90 l then 2 else if numL l then 3 else 0

structure Tok where
  kind : Nat
  text : List UInt8
  fr : Nat
  to : Nat

/-- The token at the head of what is not empty: its kind, its text, how many bytes it has. -/
def oneL (l : List UInt8) : Option (Nat × List UInt8 × Nat) :=
  if G.at0 l 0 = 34 then (match G.unqL l with | some x => some (4, x.1, x.2) | none => none)
  else if signL l ≠ [] then some (5, signL l, (signL l).length)
  else if kindL (l.take (runL goesB l)) = 0 then none
  else some (kindL (l.take (runL goesB l)), l.take (runL goesB l), runL goesB l)

/-- From place p on, with the tokens that were read: all tokens, or where there is none. -/
def toksF : Nat → Nat → List Tok → List UInt8 → Except Nat (List Tok)
  | 0, _, acc, _ => .ok acc
  | f + 1, p, acc, l =>
    if l = [] then .ok (acc ++ [⟨0, [], p, p⟩])
    else match oneL l with
      | none => .error p
      | some (k, x, n) => toksF f (p + n + skipL false (l.drop n)) (acc ++ [⟨k, x, p, p + n⟩]) ((l.drop n).drop (skipL false (l.drop n)))
def toksL (l : List UInt8) : Except Nat (List Tok) := toksF (l.length + 1) (skipL false l) [] (l.drop (skipL false l))

theorem runL_le (p : UInt8 → Bool) (l : List UInt8) : runL p l ≤ l.length := by
  induction l with
  | nil => simp [runL]
  | cons c r ih => unfold runL; split <;> simp <;> omega

theorem runL_step {p : UInt8 → Bool} {l : List UInt8} {k : Nat} (h : k < l.length) (hp : p l[k] = true) : runL p (l.drop k) = runL p (l.drop (k + 1)) + 1 := by
  rw [List.drop_eq_getElem_cons h, runL, if_pos hp]
theorem runL_stop {p : UInt8 → Bool} {l : List UInt8} {k : Nat} (h : k < l.length) (hp : p l[k] = false) : runL p (l.drop k) = 0 := by
  rw [List.drop_eq_getElem_cons h, runL, if_neg (by rw [hp]; simp)]
theorem runL_end {p : UInt8 → Bool} {l : List UInt8} {k : Nat} (h : l.length ≤ k) : runL p (l.drop k) = 0 := by
  rw [List.drop_eq_nil_of_le h, runL]

theorem runL_again (p : UInt8 → Bool) (l : List UInt8) : runL p (l.drop (runL p l)) = 0 := by
  induction l with
  | nil => simp [runL]
  | cons c r ih =>
    by_cases h : p c = true
    · rw [runL, if_pos h, List.drop_succ_cons, ih]
    · rw [runL, if_neg h, List.drop_zero, runL, if_neg h]

theorem skipL_le (b : Bool) (l : List UInt8) : skipL b l ≤ l.length := by
  induction l generalizing b with
  | nil => cases b <;> simp [skipL]
  | cons c r ih =>
    cases b
    · unfold skipL; split
      · have := ih false; simp; omega
      · split
        · have := ih true; simp; omega
        · simp
    · unfold skipL; split
      · have := ih false; simp; omega
      · have := ih true; simp; omega

theorem skipL_blank (l : List UInt8) : skipL false l = runL blankB l + skipL false (l.drop (runL blankB l)) := by
  induction l with
  | nil => simp [skipL, runL]
  | cons c r ih =>
    by_cases h : blankB c = true
    · rw [runL, if_pos h, List.drop_succ_cons, skipL, if_pos h, ih]; omega
    · rw [runL, if_neg h, List.drop_zero]; omega
theorem skipL_line (l : List UInt8) : skipL true l = runL lineB l + skipL false (l.drop (runL lineB l)) := by
  induction l with
  | nil => simp [skipL, runL]
  | cons c r ih =>
    by_cases h : c.toNat = 10
    · rw [runL, if_neg (by simp [lineB, h]), List.drop_zero]
      simp only [skipL, if_pos h]
      rw [if_pos (by simp [blankB, h])]; omega
    · rw [runL, if_pos (by simp [lineB, h]), List.drop_succ_cons, skipL, if_neg h, ih]; omega
theorem skipL_mark {l : List UInt8} (h : G.at0 l 0 = 35) : skipL false l = skipL true l := by
  cases l with
  | nil => rfl
  | cons c r =>
    have h : c.toNat = 35 := h
    rw [skipL, if_neg (by simp [blankB, h]), if_pos h, skipL, if_neg (by omega)]
theorem skipL_stop {l : List UInt8} (h : G.at0 l 0 ≠ 35) (hb : runL blankB l = 0) : skipL false l = 0 := by
  cases l with
  | nil => rfl
  | cons c r =>
    have h : c.toNat ≠ 35 := h
    have hb : ¬ blankB c = true := by
      intro hc
      rw [runL, if_pos hc] at hb
      omega
    rw [skipL, if_neg hb, if_neg h]

theorem unqF_le (f : Nat) : ∀ (p : Nat) (acc l : List UInt8) (x : List UInt8 × Nat), G.unqF f p acc l = some x → p < x.2 ∧ x.2 ≤ p + l.length := by
  induction f with
  | zero => intro p acc l x h; cases h
  | succ f ih =>
    intro p acc l x h
    rw [G.unqF] at h
    split at h
    · cases h
    rename_i hl
    have hpos : 0 < l.length := List.length_pos_iff.2 hl
    split at h
    · cases h
      exact ⟨by simp, by simp; omega⟩
    split at h
    · cases h
    rename_i hz
    split at h
    · rename_i h92
      split at h
      · cases h
      rename_i hne
      obtain ⟨_, _, hor⟩ := G.escL_facts l (by omega)
      rcases hor with h0 | ⟨h2, hle, _⟩
      · exact absurd h0 hne
      · have := ih _ _ _ _ h
        rw [List.length_drop] at this
        omega
    · have := ih _ _ _ _ h
      rw [List.length_drop] at this
      have hw := G.wid_le hl
      unfold G.wid at hw
      omega
theorem unqL_le {l : List UInt8} {x : List UInt8 × Nat} (h : G.unqL l = some x) : 2 ≤ x.2 ∧ x.2 ≤ l.length := by
  unfold G.unqL at h
  split at h
  · rename_i h34
    have := unqF_le _ _ _ _ _ h
    rw [List.length_drop] at this
    have hl : l ≠ [] := by
      rintro rfl
      exact absurd h34 (by decide)
    have := List.length_pos_iff.2 hl
    omega
  · cases h

theorem kindL_le (l : List UInt8) : kindL l ≤ 6 := by
  unfold kindL
  split
  · omega
  split
  · omega
  split
  · omega
  split <;> omega

end Go.Proofs.Ytgghmhgbdknkaaa.X.L
end

section
/-
  The walks of the small functions of lex: tests of one byte, endOf with each of its tests, skip. Conditions: the arguments' ranges.
-/
namespace Go.Proofs.Ytgghmhgbdknkaaa.X
open Go.RowKit

end Go.Proofs.Ytgghmhgbdknkaaa.X
end

section
/-
  The walk of lex's skip: what stands between tokens. Condition: a text of at most 2000000 bytes.
-/
namespace Go.Proofs.Ytgghmhgbdknkaaa.X
open Go.RowKit

theorem byte_is (s : ByteArray) (k : Nat) (h : k < s.size) : (s[k]'h).toNat = G.at0 (s.data.toList.drop k) 0 := byteAt_eq s k h

end Go.Proofs.Ytgghmhgbdknkaaa.X
end

section
/-
  The two tables of lex, as a world holds them, and the walks of IsKey and of the function that signsOf returns. Conditions: the tables hold what the program's text says; a text of at most 2000000 bytes.
-/
namespace Go.Proofs.Ytgghmhgbdknkaaa.X
open Go.RowKit

def strV (g : List UInt8) : Value := .string ⟨g.toArray⟩
def rowV (gs : List (List UInt8)) : Array Value := (gs.map strV).toArray

theorem rowV_size (gs : List (List UInt8)) : (rowV gs).size = gs.length := by simp [rowV]

/-- The two tables stand in the first two blocks. -/
def Tab (w : World) : Prop :=
  (∃ t fr, w.heap[0]? = some (.cells (rowV L.keysL) t fr)) ∧ (∃ t fr, w.heap[1]? = some (.cells (rowV L.signsL) t fr))

theorem Tab.size {w : World} (h : Tab w) : 2 ≤ w.heap.size := by
  obtain ⟨_, _, _, h⟩ := h
  have := (Array.getElem?_eq_some_iff.1 h).1
  omega
theorem Tab.below {B : Nat} {w w' : World} (h : Tab w) (hb : Below B w w') (hB : 2 ≤ B) : Tab w' := by
  obtain ⟨⟨t, fr, h1⟩, u, gr, h2⟩ := h
  exact ⟨⟨t, fr, (hb.block 0 (by omega)).trans h1⟩, u, gr, (hb.block 1 (by omega)).trans h2⟩
theorem Tab.grows {w w' : World} (h : Tab w) (hb : Below w.heap.size w w') : Tab w' := h.below hb h.size

theorem bytes_eq (s : ByteArray) (g : List UInt8) : (s.toList == (⟨g.toArray⟩ : ByteArray).toList) = (s.data.toList == g) := by
  rw [Lib.toList_data, Lib.toList_data]

theorem keys_step (l : List UInt8) (k : Nat) (h : k < 18) : (L.keysL.drop k).contains l = ((l == L.keysL.getD k []) || (L.keysL.drop (k + 1)).contains l) := by
  have hl : k < L.keysL.length := h
  rw [List.drop_eq_getElem_cons hl, List.contains_cons, List.getD_eq_getElem?_getD, List.getElem?_eq_getElem hl]
  rfl

theorem signs_step (l : List UInt8) (k : Nat) (h : k < 24) : L.firstL (L.signsL.drop k) l = if (L.signsL.getD k []).isPrefixOf l then L.signsL.getD k [] else L.firstL (L.signsL.drop (k + 1)) l := by
  have hl : k < L.signsL.length := h
  rw [List.drop_eq_getElem_cons hl, L.firstL, List.getD_eq_getElem?_getD, List.getElem?_eq_getElem hl]
  rfl

end Go.Proofs.Ytgghmhgbdknkaaa.X
end

section
/-
  The walks of lex's isNumber, kindOf and quotedAt. Conditions: the tables hold what the program's text says; a text of at most 2000000 bytes.
-/
namespace Go.Proofs.Ytgghmhgbdknkaaa.X
open Go.RowKit

theorem allB_L (s : ByteArray) (f i : Nat) (h : s.size ≤ i + f) : allB f s i = (s.data.toList.drop i).all L.goesB := by
  induction f generalizing i with
  | zero =>
    rw [List.drop_eq_nil_of_le (by simp; omega)]
    rfl
  | succ f ih =>
    by_cases hi : i < s.size
    · have hl : i < s.data.toList.length := by simpa using hi
      rw [allB, if_pos hi, ih (i + 1) (by omega), List.drop_eq_getElem_cons hl, List.all_cons]
      rw [← byteAt_eq s i hi]
      rfl
    · rw [allB, if_neg hi, List.drop_eq_nil_of_le (by simp; omega)]
      rfl

theorem nameB_L (lo hi : Int) (s : ByteArray) : nameB lo hi s = L.nameL lo hi s.data.toList := by
  unfold nameB
  rw [allB_L s s.size 1 (by omega)]
  by_cases h : 0 < s.size
  · have hl : 0 < s.data.toList.length := by simpa using h
    rw [← byteAt_eq s 0 h]
    obtain ⟨c, r, hc⟩ : ∃ c r, s.data.toList = c :: r := by
      cases hh : s.data.toList with
      | nil => rw [hh] at hl; simp at hl
      | cons c r => exact ⟨c, r, rfl⟩
    have h0 : s[0]'h = c := by
      have : s.data.toList[0]'hl = c := by simp [hc]
      exact this
    rw [hc, h0]
    simp [L.nameL, h]
  · have h2 : s.data.toList.length = s.size := by simp
    have hl : s.data.toList = [] := List.eq_nil_of_length_eq_zero (by omega)
    rw [hl]
    simp [L.nameL, h]

/-- A new block of cells, in a world that has grown since: it reads as it was made, and nothing of it is frozen. -/
theorem new_cells {w w1 : World} {cs : Array Value} {t : TypeId} (h : Below (w.alloc (.cells cs t)).heap.size (w.alloc (.cells cs t)) w1) :
    (∀ i, w1.cell? ⟨w.heap.size, i, none⟩ = cs[i]?) ∧ (∀ i, w1.frozen? ⟨w.heap.size, i, none⟩ = false) ∧ w.heap.size < w1.heap.size := by
  have hb : w1.heap[w.heap.size]? = some (.cells cs t (0, 0)) := (h.block w.heap.size (by simp)).trans (heap_alloc_new w _)
  have hz := h.size
  simp at hz
  exact ⟨fun i => Lib.cell_of_heap hb i, fun i => Lib.frozen_of_heap hb i, by omega⟩

theorem new_below {w w1 : World} {o : Obj} (h : Below (w.alloc o).heap.size (w.alloc o) w1) : Below w.heap.size w w1 :=
  ((Below.refl _ _).alloc (Nat.le_refl _) _).trans (h.mono (by simp))
theorem below4 {w w1 : World} (h : Below w.heap.size w w1) (a b c d : Value) :
    Below w.heap.size w ((((w1.setCell ⟨w.heap.size, 0, none⟩ a).setCell ⟨w.heap.size, 1, none⟩ b).setCell ⟨w.heap.size, 2, none⟩ c).setCell ⟨w.heap.size, 3, none⟩ d) :=
  (((h.setCell (p := ⟨w.heap.size, 0, none⟩) (Nat.le_refl _) _).setCell (p := ⟨w.heap.size, 1, none⟩) (Nat.le_refl _) _).setCell (p := ⟨w.heap.size, 2, none⟩) (Nat.le_refl _) _).setCell (p := ⟨w.heap.size, 3, none⟩) (Nat.le_refl _) _

/-- A token as a value. -/
def tokV (k : Nat) (x : List UInt8) (a b : Nat) : Value := .agg #[.int .i64 k, strV x, .int .i64 a, .int .i64 b]
def quoV (o : Option (List UInt8 × Nat)) (p : Nat) : Value := match o with | some x => tokV 4 x.1 p (p + x.2) | none => tokV 0 [] 0 0

end Go.Proofs.Ytgghmhgbdknkaaa.X
end

section
/-
  Plain lists of bytes, no program: what a token's kind, text and length are. No conditions but those that each lemma names.
-/
namespace Go.Proofs.Ytgghmhgbdknkaaa.X.L
open Go

theorem firstL_mem (gs : List (List UInt8)) (l : List UInt8) : firstL gs l = [] ∨ (firstL gs l ∈ gs ∧ firstL gs l <+: l) := by
  induction gs with
  | nil => exact Or.inl rfl
  | cons g r ih =>
    rw [firstL]
    split
    · rename_i hp
      exact Or.inr ⟨by simp, List.isPrefixOf_iff_prefix.1 hp⟩
    · rcases ih with h | ⟨h, h2⟩
      · exact Or.inl h
      · exact Or.inr ⟨by simp [h], h2⟩

theorem nameL_pos {lo hi : Int} {l : List UInt8} (h : nameL lo hi l = true) : 0 < l.length := by
  cases l with
  | nil => simp [nameL] at h
  | cons c r => simp
theorem kindL_pos {l : List UInt8} (h : kindL l ≠ 0) : 0 < l.length := by
  cases l with
  | nil => exact absurd (show kindL [] = 0 by decide) h
  | cons c r => simp

theorem oneL_facts {l : List UInt8} {k n : Nat} {x : List UInt8} (h : oneL l = some (k, x, n)) : 1 ≤ k ∧ k ≤ 6 ∧ 1 ≤ n ∧ n ≤ l.length := by
  unfold oneL at h
  split at h
  · split at h
    · rename_i y hy
      have := unqL_le hy
      cases h
      omega
    · cases h
  split at h
  · rename_i hs
    cases h
    have h2 : 0 < (signL l).length := List.length_pos_iff.2 hs
    rcases firstL_mem signsL l with h3 | ⟨_, h3⟩
    · exact absurd h3 hs
    · exact ⟨by omega, by omega, h2, h3.length_le⟩
  split at h
  · cases h
  · rename_i hk
    cases h
    have h1 := kindL_le (l.take (runL goesB l))
    have h2 := kindL_pos hk
    rw [List.length_take] at h2
    have h3 := runL_le goesB l
    omega

end Go.Proofs.Ytgghmhgbdknkaaa.X.L
end

section
/-
  The walk of lex's tokenAt: the token at a place, or none. Conditions: the tables hold what the program's text says, the function for signs holds the text, the place lies in the text; a text of at most 2000000 bytes.
-/
namespace Go.Proofs.Ytgghmhgbdknkaaa.X
open Go.RowKit

def oneV (o : Option (Nat × List UInt8 × Nat)) (p : Nat) : Value := match o with | some x => tokV x.1 x.2.1 p (p + x.2.2) | none => tokV 0 [] 0 0

theorem below1 {w w1 : World} (o : Obj) (h : Below (w.alloc o).heap.size (w.alloc o) w1) : Below w.heap.size w w1 := new_below h

theorem signL_len (l : List UInt8) : (L.signL l).length ≤ 2 ∧ (L.signL l).length ≤ l.length := by
  have h : ∀ gs : List (List UInt8), (∀ g ∈ gs, g.length ≤ 2) → (L.firstL gs l).length ≤ 2 ∧ (L.firstL gs l).length ≤ l.length := by
    intro gs
    induction gs with
    | nil => intro _; simp [L.firstL]
    | cons g r ih =>
      intro hg
      rw [L.firstL]
      split
      · rename_i hp
        exact ⟨hg g (by simp), (List.isPrefixOf_iff_prefix.1 hp).length_le⟩
      · exact ih fun x hx => hg x (by simp [hx])
  exact h _ (by decide)

theorem ne_list (g : List UInt8) : ((⟨g.toArray⟩ : ByteArray).toList != (⟨#[]⟩ : ByteArray).toList) = (g != []) := by
  rw [Lib.toList_data, Lib.toList_data]

end Go.Proofs.Ytgghmhgbdknkaaa.X
end

section
/-
  A row of tokens of the call's own, and what is kept of it. No conditions but those that each lemma names.
-/
namespace Go.Proofs.Ytgghmhgbdknkaaa.X
open Go.RowKit

def cellsT (l : List L.Tok) : List Value := l.flatMap fun t => [.int .i64 t.kind, strV t.text, .int .i64 t.fr, .int .i64 t.to]

theorem cellsT_len (l : List L.Tok) : (cellsT l).length = l.length * 4 := by
  induction l with
  | nil => rfl
  | cons t r ih => simp only [cellsT, List.flatMap_cons, List.length_append, List.length_cons, List.length_nil] at ih ⊢; omega

theorem cellsT_snoc (l : List L.Tok) (t : L.Tok) : cellsT (l ++ [t]) = cellsT l ++ [.int .i64 t.kind, strV t.text, .int .i64 t.fr, .int .i64 t.to] := by
  simp [cellsT]

/-- A slice value that holds just these tokens, in a block from B on. -/
def Own (B : Nat) (v : Value) (l : List L.Tok) (w : World) : Prop := w.ownsRow B 44 4 v l.length (cellsT l)

theorem grown_of_below {w w' : World} (h : Below w.heap.size w w') : w.grownBy w' none := ⟨h.os, h.tape, h.output, h.size, fun i hi _ => h.block i hi⟩

theorem Own.below {B : Nat} {v : Value} {l : List L.Tok} {w w' : World} (h : Own B v l w) (hb : Below w.heap.size w w') : Own B v l w' := by
  unfold Own at h ⊢
  by_cases hv : v.ownBlock = none
  · exact h.kept (grown_of_below hb) (Or.inl hv)
  · exact h.kept (grown_of_below hb) (Or.inr hv)
theorem Own.alloc {B : Nat} {v : Value} {l : List L.Tok} {w : World} (h : Own B v l w) (o : Obj) : Own B v l (w.alloc o) := World.ownsRow.alloc h o
theorem Own.nil (B : Nat) (w : World) : Own B (.slice none 0 0) [] w := World.ownsRow_nil w B _ 4

/-- A block of another element type is not the row's. -/
theorem Own.ne {B b : Nat} {v : Value} {l : List L.Tok} {w : World} {cs : Array Value} {t : TypeId} (h : Own B v l w) (hb : w.heap[b]? = some (.cells cs t (0, 0))) (ht : 44 ≠ t) : some b ≠ v.ownBlock := by
  intro he
  rcases h.2 with ⟨hv, _⟩ | ⟨g, cap, cur, hv, _, hh, _⟩
  · rw [hv] at he; cases he
  · rw [hv] at he
    have hbg : b = g := by simpa [Value.ownBlock] using he
    rw [hbg, hh] at hb
    injection hb with hb
    injection hb with _ h2
    exact ht h2

theorem Own.lt {B : Nat} {v : Value} {l : List L.Tok} {w : World} (h : Own B v l w) : ∀ k, v.ownBlock = some k → B ≤ k ∧ k < w.heap.size := World.ownsRow.lt h

theorem Own.snoc {B : Nat} {v : Value} {l : List L.Tok} {w : World} (t : L.Tok) (h : w.ownsRow B 44 4 v (l.length + 1) (cellsT l ++ [.int .i64 t.kind, strV t.text, .int .i64 t.fr, .int .i64 t.to])) : Own B v (l ++ [t]) w := by
  unfold Own
  rw [cellsT_snoc, List.length_append]
  exact h

theorem cells_new (w1 : World) (o : Obj) (cs : List Value) (t : TypeId) (j : Nat) (u : Value) (h : cs[j]? = some u) :
    ((w1.alloc o).alloc (.cells cs.toArray t)).cell? ((⟨w1.heap.size + 1, 0, none⟩ : Addr).add j) = some u := by
  have hb : ((w1.alloc o).alloc (.cells cs.toArray t)).heap[w1.heap.size + 1]? = some (.cells cs.toArray t (0, 0)) := by
    have := heap_alloc_new (w1.alloc o) (.cells cs.toArray t)
    simpa using this
  have hadd : (⟨w1.heap.size + 1, 0, none⟩ : Addr).add j = ⟨w1.heap.size + 1, j, none⟩ := by unfold Addr.add; split <;> simp_all
  rw [hadd, cell_of_row _ _ j _ t (0, 0) hb]
  simpa using h

/-- What an append of one token leaves: the row, the frame, each elder block but the row's own, and the token's block. -/
theorem push_step {B : Nat} {v v' : Value} {acc : List L.Tok} {w w1 w2 : World} (t : L.Tok) (cs : Array Value) (ty : TypeId) (o2 : Obj) (hO : w1.ownsRow B 44 4 v acc.length (cellsT acc)) (hB : Below B w w1) (hBs : B ≤ w.heap.size)
    (hown : w2.ownsRow B 44 4 v' (acc.length + 1) (cellsT acc ++ [.int .i64 t.kind, strV t.text, .int .i64 t.fr, .int .i64 t.to])) (hg : ((w1.alloc (.cells cs ty)).alloc o2).grownBy w2 v.ownBlock) :
    Own B v' (acc ++ [t]) w2 ∧ Below B w w2 ∧ (∀ b, b < w1.heap.size → some b ≠ v.ownBlock → w2.heap[b]? = w1.heap[b]?) ∧ w2.heap[w1.heap.size]? = some (.cells cs ty (0, 0)) := by
  have hlt := World.ownsRow.lt hO
  have hz : B ≤ w1.heap.size := Nat.le_trans hBs hB.size
  refine ⟨Own.snoc t hown, ?_, ?_, ?_⟩
  · exact ((hB.alloc hz _).alloc (by simp; omega) _).grown hg (by simp; omega) (fun k hk => (hlt k hk).1)
  · intro b hb hne
    rw [hg.block b (by simp; omega) hne, Lib.alloc_old _ _ b (by simp; omega), Lib.alloc_old _ _ b hb]
  · rw [hg.block w1.heap.size (by simp; omega) (fun e => by have := (hlt _ e.symm).2; omega), Lib.alloc_old _ _ _ (by simp)]
    exact heap_alloc_new w1 _

theorem cells_one (w1 : World) (cs : List Value) (t : TypeId) (j : Nat) (u : Value) (h : cs[j]? = some u) :
    (w1.alloc (.cells cs.toArray t)).cell? ((⟨w1.heap.size, 0, none⟩ : Addr).add j) = some u := by
  have hb : (w1.alloc (.cells cs.toArray t)).heap[w1.heap.size]? = some (.cells cs.toArray t (0, 0)) := heap_alloc_new w1 _
  have hadd : (⟨w1.heap.size, 0, none⟩ : Addr).add j = ⟨w1.heap.size, j, none⟩ := by unfold Addr.add; split <;> simp_all
  rw [hadd, cell_of_row _ _ j _ t (0, 0) hb]
  simpa using h
theorem push_last {B : Nat} {v v' : Value} {acc : List L.Tok} {w w1 w2 : World} (t : L.Tok) (o : Obj) (hO : w1.ownsRow B 44 4 v acc.length (cellsT acc)) (hB : Below B w w1) (hBs : B ≤ w.heap.size)
    (hown : w2.ownsRow B 44 4 v' (acc.length + 1) (cellsT acc ++ [.int .i64 t.kind, strV t.text, .int .i64 t.fr, .int .i64 t.to])) (hg : (w1.alloc o).grownBy w2 v.ownBlock) :
    Own B v' (acc ++ [t]) w2 ∧ Below B w w2 := by
  have hlt := World.ownsRow.lt hO
  have hz : B ≤ w1.heap.size := Nat.le_trans hBs hB.size
  exact ⟨Own.snoc t hown, (hB.alloc hz _).grown hg (by simp; omega) (fun k hk => (hlt k hk).1)⟩

theorem infoTok : (Try.prog.info? 44).map (fun i => (i.zero, i.size, i.bytes)) = some (some (.agg #[.int .i64 0, .string ⟨#[]⟩, .int .i64 0, .int .i64 0]), 4, 40) := by kernel_rfl

end Go.Proofs.Ytgghmhgbdknkaaa.X
end

section
/-
  The walk of lex's Tokens. Conditions: the tables hold what the program's text says; a text of at most 100000 bytes.
-/
namespace Go.Proofs.Ytgghmhgbdknkaaa.X
open Go.RowKit

/-- What Tokens returns. -/
def Toks (r : Except Nat (List L.Tok)) (w : World) (e : Ending) (w' : World) : Prop :=
  (match r with
   | .ok l => ∃ v, e = .returned (.tuple #[v, .int .i64 0, .int .i64 0]) ∧ Own w.heap.size v l w'
   | .error p => e = .returned (.tuple #[.slice none 0 0, .int .i64 p, .int .i64 2])) ∧ Below w.heap.size w w'

/-- What a round's head holds. -/
def TRel (s : ByteArray) (w : World) (vl va : Value) (wr : World) : Prop :=
  ∃ (p f : Nat) (acc : List L.Tok), va = .int .i64 p ∧ p ≤ s.size ∧ Own w.heap.size vl acc wr ∧ Below w.heap.size w wr ∧ wr.heap[w.heap.size]? = some (.cells #[.string s] 9 (0, 0)) ∧
    L.toksF f p acc (s.data.toList.drop p) = L.toksL s.data.toList ∧ s.size + 1 ≤ p + f ∧ acc.length ≤ p

theorem new_grows {w w1 : World} (h : Below w.heap.size w w1) (o : Obj) : Below w.heap.size w (w1.alloc o) := h.alloc h.size _

end Go.Proofs.Ytgghmhgbdknkaaa.X
end

section
/-
  The walks of the reference's small functions for lex: keys, signs, IsKey, goes, figure, between, sign. Conditions: the arguments' ranges.
-/
namespace Go.Proofs.Ytgghmhgbdknkaaa.X
open Go.RowKit

theorem refKeys_any (w : World) : Calls Try.prog 23 #[] w fun e w' => e = .returned (.slice (some ⟨w.heap.size, 0, none⟩) 18 18) ∧ w'.heap[w.heap.size]? = some (.cells (rowV L.keysL) 9 (0, 0)) ∧ Below w.heap.size w w' := by
  go_enter Try.func23, Try.ntmps23
  go_wp2
  go_ret
  exact ⟨rfl, heap_alloc_new w _, (Below.refl _ _).alloc (Nat.le_refl _) _⟩

theorem refSigns_any (w : World) : Calls Try.prog 44 #[] w fun e w' => e = .returned (.slice (some ⟨w.heap.size, 0, none⟩) 24 24) ∧ w'.heap[w.heap.size]? = some (.cells (rowV L.signsL) 9 (0, 0)) ∧ Below w.heap.size w w' := by
  go_enter Try.func44, Try.ntmps44
  go_wp2
  go_ret
  exact ⟨rfl, heap_alloc_new w _, (Below.refl _ _).alloc (Nat.le_refl _) _⟩

theorem beq_turn (a b : List UInt8) : (a == b) = (b == a) := by
  by_cases h : a = b
  · rw [h]
  · rw [beq_eq_false_iff_ne.2 h, beq_eq_false_iff_ne.2 (Ne.symm h)]

theorem rowV_get (gs : List (List UInt8)) (k : Nat) (h : k < gs.length) : (rowV gs)[k]? = some (strV (gs.getD k [])) := by
  simp [rowV, List.getD_eq_getElem?_getD, List.getElem?_eq_getElem h]

set_option maxHeartbeats 1000000 in
set_option maxRecDepth 100000 in
theorem refKey_any (s : ByteArray) (w : World) :
    Calls Try.prog 10 #[.string s] w fun e w' => e = .returned (.bool (L.keyL s.data.toList)) ∧ Below w.heap.size w w' := by
  have HK := hid (show L.keyL s.data.toList = (L.keysL.drop 0).contains s.data.toList from rfl)
  have HG : Hid (∀ k, k < 18 → (rowV L.keysL)[k]? = some (strV (L.keysL.getD k []))) := hid fun k h => rowV_get _ k h
  have HC := hid (refKeys_any w)
  generalize rowV L.keysL = K at *
  go_enter Try.func10, Try.ntmps10
  go_wp2_with fail
  refine (HC.out).mono ?_
  rintro e w1 ⟨rfl, hb, h1⟩
  have HB := hid fun k => Lib.cell_of_heap hb k
  clear hb
  go_wp2
  go_loop [4] (fun vi => ∃ k : Nat, k ≤ 18 ∧ vi = .int .i64 k ∧ (L.keysL.drop k).contains s.data.toList = L.keyL s.data.toList) (fun vi => 18 - (intOf vi).toNat)
  case atStart => exact ⟨0, by omega, rfl, rfl⟩
  case round =>
    obtain ⟨k, hk, rfl, hrun⟩ := hrel
    have HR := hid hrun
    clear hrun
    by_cases hlt : k < 18
    · have hx := (HB.out k).trans (HG.out k hlt)
      have HBE := hid (bytes_eq s (L.keysL.getD k []))
      have HBC : Hid (((⟨(L.keysL.getD k []).toArray⟩ : ByteArray).toList == s.toList) = (s.toList == (⟨(L.keysL.getD k []).toArray⟩ : ByteArray).toList)) := hid (beq_turn _ _)
      unfold strV at hx
      generalize (⟨(L.keysL.getD k []).toArray⟩ : ByteArray) = g at *
      have HST := hid (keys_step s.data.toList k hlt)
      rw [← HBE.out, ← HBC.out] at HST
      go_wp2
      · have ht : (g.toList == s.toList) = true := by assumption
        go_ret
        exact ⟨ret_bool (by rw [← HR.out, HST.out, ht]; rfl), h1⟩
      · have ht : (g.toList == s.toList) = false := by assumption
        go_round
        case rel => exact ⟨k + 1, by omega, by go_num, by rw [← HR.out, HST.out, ht]; rfl⟩
        case measure => simp [intOf]; omega
    · go_wp2
      go_ret
      obtain rfl : k = 18 := by omega
      exact ⟨ret_bool (by rw [← HR.out]; rfl), h1⟩

set_option maxHeartbeats 400000 in
theorem refFigure_any (c : Int) (w : World) : Calls Try.prog 34 #[.int .u8 c] w fun e w' => e = .returned (.bool (inB c 48 57)) ∧ w = w' := by
  go_enter Try.func34, Try.ntmps34
  go_wp2
  all_goals go_ret
  all_goals exact ⟨ret_bool (by first | rfl | (simp [inB]; done) | (rw [Bool.eq_iff_iff]; simp [inB]; omega)), rfl⟩

set_option maxHeartbeats 400000 in
theorem refGoes_any (c : Int) (w : World) : Calls Try.prog 33 #[.int .u8 c] w fun e w' => e = .returned (.bool (behB c)) ∧ w = w' := by
  go_enter Try.func33, Try.ntmps33
  go_wp2
  all_goals go_ret
  all_goals exact ⟨ret_bool (by rw [Bool.eq_iff_iff]; simp [behB, inB]; omega), rfl⟩

theorem skipL_in {l : List UInt8} {k : Nat} (h : k < l.length) (hb : L.blankB l[k] = true) : L.skipL false (l.drop k) = L.skipL false (l.drop (k + 1)) + 1 := by
  rw [List.drop_eq_getElem_cons h, L.skipL, if_pos hb]

set_option maxHeartbeats 2000000 in
set_option maxRecDepth 100000 in
theorem between_any (s : ByteArray) (hs : s.size ≤ 2000000) (at_ : Nat) (hat : at_ ≤ s.size) (w : World) :
    Calls Try.prog 24 #[.string s, .int .i64 at_] w fun e w' => e = .returned (.int .i64 ((at_ + L.skipL false (s.data.toList.drop at_) : Nat) : Int)) ∧ w = w' := by
  go_enter Try.func24, Try.ntmps24
  go_wp2
  go_loop [1] (fun vi => ∃ k : Nat, k ≤ s.size ∧ vi = .int .i64 k ∧ k + L.skipL false (s.data.toList.drop k) = at_ + L.skipL false (s.data.toList.drop at_)) (fun vi => s.size - (intOf vi).toNat)
  case atStart => exact ⟨at_, hat, rfl, rfl⟩
  case round =>
    obtain ⟨k, hk, rfl, hrun⟩ := hrel
    have HR := hid hrun
    clear hrun
    by_cases hlt : k < s.size
    · have hl : k < s.data.toList.length := by simpa using hlt
      have hbt := byte_is s k hlt
      by_cases hbl : L.blankB (s[k]'hlt) = true
      · have HB := hid (skipL_in hl hbl)
        have hor : (s[k]'hlt).toNat = 32 ∨ (s[k]'hlt).toNat = 9 ∨ (s[k]'hlt).toNat = 10 := by
          unfold L.blankB at hbl
          simp at hbl
          omega
        clear hbl hbt
        by_cases h32 : (s[k]'hlt).toNat = 32
        · have b1 : (((s[k]'hlt).toNat : Int) == 32) = true := beq_iff_eq.2 (by omega)
          clear h32 hor
          go_wp2
          go_round
          case rel => exact ⟨k + 1, by omega, by go_num, by have := HR.out; have := HB.out; omega⟩
          case measure => simp [intOf]; omega
        · have b1 : (((s[k]'hlt).toNat : Int) == 32) = false := beq_eq_false_iff_ne.2 (by omega)
          by_cases h9 : (s[k]'hlt).toNat = 9
          · have b2 : (((s[k]'hlt).toNat : Int) == 9) = true := beq_iff_eq.2 (by omega)
            clear h32 hor h9
            go_wp2
            go_round
            case rel => exact ⟨k + 1, by omega, by go_num, by have := HR.out; have := HB.out; omega⟩
            case measure => simp [intOf]; omega
          · have b2 : (((s[k]'hlt).toNat : Int) == 9) = false := beq_eq_false_iff_ne.2 (by omega)
            have b3 : (((s[k]'hlt).toNat : Int) == 10) = true := beq_iff_eq.2 (by omega)
            clear h32 hor h9
            go_wp2
            go_round
            case rel => exact ⟨k + 1, by omega, by go_num, by have := HR.out; have := HB.out; omega⟩
            case measure => simp [intOf]; omega
      · have hnb : (s[k]'hlt).toNat ≠ 32 ∧ (s[k]'hlt).toNat ≠ 9 ∧ (s[k]'hlt).toNat ≠ 10 := by
          unfold L.blankB at hbl
          simp at hbl
          omega
        obtain ⟨n1, n2, n3⟩ := hnb
        have b1 : (((s[k]'hlt).toNat : Int) == 32) = false := beq_eq_false_iff_ne.2 (by omega)
        have b2 : (((s[k]'hlt).toNat : Int) == 9) = false := beq_eq_false_iff_ne.2 (by omega)
        have b3 : (((s[k]'hlt).toNat : Int) == 10) = false := beq_eq_false_iff_ne.2 (by omega)
        have hr0 : L.runL L.blankB (s.data.toList.drop k) = 0 := L.runL_stop hl ((Bool.not_eq_true _).mp hbl)
        by_cases h35 : (s[k]'hlt).toNat = 35
        · have b4 : (((s[k]'hlt).toNat : Int) == 35) = true := beq_iff_eq.2 (by omega)
          have hm := L.skipL_mark (l := s.data.toList.drop k) (by omega)
          have h3 := L.skipL_line (s.data.toList.drop k)
          rw [← hm, List.drop_drop] at h3
          have h4 := L.runL_le L.lineB (s.data.toList.drop k)
          rw [List.length_drop] at h4
          have h6 : 1 ≤ L.runL L.lineB (s.data.toList.drop k) := by
            rw [L.runL_step hl (by show ((s[k]'hlt).toNat != 10) = true; rw [h35]; rfl)]; omega
          have hsz : s.data.toList.length = s.size := by simp
          rw [hsz] at h4
          obtain ⟨n, hn⟩ : ∃ n, L.runL L.lineB (s.data.toList.drop k) = n := ⟨_, rfl⟩
          rw [hn] at h3 h4 h6
          have HN := hid hn
          have H3 := hid h3
          have hkn : k + n ≤ s.size := by omega
          clear hn h3 hbl hbt hr0 hm h4 hsz n1 n2 n3 h35
          go_wp2
          go_loop [1] (fun vi => ∃ j : Nat, k ≤ j ∧ j ≤ s.size ∧ vi = .int .i64 j ∧ j + L.runL L.lineB (s.data.toList.drop j) = k + n) (fun vi => s.size - (intOf vi).toNat)
          case atStart => exact ⟨k, by omega, by omega, rfl, by rw [HN.out]⟩
          case round =>
            obtain ⟨j, hkj, hjs, rfl, hrel2⟩ := hrel
            have HJ := hid hrel2
            clear hrel2
            by_cases hj : j < s.size
            · have hlj : j < s.data.toList.length := by simpa using hj
              by_cases h10 : L.lineB (s[j]'hj) = true
              · have c1 : (((s[j]'hj).toNat : Int) != 10) = true := by
                  have : ((s[j]'hj).toNat != 10) = true := h10
                  simp at this
                  simp
                  omega
                have HS := hid (L.runL_step hlj h10)
                clear h10
                go_wp2
                go_round
                case rel => exact ⟨j + 1, by omega, by omega, by go_num, by have := HJ.out; have := HS.out; omega⟩
                case measure => simp [intOf]; omega
              · have c1 : (((s[j]'hj).toNat : Int) != 10) = false := by
                  have : ¬ ((s[j]'hj).toNat != 10) = true := h10
                  simp at this
                  simp
                  omega
                have HS := hid (L.runL_stop hlj ((Bool.not_eq_true _).mp h10))
                clear h10
                have hjn : j = k + n := by have := HJ.out; have := HS.out; omega
                subst hjn
                go_wp2
                go_round
                case rel => exact ⟨k + n, by omega, rfl, by have := HR.out; have := H3.out; omega⟩
                case measure => simp [intOf]; omega
            · have hjn : j = k + n := by
                have := HJ.out
                rw [L.runL_end (by simp; omega)] at this
                omega
              subst hjn
              go_wp2
              go_round
              case rel => exact ⟨k + n, by omega, rfl, by have := HR.out; have := H3.out; omega⟩
              case measure => simp [intOf]; omega
        · have b4 : (((s[k]'hlt).toNat : Int) == 35) = false := beq_eq_false_iff_ne.2 (by omega)
          have H0 := hid (L.skipL_stop (l := s.data.toList.drop k) (by omega) hr0)
          clear hbl hbt hr0 n1 n2 n3 h35
          go_wp2
          go_ret
          exact ⟨ret_int (by have := HR.out; have := H0.out; omega), rfl⟩
    · go_wp2
      go_ret
      exact ⟨ret_int (by have h := HR.out; have h2 : L.skipL false (s.data.toList.drop k) = 0 := by { rw [List.drop_eq_nil_of_le (by simp; omega)]; rfl }; omega), rfl⟩

end Go.Proofs.Ytgghmhgbdknkaaa.X
end

section
/-
  The walk of the reference's sign: the first sign that the text goes on with at a place. Condition: a text of at most 2000000 bytes.
-/
namespace Go.Proofs.Ytgghmhgbdknkaaa.X
open Go.RowKit

theorem below_drewN {B : Nat} {a w : World} (h : Below B a w) (n : Nat) : Below B a (w.drewN n) := ⟨h.os, h.tape, h.output, h.size, h.block⟩

theorem pre_cut {l g : List UInt8} : g.isPrefixOf l = (decide (g.length ≤ l.length) && (l.take g.length == g)) := by
  rw [Bool.eq_iff_iff]
  simp only [List.isPrefixOf_iff_prefix, Bool.and_eq_true, decide_eq_true_eq, beq_iff_eq]
  constructor
  · intro h
    exact ⟨h.length_le, (List.prefix_iff_eq_take.1 h).symm⟩
  · rintro ⟨_, h⟩
    rw [List.prefix_iff_eq_take]
    exact h.symm

set_option maxHeartbeats 2000000 in
set_option maxRecDepth 100000 in
theorem sign_any (s : ByteArray) (hs : s.size ≤ 2000000) (at_ : Nat) (hat : at_ ≤ s.size) (w : World) :
    Calls Try.prog 35 #[.string s, .int .i64 at_] w fun e w' => e = .returned (strV (L.signL (s.data.toList.drop at_))) ∧ Below w.heap.size w w' := by
  have HK := hid (show L.signL (s.data.toList.drop at_) = L.firstL (L.signsL.drop 0) (s.data.toList.drop at_) from rfl)
  have HG : Hid (∀ k, k < 24 → (rowV L.signsL)[k]? = some (strV (L.signsL.getD k []))) := hid fun k h => rowV_get _ k h
  have HM : Hid (∀ k, k < 24 → (L.signsL.getD k []).length ≤ 2) := hid (by decide)
  have HC := hid (refSigns_any w)
  generalize rowV L.signsL = K at *
  go_enter Try.func35, Try.ntmps35
  go_wp2_with fail
  refine (HC.out).mono ?_
  rintro e w1 ⟨rfl, hb, h1⟩
  have HB := hid fun k => Lib.cell_of_heap hb k
  clear hb
  go_wp2
  go_loopw [6] (fun vi wr => ∃ k n : Nat, wr = w1.drewN n ∧ k ≤ 24 ∧ vi = .int .i64 k ∧ L.firstL (L.signsL.drop k) (s.data.toList.drop at_) = L.signL (s.data.toList.drop at_)) (fun vi _ => 24 - (intOf vi).toNat)
  case atStart => exact ⟨0, 0, rfl, by omega, rfl, rfl⟩
  case round =>
    obtain ⟨k, n, rfl, hk, rfl, hrun⟩ := hrel
    have HR := hid hrun
    clear hrun
    by_cases hlt : k < 24
    · have hx := (HB.out k).trans (HG.out k hlt)
      have hml := HM.out k hlt
      have HST := signs_step (s.data.toList.drop at_) k hlt
      rw [pre_cut] at HST
      unfold strV at hx
      generalize L.signsL.getD k [] = g at *
      have hsz : (⟨g.toArray⟩ : ByteArray).size = g.length := by show g.toArray.size = _; simp
      have hdl : (s.data.toList.drop at_).length = s.size - at_ := by simp
      obtain ⟨G0, hG0⟩ : ∃ G0 : ByteArray, (⟨g.toArray⟩ : ByteArray) = G0 := ⟨_, rfl⟩
      rw [hG0] at hx hsz
      have hgl : g = G0.data.toList := by rw [← hG0]
      by_cases hfit : at_ + G0.size ≤ s.size
      · have d1 : decide ((at_ : Int) + (G0.size : Int) ≤ (s.size : Int)) = true := by simp; omega
        have hmz : G0.size ≤ 2 := by omega
        have HST' := hid (show L.firstL (L.signsL.drop k) (s.data.toList.drop at_) = if ((s.extract at_ (at_ + G0.size)).toList == G0.toList) = true then g else L.firstL (L.signsL.drop (k + 1)) (s.data.toList.drop at_) by
          rw [HST, hdl, ← hsz, decide_eq_true (show G0.size ≤ s.size - at_ by omega), Lib.toList_data, Lib.toList_data, cut_list, ← hgl]
          rfl)
        have HG0 := hid hG0
        clear HST hsz hgl hG0 hdl hml
        have e1 : IntKind.i64.wrap ((at_ : Int) + (G0.size : Int)) = (at_ : Int) + (G0.size : Int) := IntWalk.i64_in _ (by omega)
        have e2 : (0 : Int) ≤ (at_ : Int) + (G0.size : Int) := by omega
        have e3 : ((at_ : Int) + (G0.size : Int)).toNat = at_ + G0.size := by omega
        go_wp2
        go_quiet (fail)
        clear e1 e2 e3
        go_wp2
        · have ht : ((s.extract at_ (at_ + G0.size)).toList == G0.toList) = true := by assumption
          go_ret
          exact ⟨by rw [← HR.out, HST'.out, if_pos ht, ← HG0.out]; rfl, below_drewN h1 _⟩
        · have ht : ((s.extract at_ (at_ + G0.size)).toList == G0.toList) = false := by assumption
          go_roundw
          case rel => exact ⟨k + 1, _, rfl, by omega, by go_num, by rw [← HR.out, HST'.out, if_neg (by rw [ht]; simp)]⟩
          case measure => simp [intOf]; omega
      · have d1 : decide ((at_ : Int) + (G0.size : Int) ≤ (s.size : Int)) = false := by simp; omega
        have hmz : G0.size ≤ 2 := by omega
        have HST' := hid (show L.firstL (L.signsL.drop k) (s.data.toList.drop at_) = L.firstL (L.signsL.drop (k + 1)) (s.data.toList.drop at_) by
          rw [HST, hdl, ← hsz, decide_eq_false (show ¬ G0.size ≤ s.size - at_ by omega)]
          rfl)
        have HG0 := hid hG0
        clear HST hsz hgl hG0 hdl hml
        have e1 : IntKind.i64.wrap ((at_ : Int) + (G0.size : Int)) = (at_ : Int) + (G0.size : Int) := IntWalk.i64_in _ (by omega)
        have e2 : (0 : Int) ≤ (at_ : Int) + (G0.size : Int) := by omega
        have e3 : ((at_ : Int) + (G0.size : Int)).toNat = at_ + G0.size := by omega
        go_wp2
        go_quiet (fail)
        clear e1 e2 e3
        go_wp2
        go_roundw
        case rel => exact ⟨k + 1, _, rfl, by omega, by go_num, by rw [← HR.out, HST'.out]⟩
        case measure => simp [intOf]; omega
    · go_wp2
      go_ret
      obtain rfl : k = 24 := by omega
      exact ⟨by rw [← HR.out]; rfl, below_drewN h1 _⟩

end Go.Proofs.Ytgghmhgbdknkaaa.X
end

section
/-
  Plain lists of bytes, no program: a token as the reference tells it is the same. No conditions.
-/
namespace Go.Proofs.Ytgghmhgbdknkaaa.X.L
open Go

/-- The reference's order: tag, key, word, number, sign. -/
def oneR (l : List UInt8) : Option (Nat × List UInt8 × Nat) :=
  if G.at0 l 0 = 34 then (match G.unqL l with | some x => some (4, x.1, x.2) | none => none)
  else if nameL 65 90 (l.take (runL goesB l)) = true then some (2, l.take (runL goesB l), runL goesB l)
  else if keyL (l.take (runL goesB l)) = true then some (6, l.take (runL goesB l), runL goesB l)
  else if nameL 97 122 (l.take (runL goesB l)) = true then some (1, l.take (runL goesB l), runL goesB l)
  else if 0 < runL goesB l then (if runL digB (l.take (runL goesB l)) = runL goesB l ∧ runL goesB l ≤ 18 then some (3, l.take (runL goesB l), runL goesB l) else none)
  else if signL l ≠ [] then some (5, signL l, (signL l).length) else none

theorem sign_goes {l : List UInt8} (h : signL l ≠ []) : runL goesB l = 0 := by
  rcases firstL_mem signsL l with h3 | ⟨hm, hp⟩
  · exact absurd h3 h
  · have hall : ∀ g ∈ signsL, ∃ c r, g = c :: r ∧ goesB c = false := by
      intro g hg
      simp only [signsL, List.mem_cons, List.not_mem_nil, or_false] at hg
      rcases hg with rfl | rfl | rfl | rfl | rfl | rfl | rfl | rfl | rfl | rfl | rfl | rfl | rfl | rfl | rfl | rfl | rfl | rfl | rfl | rfl | rfl | rfl | rfl | rfl <;> exact ⟨_, _, rfl, by decide⟩
    obtain ⟨c, r, hc, hg⟩ := hall _ hm
    have hp2 : signL l <+: l := hp
    change signL l = c :: r at hc
    rw [hc] at hp2
    obtain ⟨t, ht⟩ := hp2
    rw [← ht]
    simp [runL, hg]

theorem key_word {l : List UInt8} (h : keyL l = true) : nameL 97 122 l = true := by
  have hm : l ∈ keysL := by simpa [keyL] using h
  simp only [keysL, List.mem_cons, List.not_mem_nil, or_false] at hm
  rcases hm with rfl | rfl | rfl | rfl | rfl | rfl | rfl | rfl | rfl | rfl | rfl | rfl | rfl | rfl | rfl | rfl | rfl | rfl <;> decide

theorem tag_word {l : List UInt8} (h : nameL 65 90 l = true) : nameL 97 122 l = false := by
  cases l with
  | nil => rfl
  | cons c r =>
    simp only [nameL, Bool.and_eq_true] at h ⊢
    have h1 := h.1
    unfold inB at h1
    simp at h1
    have : inB (c.toNat : Int) 97 122 = false := by unfold inB; simp; omega
    rw [this]
    rfl

theorem oneR_eq (l : List UInt8) : oneR l = oneL l := by
  unfold oneR oneL
  split
  · rfl
  by_cases hs : signL l ≠ []
  · rw [if_pos hs, sign_goes hs, List.take_zero]
    rw [if_neg (by decide), if_neg (by decide), if_neg (by decide), if_neg (by omega), if_pos hs]
  · have hs0 : signL l = [] := by simpa using hs
    have hle := runL_le goesB l
    have hlen : (l.take (runL goesB l)).length = runL goesB l := by rw [List.length_take]; omega
    generalize runL goesB l = n at *
    generalize l.take n = x at *
    clear hs
    unfold kindL
    by_cases ht : nameL 65 90 x = true
    · have hw := tag_word ht
      have hk : keyL x = false := by
        cases hk : keyL x with
        | false => rfl
        | true => rw [key_word hk] at hw; cases hw
      simp [ht, hk, hw, hs0]
    · have ht := (Bool.not_eq_true _).mp ht
      by_cases hk : keyL x = true
      · simp [ht, hk, hs0]
      · have hk := (Bool.not_eq_true _).mp hk
        by_cases hw : nameL 97 122 x = true
        · simp [ht, hk, hw, hs0]
        · have hw := (Bool.not_eq_true _).mp hw
          by_cases h0 : 0 < n
          · by_cases hd : runL digB x = n ∧ n ≤ 18
            · have hn : numL x = true := by unfold numL; rw [hlen]; simp [h0, hd.1, hd.2]
              simp [ht, hk, hw, hs0, h0, hd, hn]
            · have hn : numL x = false := by
                unfold numL; rw [hlen]
                cases hb : decide (n ≤ 18) && decide (runL digB x = n) with
                | false => simp
                | true => simp at hb; exact absurd ⟨hb.2, hb.1⟩ hd
              simp [ht, hk, hw, hs0, h0, hd, hn]
          · have hn : numL x = false := by unfold numL; rw [hlen]; simp [h0]
            simp [ht, hk, hw, hs0, h0, hn]

end Go.Proofs.Ytgghmhgbdknkaaa.X.L
end

section
/-
  The walk of the reference's one: the token at a place, and whether there is one. Conditions: the place lies in the text; a text of at most 2000000 bytes.
-/
namespace Go.Proofs.Ytgghmhgbdknkaaa.X
open Go.RowKit

/-- What one returns: the token and true; or any token, and false. -/
def OneRes (o : Option (Nat × List UInt8 × Nat)) (p : Nat) (e : Ending) : Prop :=
  match o with
  | some x => e = .returned (.tuple #[tokV x.1 x.2.1 p (p + x.2.2), .bool true])
  | none => ∃ (k : Nat) (t : List UInt8) (a b : Nat), e = .returned (.tuple #[tokV k t a b, .bool false])

def OneLeft (o : Option (Nat × List UInt8 × Nat)) (p : Nat) (w : World) (e : Ending) (w' : World) : Prop := OneRes o p e ∧ Below w.heap.size w w'

theorem refGoes_v (c : UInt8) (b : Bool) (h : L.goesB c = b) (w : World) : Calls Try.prog 33 #[.int .u8 c.toNat] w fun e w' => e = .returned (.bool b) ∧ w = w' :=
  (refGoes_any c.toNat w).mono fun _ _ ⟨he, hw⟩ => ⟨he.trans (ret_bool h), hw⟩
theorem refFigure_v (c : UInt8) (b : Bool) (h : L.digB c = b) (w : World) : Calls Try.prog 34 #[.int .u8 c.toNat] w fun e w' => e = .returned (.bool b) ∧ w = w' :=
  (refFigure_any c.toNat w).mono fun _ _ ⟨he, hw⟩ => ⟨he.trans (ret_bool h), hw⟩

set_option maxHeartbeats 1000000 in
set_option maxRecDepth 100000 in
theorem one_quoted (s : ByteArray) (hs : s.size ≤ 2000000) (p : Nat) (hp : p < s.size) (hq : G.at0 (s.data.toList.drop p) 0 = 34) (w : World) :
    Calls Try.prog 25 #[.string s, .int .i64 p] w (OneLeft (L.oneL (s.data.toList.drop p)) p w) := by
  have hbt := byte_is s p hp
  have h34 : (((s[p]'hp).toNat : Int) == 34) = true := beq_iff_eq.2 (by omega)
  have hu : ∀ w, Calls Try.prog 32 #[.string (s.extract p s.size)] w fun e w' => e = .returned (unqV (G.unqL (s.data.toList.drop p))) ∧ Below w.heap.size w w' :=
    fun w => (refUnquote_any _ (by simp; omega) w).mono fun _ _ ⟨he, hx⟩ => ⟨by rw [he, ext_end], hx⟩
  have hn : ∀ x, G.unqL (s.data.toList.drop p) = some x → x.2 ≤ 2000000 := fun x hx => by
    have h1 := L.unqL_le hx
    have h2 : (s.data.toList.drop p).length = s.size - p := by simp
    omega
  cases ho : G.unqL (s.data.toList.drop p) with
  | none =>
    rw [ho] at hu
    have HU : Hid (∀ w, Calls Try.prog 32 #[.string (s.extract p s.size)] w fun e w' => e = .returned (.tuple #[.string ⟨#[]⟩, .int .i64 0, .int .i64 2]) ∧ Below w.heap.size w w') := hid hu
    have HV : Hid (L.oneL (s.data.toList.drop p) = none) := hid (by unfold L.oneL; rw [if_pos hq, ho])
    clear hu hn ho hq hbt
    go_enter Try.func25, Try.ntmps25
    go_wp2_with fail
    refine (HU.out _).mono ?_
    rintro e w1 ⟨rfl, h1⟩
    obtain ⟨hc, hf, hz⟩ := new_cells h1
    go_wp2
    refine bodyPost_ret (v := .tuple #[.agg #[.int .i64 4, .string ⟨#[]⟩, .int .i64 p, .int .i64 p], .bool false]) (by simp [results, Try.results25, hc, go_sem]) rfl ⟨?_, below4 (new_below h1) _ _ _ _⟩
    rw [HV.out]
    exact ⟨4, [], p, p, rfl⟩
  | some x =>
    have h4 := hn x ho
    rw [ho] at hu
    have HU : Hid (∀ w, Calls Try.prog 32 #[.string (s.extract p s.size)] w fun e w' => e = .returned (.tuple #[.string ⟨x.1.toArray⟩, .int .i64 x.2, .int .i64 0]) ∧ Below w.heap.size w w') := hid hu
    have HV : Hid (L.oneL (s.data.toList.drop p) = some (4, x.1, x.2)) := hid (by unfold L.oneL; rw [if_pos hq, ho])
    clear hu hn ho hq hbt
    obtain ⟨x1, x2⟩ := x
    simp only at h4 HU HV
    go_enter Try.func25, Try.ntmps25
    go_wp2_with fail
    refine (HU.out _).mono ?_
    rintro e w1 ⟨rfl, h1⟩
    obtain ⟨hc, hf, hz⟩ := new_cells h1
    go_wp2
    refine bodyPost_ret (v := .tuple #[.agg #[.int .i64 4, .string ⟨x1.toArray⟩, .int .i64 p, .int .i64 ((p + x2 : Nat) : Int)], .bool true]) (by simp [results, Try.results25, hc, go_sem]) rfl ⟨?_, below4 (new_below h1) _ _ _ _⟩
    rw [HV.out]
    exact rfl

end Go.Proofs.Ytgghmhgbdknkaaa.X
end

section
/-
  The walk of the reference's one, where no quoted text stands. Conditions: the place lies in the text; a text of at most 2000000 bytes.
-/
namespace Go.Proofs.Ytgghmhgbdknkaaa.X
open Go.RowKit

theorem new_cells2 {w w1 : World} {cs cs1 : Array Value} {t t1 : TypeId} (h : Below ((w.alloc (.cells cs t)).alloc (.cells cs1 t1)).heap.size ((w.alloc (.cells cs t)).alloc (.cells cs1 t1)) w1) :
    (∀ i, w1.cell? ⟨w.heap.size, i, none⟩ = cs[i]?) ∧ (∀ i, w1.frozen? ⟨w.heap.size, i, none⟩ = false) ∧ (∀ i, w1.cell? ⟨w.heap.size + 1, i, none⟩ = cs1[i]?) ∧ (∀ i, w1.frozen? ⟨w.heap.size + 1, i, none⟩ = false) ∧ w.heap.size + 1 < w1.heap.size := by
  have h2 : Below (w.alloc (.cells cs t)).heap.size (w.alloc (.cells cs t)) w1 := new_below h
  obtain ⟨a, b, c⟩ := new_cells h2
  obtain ⟨d, e, f⟩ := new_cells h
  simp only [World.size_alloc] at d e f
  exact ⟨a, b, d, e, f⟩

/-- What is known of the run of letters at p. -/
structure OneF (s : ByteArray) (p n : Nat) (x g : List UInt8) (bt bk bw : Bool) : Prop where
  tag : ∀ w, Calls Try.prog 31 #[.string (s.extract p (p + n))] w fun e w' => e = .returned (.bool bt) ∧ w = w'
  word : ∀ w, Calls Try.prog 30 #[.string (s.extract p (p + n))] w fun e w' => e = .returned (.bool bw) ∧ w = w'
  key : ∀ w, Calls Try.prog 10 #[.string (s.extract p (p + n))] w fun e w' => e = .returned (.bool bk) ∧ Below w.heap.size w w'
  sign : ∀ w, Calls Try.prog 35 #[.string s, .int .i64 p] w fun e w' => e = .returned (strV g) ∧ Below w.heap.size w w'
  said : L.oneL (s.data.toList.drop p) = if bt = true then some (2, x, n) else if bk = true then some (6, x, n) else if bw = true then some (1, x, n)
    else if 0 < n then (if L.runL L.digB x = n ∧ n ≤ 18 then some (3, x, n) else none) else if g ≠ [] then some (5, g, g.length) else none
  text : (s.extract p (p + n)) = ⟨x.toArray⟩
  get : x = (s.data.toList.drop p).take n

theorem oneF_of (s : ByteArray) (hs : s.size ≤ 2000000) (p n : Nat) (hp : p < s.size) (hpn : p + n ≤ s.size) (hq : G.at0 (s.data.toList.drop p) 0 ≠ 34) (hn : L.runL L.goesB (s.data.toList.drop p) = n) :
    ∃ x g bt bk bw, OneF s p n x g bt bk bw ∧ g.length ≤ 2 := by
  have hX : (s.extract p (p + n)).data.toList = (s.data.toList.drop p).take n := cut_list _ _ _
  refine ⟨(s.data.toList.drop p).take n, L.signL (s.data.toList.drop p), L.nameL 65 90 ((s.data.toList.drop p).take n), L.keyL ((s.data.toList.drop p).take n), L.nameL 97 122 ((s.data.toList.drop p).take n), ⟨?_, ?_, ?_, ?_, ?_, ?_, rfl⟩, (signL_len _).1⟩
  · intro w
    exact (refTag_any _ (by simp; omega) w).mono fun _ _ ⟨he, hw⟩ => ⟨by rw [he, nameB_L, hX], hw⟩
  · intro w
    exact (refWord_any _ (by simp; omega) w).mono fun _ _ ⟨he, hw⟩ => ⟨by rw [he, nameB_L, hX], hw⟩
  · intro w
    exact (refKey_any _ w).mono fun _ _ ⟨he, hw⟩ => ⟨by rw [he, hX], hw⟩
  · exact fun w => sign_any s hs p (by omega) w
  · rw [← L.oneR_eq]
    unfold L.oneR
    rw [if_neg hq, hn]
  · apply ByteArray.ext
    apply Array.ext'
    exact hX

theorem oneRes_some {k p n : Nat} {x : List UInt8} {X : ByteArray} (hX : X = ⟨x.toArray⟩) : OneRes (some (k, x, n)) p (.returned (.tuple #[.agg #[.int .i64 k, .string X, .int .i64 p, .int .i64 ((p + n : Nat) : Int)], .bool true])) := by
  subst hX
  exact rfl
theorem oneRes_none {k p q r : Nat} {x : List UInt8} {X : ByteArray} (hX : X = ⟨x.toArray⟩) : OneRes none p (.returned (.tuple #[.agg #[.int .i64 k, .string X, .int .i64 q, .int .i64 r], .bool false])) := by
  subst hX
  exact ⟨k, x, q, r, rfl⟩
theorem belowT {w w1 : World} (h : Below w.heap.size w w1) (u a b c d : Value) : Below w.heap.size w (((((w1.setCell ⟨w.heap.size + 1, 0, none⟩ u).setCell ⟨w.heap.size, 0, none⟩ a).setCell ⟨w.heap.size, 1, none⟩ b).setCell ⟨w.heap.size, 2, none⟩ c).setCell ⟨w.heap.size, 3, none⟩ d) :=
  below4 (h.setCell (p := ⟨w.heap.size + 1, 0, none⟩) (Nat.le_succ _) _) _ _ _ _

/-- The round's head of the loop over figures. -/
def DRel (p n : Nat) (x : List UInt8) (vi : Value) : Prop := ∃ m : Nat, m ≤ n ∧ vi = .int .i64 ((p + m : Nat) : Int) ∧ m + L.runL L.digB (x.drop m) = L.runL L.digB x

theorem x_at {s : ByteArray} {p n m : Nat} {x : List UInt8} (hx : x = (s.data.toList.drop p).take n) (hm : m < n) (h : p + m < s.size) : ∃ hl : m < x.length, x[m]'hl = s[p + m]'h := by
  subst hx
  refine ⟨by simp; omega, ?_⟩
  simp
  rfl

set_option maxHeartbeats 4000000 in
set_option maxRecDepth 100000 in
theorem one_word (s : ByteArray) (hs : s.size ≤ 2000000) (p : Nat) (hp : p < s.size) (hq : G.at0 (s.data.toList.drop p) 0 ≠ 34) (w : World) :
    Calls Try.prog 25 #[.string s, .int .i64 p] w (OneLeft (L.oneL (s.data.toList.drop p)) p w) := by
  have hbt := byte_is s p hp
  have h34 : (((s[p]'hp).toNat : Int) == 34) = false := beq_eq_false_iff_ne.2 (by omega)
  have hrl := L.runL_le L.goesB (s.data.toList.drop p)
  have hdl : (s.data.toList.drop p).length = s.size - p := by simp
  obtain ⟨n, hn⟩ : ∃ n, L.runL L.goesB (s.data.toList.drop p) = n := ⟨_, rfl⟩
  rw [hn, hdl] at hrl
  have hpn : p + n ≤ s.size := by omega
  obtain ⟨x, g, bt, bk, bw, hF, hg2⟩ := oneF_of s hs p n hp hpn hq hn
  have HF := hid hF
  have HN := hid hn
  clear hq hbt hrl hdl hn hF
  go_enter Try.func25, Try.ntmps25
  go_wp2
  go_loop [9] (fun vi => ∃ k : Nat, p ≤ k ∧ k ≤ s.size ∧ vi = .int .i64 k ∧ k + L.runL L.goesB (s.data.toList.drop k) = p + n) (fun vi => s.size - (intOf vi).toNat)
  case atStart => exact ⟨p, by omega, by omega, rfl, by rw [HN.out]⟩
  case round =>
    obtain ⟨k, hpk, hk, rfl, hrun⟩ := hrel
    have HK := hid hrun
    clear hrun
    by_cases hlt : k < s.size
    · have hl : k < s.data.toList.length := by simpa using hlt
      by_cases hg : L.goesB (s[k]'hlt) = true
      · have HG := hid hg
        have HS := hid (L.runL_step hl hg)
        clear hg
        go_wp2_with (go_at_call 33; refine (refGoes_v _ _ HG.out _).mono ?_; rintro e w' ⟨rfl, rfl⟩)
        go_round
        case rel => exact ⟨k + 1, by omega, by omega, by go_num, by have := HK.out; have := HS.out; omega⟩
        case measure => simp [intOf]; omega
      · have HG := hid ((Bool.not_eq_true _).mp hg)
        have HS := hid (L.runL_stop hl ((Bool.not_eq_true _).mp hg))
        clear hg
        have hkn : k = p + n := by have := HK.out; have := HS.out; omega
        subst hkn
        go_wp2_with (go_at_call 33; refine (refGoes_v _ _ HG.out _).mono ?_; rintro e w' ⟨rfl, rfl⟩)
        refine (HF.out.tag _).mono ?_
        rintro e w1 ⟨rfl, rfl⟩
        cases bt
        · go_wp2_with fail
          refine (HF.out.key _).mono ?_
          rintro e w1 ⟨rfl, h1⟩
          obtain ⟨c0, f0, c1, f1, hz⟩ := new_cells2 h1
          have h1b := new_below h1
          cases bk
          · go_wp2_with fail
            refine (HF.out.word _).mono ?_
            rintro e w2 ⟨rfl, rfl⟩
            cases bw
            · by_cases h0 : 0 < n
              · have hdn : decide ((p : Int) < (p : Int) + (n : Int)) = true := decide_eq_true (by omega)
                go_wp2
                go_loop [11] (DRel p n x) (fun vi => s.size - (intOf vi).toNat)
                case atStart => exact ⟨0, by omega, by go_num, by simp⟩
                case round =>
                  obtain ⟨m, hm, rfl, hrun2⟩ := hrel
                  have HM := hid hrun2
                  clear hrun2
                  by_cases hmn : m < n
                  · have hpm : p + m < s.size := by omega
                    obtain ⟨hxl, hxe⟩ := x_at HF.out.get hmn hpm
                    by_cases hd : L.digB (s[p + m]'hpm) = true
                    · have HD := hid hd
                      have HS := hid (L.runL_step hxl (show L.digB x[m] = true by rw [hxe]; exact hd))
                      clear hd hxe hxl
                      go_wp2_with (go_at_call 34; refine (refFigure_v _ _ HD.out _).mono ?_; rintro e w' ⟨rfl, rfl⟩)
                      go_round
                      case rel => exact ⟨m + 1, by omega, by rw [← Nat.add_assoc]; go_num, by have := HM.out; have := HS.out; omega⟩
                      case measure => simp [intOf]; omega
                    · have HD := hid ((Bool.not_eq_true _).mp hd)
                      have HS := hid (L.runL_stop hxl (show L.digB x[m] = false by rw [hxe]; exact (Bool.not_eq_true _).mp hd))
                      clear hd hxe hxl
                      go_wp2_with (go_at_call 34; refine (refFigure_v _ _ HD.out _).mono ?_; rintro e w' ⟨rfl, rfl⟩)
                      refine bodyPost_ret (v := .tuple #[.agg #[.int .i64 1, .string (s.extract p (p + n)), .int .i64 p, .int .i64 ((p + n : Nat) : Int)], .bool false]) (by simp [results, Try.results25, c0, go_sem]) rfl ⟨?_, below4 (new_below (new_below h1)) _ _ _ _⟩
                      rw [HF.out.said]
                      have hne : ¬ (L.runL L.digB x = n ∧ n ≤ 18) := by
                        have := HM.out
                        have := HS.out
                        omega
                      rw [if_neg (by simp), if_neg (by simp), if_neg (by simp), if_pos h0, if_neg hne]
                      exact oneRes_none HF.out.text
                  · obtain rfl : m = n := by omega
                    have HE : Hid (L.runL L.digB x = m) := hid (by
                      have h2 := HM.out
                      have hxl : x.length ≤ m := by rw [HF.out.get, List.length_take]; omega
                      rw [List.drop_eq_nil_of_le hxl] at h2
                      have h3 : L.runL L.digB [] = 0 := rfl
                      omega)
                    by_cases h18 : m ≤ 18
                    · go_wp2
                      refine bodyPost_ret (v := .tuple #[.agg #[.int .i64 3, .string (s.extract p (p + m)), .int .i64 p, .int .i64 ((p + m : Nat) : Int)], .bool true]) (by simp [results, Try.results25, c0, go_sem]; omega) rfl ⟨?_, belowT (new_below (new_below h1)) _ _ _ _ _⟩
                      rw [HF.out.said, if_neg (by simp), if_neg (by simp), if_neg (by simp), if_pos h0, if_pos ⟨HE.out, h18⟩]
                      exact oneRes_some HF.out.text
                    · go_wp2
                      refine bodyPost_ret (v := .tuple #[.agg #[.int .i64 3, .string (s.extract p (p + m)), .int .i64 p, .int .i64 ((p + m : Nat) : Int)], .bool false]) (by simp [results, Try.results25, c0, go_sem]; omega) rfl ⟨?_, belowT (new_below (new_below h1)) _ _ _ _ _⟩
                      rw [HF.out.said, if_neg (by simp), if_neg (by simp), if_neg (by simp), if_pos h0, if_neg (fun h => h18 h.2)]
                      exact oneRes_none HF.out.text
              · go_wp2_with fail
                refine (HF.out.sign _).mono ?_
                rintro e w2 ⟨rfl, h2⟩
                have h12 := (new_below h1b).trans (h2.mono (new_below h1b).size)
                obtain ⟨d0, g0, _⟩ := new_cells (h1b.trans (h2.mono h1b.size))
                have hsz : (⟨g.toArray⟩ : ByteArray).size = g.length := by show g.toArray.size = _; simp
                have hsl : (⟨g.toArray⟩ : ByteArray).size ≤ 2 := by omega
                have HZ := hid hsz
                clear hsz
                simp only [strV]
                by_cases hne : g ≠ []
                · have hn1 : ((⟨g.toArray⟩ : ByteArray).toList != (⟨#[]⟩ : ByteArray).toList) = true := by rw [ne_list]; simpa using hne
                  have hn2 : (!g.isEmpty) = true := by simpa using hne
                  have HNE := hid hne
                  clear hne
                  go_wp2
                  refine bodyPost_ret (v := .tuple #[.agg #[.int .i64 5, .string ⟨g.toArray⟩, .int .i64 p, .int .i64 ((p + g.length : Nat) : Int)], .bool true]) (by simp [results, Try.results25, d0, go_sem]) rfl ⟨?_, below4 h12 _ _ _ _⟩
                  rw [HF.out.said, if_neg (by simp), if_neg (by simp), if_neg (by simp), if_neg h0, if_pos HNE.out]
                  exact oneRes_some rfl
                · have hg0 : g = [] := by simpa using hne
                  subst hg0
                  clear hne
                  go_wp2
                  refine bodyPost_ret (v := .tuple #[.agg #[.int .i64 5, .string ⟨#[]⟩, .int .i64 p, .int .i64 p], .bool false]) (by simp [results, Try.results25, d0, go_sem]) rfl ⟨?_, below4 h12 _ _ _ _⟩
                  rw [HF.out.said, if_neg (by simp), if_neg (by simp), if_neg (by simp), if_neg h0, if_neg (by simp)]
                  exact oneRes_none (x := []) rfl
            · go_wp2
              refine bodyPost_ret (v := .tuple #[.agg #[.int .i64 1, .string (s.extract p (p + n)), .int .i64 p, .int .i64 ((p + n : Nat) : Int)], .bool true]) (by simp [results, Try.results25, c0, go_sem]) rfl ⟨?_, below4 (new_below (new_below h1)) _ _ _ _⟩
              rw [HF.out.said]
              exact oneRes_some HF.out.text
          · go_wp2
            refine bodyPost_ret (v := .tuple #[.agg #[.int .i64 6, .string (s.extract p (p + n)), .int .i64 p, .int .i64 ((p + n : Nat) : Int)], .bool true]) (by simp [results, Try.results25, c0, go_sem]) rfl ⟨?_, belowT (new_below (new_below h1)) _ _ _ _ _⟩
            rw [HF.out.said]
            exact oneRes_some HF.out.text
        · go_wp2
          refine bodyPost_ret (v := .tuple #[.agg #[.int .i64 2, .string (s.extract p (p + n)), .int .i64 p, .int .i64 ((p + n : Nat) : Int)], .bool true]) (by simp [results, Try.results25, go_sem]) rfl ⟨?_, ((Below.refl _ _).alloc (Nat.le_refl _) _).alloc (by simp) _⟩
          rw [HF.out.said]
          exact oneRes_some HF.out.text
    · have hkn : k = p + n := by
        have := HK.out
        rw [L.runL_end (by simp; omega)] at this
        omega
      subst hkn
      go_wp2_with fail
      refine (HF.out.tag _).mono ?_
      rintro e w1 ⟨rfl, rfl⟩
      cases bt
      · go_wp2_with fail
        refine (HF.out.key _).mono ?_
        rintro e w1 ⟨rfl, h1⟩
        obtain ⟨c0, f0, c1, f1, hz⟩ := new_cells2 h1
        have h1b := new_below h1
        cases bk
        · go_wp2_with fail
          refine (HF.out.word _).mono ?_
          rintro e w2 ⟨rfl, rfl⟩
          cases bw
          · by_cases h0 : 0 < n
            · have hdn : decide ((p : Int) < (p : Int) + (n : Int)) = true := decide_eq_true (by omega)
              go_wp2
              go_loop [11] (DRel p n x) (fun vi => s.size - (intOf vi).toNat)
              case atStart => exact ⟨0, by omega, by go_num, by simp⟩
              case round =>
                obtain ⟨m, hm, rfl, hrun2⟩ := hrel
                have HM := hid hrun2
                clear hrun2
                by_cases hmn : m < n
                · have hpm : p + m < s.size := by omega
                  obtain ⟨hxl, hxe⟩ := x_at HF.out.get hmn hpm
                  by_cases hd : L.digB (s[p + m]'hpm) = true
                  · have HD := hid hd
                    have HS := hid (L.runL_step hxl (show L.digB x[m] = true by rw [hxe]; exact hd))
                    clear hd hxe hxl
                    go_wp2_with (go_at_call 34; refine (refFigure_v _ _ HD.out _).mono ?_; rintro e w' ⟨rfl, rfl⟩)
                    go_round
                    case rel => exact ⟨m + 1, by omega, by rw [← Nat.add_assoc]; go_num, by have := HM.out; have := HS.out; omega⟩
                    case measure => simp [intOf]; omega
                  · have HD := hid ((Bool.not_eq_true _).mp hd)
                    have HS := hid (L.runL_stop hxl (show L.digB x[m] = false by rw [hxe]; exact (Bool.not_eq_true _).mp hd))
                    clear hd hxe hxl
                    go_wp2_with (go_at_call 34; refine (refFigure_v _ _ HD.out _).mono ?_; rintro e w' ⟨rfl, rfl⟩)
                    refine bodyPost_ret (v := .tuple #[.agg #[.int .i64 1, .string (s.extract p (p + n)), .int .i64 p, .int .i64 ((p + n : Nat) : Int)], .bool false]) (by simp [results, Try.results25, c0, go_sem]) rfl ⟨?_, below4 (new_below (new_below h1)) _ _ _ _⟩
                    rw [HF.out.said]
                    have hne : ¬ (L.runL L.digB x = n ∧ n ≤ 18) := by
                      have := HM.out
                      have := HS.out
                      omega
                    rw [if_neg (by simp), if_neg (by simp), if_neg (by simp), if_pos h0, if_neg hne]
                    exact oneRes_none HF.out.text
                · obtain rfl : m = n := by omega
                  have HE : Hid (L.runL L.digB x = m) := hid (by
                    have h2 := HM.out
                    have hxl : x.length ≤ m := by rw [HF.out.get, List.length_take]; omega
                    rw [List.drop_eq_nil_of_le hxl] at h2
                    have h3 : L.runL L.digB [] = 0 := rfl
                    omega)
                  by_cases h18 : m ≤ 18
                  · go_wp2
                    refine bodyPost_ret (v := .tuple #[.agg #[.int .i64 3, .string (s.extract p (p + m)), .int .i64 p, .int .i64 ((p + m : Nat) : Int)], .bool true]) (by simp [results, Try.results25, c0, go_sem]; omega) rfl ⟨?_, belowT (new_below (new_below h1)) _ _ _ _ _⟩
                    rw [HF.out.said, if_neg (by simp), if_neg (by simp), if_neg (by simp), if_pos h0, if_pos ⟨HE.out, h18⟩]
                    exact oneRes_some HF.out.text
                  · go_wp2
                    refine bodyPost_ret (v := .tuple #[.agg #[.int .i64 3, .string (s.extract p (p + m)), .int .i64 p, .int .i64 ((p + m : Nat) : Int)], .bool false]) (by simp [results, Try.results25, c0, go_sem]; omega) rfl ⟨?_, belowT (new_below (new_below h1)) _ _ _ _ _⟩
                    rw [HF.out.said, if_neg (by simp), if_neg (by simp), if_neg (by simp), if_pos h0, if_neg (fun h => h18 h.2)]
                    exact oneRes_none HF.out.text
            · exfalso; omega
          · go_wp2
            refine bodyPost_ret (v := .tuple #[.agg #[.int .i64 1, .string (s.extract p (p + n)), .int .i64 p, .int .i64 ((p + n : Nat) : Int)], .bool true]) (by simp [results, Try.results25, c0, go_sem]) rfl ⟨?_, below4 (new_below (new_below h1)) _ _ _ _⟩
            rw [HF.out.said]
            exact oneRes_some HF.out.text
        · go_wp2
          refine bodyPost_ret (v := .tuple #[.agg #[.int .i64 6, .string (s.extract p (p + n)), .int .i64 p, .int .i64 ((p + n : Nat) : Int)], .bool true]) (by simp [results, Try.results25, c0, go_sem]) rfl ⟨?_, belowT (new_below (new_below h1)) _ _ _ _ _⟩
          rw [HF.out.said]
          exact oneRes_some HF.out.text
      · go_wp2
        refine bodyPost_ret (v := .tuple #[.agg #[.int .i64 2, .string (s.extract p (p + n)), .int .i64 p, .int .i64 ((p + n : Nat) : Int)], .bool true]) (by simp [results, Try.results25, go_sem]) rfl ⟨?_, ((Below.refl _ _).alloc (Nat.le_refl _) _).alloc (by simp) _⟩
        rw [HF.out.said]
        exact oneRes_some HF.out.text

end Go.Proofs.Ytgghmhgbdknkaaa.X
end

section
/-
  The walk of the reference's Tokens. Condition: a text of at most 100000 bytes.
-/
namespace Go.Proofs.Ytgghmhgbdknkaaa.X
open Go.RowKit

/-- What a round's head holds. -/
def RTok (s : ByteArray) (w : World) (vl va : Value) (wr : World) : Prop :=
  ∃ (p f : Nat) (acc : List L.Tok), va = .int .i64 p ∧ p ≤ s.size ∧ Own w.heap.size vl acc wr ∧ Below w.heap.size w wr ∧
    L.toksF f p acc (s.data.toList.drop p) = L.toksL s.data.toList ∧ s.size + 1 ≤ p + f ∧ acc.length ≤ p

theorem one_any (s : ByteArray) (hs : s.size ≤ 2000000) (p : Nat) (hp : p < s.size) (w : World) :
    Calls Try.prog 25 #[.string s, .int .i64 p] w (OneLeft (L.oneL (s.data.toList.drop p)) p w) := by
  by_cases hq : G.at0 (s.data.toList.drop p) 0 = 34
  · exact one_quoted s hs p hp hq w
  · exact one_word s hs p hp hq w

set_option maxHeartbeats 4000000 in
set_option maxRecDepth 100000 in
theorem refTokens_any (s : ByteArray) (hs : s.size ≤ 100000) (w : World) :
    Calls Try.prog 11 #[.string s] w (Toks (L.toksL s.data.toList) w) := by
  obtain ⟨i0, hi, hz0, hz1, hz2⟩ := info_parts infoTok
  have hlen : s.data.toList.length = s.size := by simp
  have HK := hid (between_any s (by omega) 0 (by omega))
  have hkle := L.skipL_le false s.data.toList
  have HL := hid hlen
  have h0 : Hid (L.toksF (s.data.toList.length + 1) (L.skipL false s.data.toList) [] (s.data.toList.drop (L.skipL false s.data.toList)) = L.toksL s.data.toList) := hid rfl
  have hd : Hid (0 + L.skipL false (s.data.toList.drop 0) = L.skipL false s.data.toList) := hid (by simp)
  rw [hlen] at hkle
  clear hlen
  go_enter Try.func11, Try.ntmps11
  go_wp2_with fail
  refine (HK.out _).mono ?_
  rintro e w1 ⟨rfl, rfl⟩
  rw [hd.out]
  go_wp2
  go_loopw [5, 6] (fun vl va wr => RTok s w vl va wr) (fun _ va _ => s.size - (intOf va).toNat)
  case atStart =>
    refine ⟨L.skipL false s.data.toList, s.size + 1, [], rfl, hkle, ?_, (Below.refl _ _).alloc (Nat.le_refl _) _, ?_, by omega, by simp⟩
    · exact World.ownsRow_lit w #[] 0 (Nat.le_refl _) (by decide) rfl
    · rw [← h0.out, HL.out]
  case round =>
    obtain ⟨p, f, acc, rfl, hps, hO, hB, htk, hf, hal⟩ := hrel
    have HTK := hid htk
    clear htk
    by_cases hp : p < s.size
    · have hcall := one_any s (by omega) p hp wr
      obtain ⟨g, rfl⟩ : ∃ g, f = g + 1 := ⟨f - 1, by omega⟩
      have hne : s.data.toList.drop p ≠ [] := drop_ne hp
      obtain ⟨o, ho⟩ : ∃ o, L.oneL (s.data.toList.drop p) = o := ⟨_, rfl⟩
      rw [ho] at hcall
      cases o with
      | none =>
        have HC := hid hcall
        have HV : Hid (L.toksL s.data.toList = .error p) := hid (by rw [← HTK.out, L.toksF, if_neg hne, ho])
        clear hcall ho
        go_wp2_with fail
        refine (HC.out).mono ?_
        rintro e w1 ⟨⟨k1, t1, a1, b1, rfl⟩, h1⟩
        simp only [tokV, strV]
        go_wp2
        go_ret3
        refine ⟨?_, hB.trans ((new_grows h1 _).mono hB.size)⟩
        rw [HV.out]
        exact rfl
      | some x =>
        obtain ⟨k, x, n⟩ := x
        obtain ⟨hk1, hk6, hn1, hnl⟩ := L.oneL_facts ho
        have hnl2 : p + n ≤ s.size := by rw [List.length_drop, HL.out] at hnl; omega
        have hsk := between_any s (by omega) (p + n) hnl2
        have hsl := L.skipL_le false (s.data.toList.drop (p + n))
        rw [List.length_drop, HL.out] at hsl
        have HR : Hid (L.toksF g (p + n + L.skipL false (s.data.toList.drop (p + n))) (acc ++ [⟨k, x, p, p + n⟩]) (s.data.toList.drop (p + n + L.skipL false (s.data.toList.drop (p + n)))) = L.toksL s.data.toList) := hid (by
          rw [← HTK.out, L.toksF, if_neg hne, ho]
          simp only [List.drop_drop])
        have HC : Hid (Calls Try.prog 25 #[.string s, .int .i64 p] wr fun e w' => e = .returned (.tuple #[tokV k x p (p + n), .bool true]) ∧ Below wr.heap.size wr w') := hid hcall
        have HSK := hid hsk
        have h1k : 0 < p + n := by omega
        generalize L.skipL false (s.data.toList.drop (p + n)) = j at *
        clear hcall ho hsk hne hnl
        go_wp2_with fail
        refine (HC.out).mono ?_
        rintro e w1 ⟨rfl, h1⟩
        simp only [tokV, strV]
        have hO1 : w1.ownsRow w.heap.size 44 4 u5 acc.length (cellsT acc) := Own.below hO h1
        have hB1 : Below w.heap.size w w1 := hB.trans (h1.mono hB.size)
        clear hO hB h1
        go_wp2_with (at_builtin; refine wpList_append_own _ rfl _ _ 29 rfl w.heap.size 44 i0 (.agg #[.int .i64 0, .string ⟨#[]⟩, .int .i64 0, .int .i64 0]) 4 40 Try.underlying29 hi hz0 hz1 hz2 rfl (by decide) _ _ _ rfl (World.ownsRow.alloc (World.ownsRow.alloc hO1 _) _) ⟨w1.heap.size + 1, 0, none⟩ 1 1 [.int .i64 k, .string ⟨x.toArray⟩, .int .i64 p, .int .i64 ((p : Int) + (n : Int))] rfl rfl ?c1 ?c2 ?c3 ?c4 ?c5 ?_)
        case c1 => exact cells_new _ _ _ _
        case c2 => intro u hu; simp at hu; rcases hu with rfl | rfl | rfl | rfl <;> rfl
        case c3 => unfold maxLen; omega
        case c4 => omega
        case c5 => have := hB1.size; simp; omega
        intro v' w2 hown hgrow _
        obtain ⟨hO2, hB2, _, hnew⟩ := push_step (w := w) ⟨k, x, p, p + n⟩ _ _ _ hO1 hB1 (Nat.le_refl _) hown hgrow
        have hc := fun i => Lib.cell_of_heap hnew i
        clear hown hgrow hnew hO1 hB1
        have HK2 := hid (HSK.out w2)
        go_wp2_with fail
        refine (HK2.out).mono ?_
        rintro e w3 ⟨rfl, rfl⟩
        go_wp2
        go_roundw
        case rel => exact ⟨p + n + j, g, acc ++ [⟨k, x, p, p + n⟩], rfl, by omega, hO2, hB2, HR.out, by omega, by simp; omega⟩
        case measure => simp [intOf]; omega
    · obtain rfl : p = s.size := by omega
      obtain ⟨g, rfl⟩ : ∃ g, f = g + 1 := ⟨f - 1, by omega⟩
      have HV : Hid (L.toksL s.data.toList = .ok (acc ++ [⟨0, [], s.size, s.size⟩])) := hid (by rw [← HTK.out, L.toksF, if_pos (List.drop_eq_nil_of_le (by rw [HL.out]; omega))])
      have hO1 : wr.ownsRow w.heap.size 44 4 u5 acc.length (cellsT acc) := hO
      clear hO
      go_wp2_with (at_builtin; refine wpList_append_own _ rfl _ _ 29 rfl w.heap.size 44 i0 (.agg #[.int .i64 0, .string ⟨#[]⟩, .int .i64 0, .int .i64 0]) 4 40 Try.underlying29 hi hz0 hz1 hz2 rfl (by decide) _ _ _ rfl (World.ownsRow.alloc hO1 _) ⟨wr.heap.size, 0, none⟩ 1 1 [.int .i64 0, .string ⟨#[]⟩, .int .i64 s.size, .int .i64 s.size] rfl rfl ?c1 ?c2 ?c3 ?c4 ?c5 ?_)
      case c1 => exact cells_one _ _ _
      case c2 => intro u hu; simp at hu; rcases hu with rfl | rfl | rfl <;> rfl
      case c3 => unfold maxLen; omega
      case c4 => omega
      case c5 => have := hB.size; simp; omega
      intro v' w2 hown hgrow _
      obtain ⟨hO2, hB2⟩ := push_last (w := w) ⟨0, [], s.size, s.size⟩ _ hO1 hB (Nat.le_refl _) hown hgrow
      clear hown hgrow hO1 hB
      go_wp2
      go_ret3
      refine ⟨?_, hB2⟩
      rw [HV.out]
      exact ⟨v', rfl, hO2⟩

end Go.Proofs.Ytgghmhgbdknkaaa.X
end

section
/-
  Plain lists of bytes, no program: all tokens of a text as a relation without fuel; a token is the same one whatever blank stands behind it. No conditions but those that each lemma names.
-/
namespace Go.Proofs.Ytgghmhgbdknkaaa.X.L
open Go

/-- What is left at place p, where nothing stands between, has just these tokens. -/
inductive Tk : Nat → List UInt8 → List Tok → Prop
  | done (p : Nat) : Tk p [] [⟨0, [], p, p⟩]
  | step (p : Nat) (l : List UInt8) (k : Nat) (x : List UInt8) (n : Nat) (r : List Tok) (hl : l ≠ []) (ho : oneL l = some (k, x, n)) (hr : Tk (p + n + skipL false (l.drop n)) ((l.drop n).drop (skipL false (l.drop n))) r) : Tk p l (⟨k, x, p, p + n⟩ :: r)

/-- .. is wrong at place q. -/
inductive Er : Nat → List UInt8 → Nat → Prop
  | here (p : Nat) (l : List UInt8) (hl : l ≠ []) (ho : oneL l = none) : Er p l p
  | step (p : Nat) (l : List UInt8) (k : Nat) (x : List UInt8) (n q : Nat) (hl : l ≠ []) (ho : oneL l = some (k, x, n)) (hr : Er (p + n + skipL false (l.drop n)) ((l.drop n).drop (skipL false (l.drop n))) q) : Er p l q

theorem toksF_ok (f : Nat) : ∀ (p : Nat) (acc l : _) (r : List Tok), l.length + 1 ≤ f → toksF f p acc l = .ok r → ∃ r', r = acc ++ r' ∧ Tk p l r' := by
  induction f with
  | zero => intro p acc l r h; omega
  | succ f ih =>
    intro p acc l r hf h
    rw [toksF] at h
    split at h
    · rename_i hl
      subst hl
      cases h
      exact ⟨_, rfl, Tk.done p⟩
    · rename_i hl
      split at h
      · cases h
      · rename_i k x n ho
        obtain ⟨_, _, h1, h2⟩ := oneL_facts ho
        have hlen : ((l.drop n).drop (skipL false (l.drop n))).length + 1 ≤ f := by simp; omega
        obtain ⟨r', hr, hT⟩ := ih _ _ _ _ hlen h
        exact ⟨_, by rw [hr, List.append_assoc]; rfl, Tk.step p l k x n r' hl ho hT⟩

theorem toksF_of {p : Nat} {l : List UInt8} {r : List Tok} (h : Tk p l r) : ∀ (f : Nat) (acc : List Tok), l.length + 1 ≤ f → toksF f p acc l = .ok (acc ++ r) := by
  induction h with
  | done p =>
    intro f acc hf
    obtain ⟨f, rfl⟩ : ∃ g, f = g + 1 := ⟨f - 1, by omega⟩
    rw [toksF, if_pos rfl]
  | step p l k x n r hl ho hr ih =>
    intro f acc hf
    obtain ⟨f, rfl⟩ : ∃ g, f = g + 1 := ⟨f - 1, by omega⟩
    obtain ⟨_, _, h1, h2⟩ := oneL_facts ho
    rw [toksF, if_neg hl, ho]
    simp only
    rw [ih f _ (by simp; omega), List.append_assoc]
    rfl

theorem toksF_err (f : Nat) : ∀ (p : Nat) (acc l : _) (q : Nat), l.length + 1 ≤ f → toksF f p acc l = .error q → Er p l q := by
  induction f with
  | zero => intro p acc l r h; omega
  | succ f ih =>
    intro p acc l q hf h
    rw [toksF] at h
    split at h
    · cases h
    · rename_i hl
      split at h
      · rename_i ho
        cases h
        exact Er.here p l hl ho
      · rename_i k x n ho
        obtain ⟨_, _, h1, h2⟩ := oneL_facts ho
        exact Er.step p l k x n q hl ho (ih _ _ _ _ (by simp; omega) h)

theorem toksF_fail {p q : Nat} {l : List UInt8} (h : Er p l q) : ∀ (f : Nat) (acc : List Tok), l.length + 1 ≤ f → toksF f p acc l = .error q := by
  induction h with
  | here p l hl ho =>
    intro f acc hf
    obtain ⟨f, rfl⟩ : ∃ g, f = g + 1 := ⟨f - 1, by omega⟩
    rw [toksF, if_neg hl, ho]
  | step p l k x n q hl ho hr ih =>
    intro f acc hf
    obtain ⟨f, rfl⟩ : ∃ g, f = g + 1 := ⟨f - 1, by omega⟩
    obtain ⟨_, _, h1, h2⟩ := oneL_facts ho
    rw [toksF, if_neg hl, ho]
    simp only
    rw [ih f _ (by simp; omega)]

/-- A whole text's tokens. -/
def All (l : List UInt8) (r : List Tok) : Prop := Tk (skipL false l) (l.drop (skipL false l)) r
def Bad (l : List UInt8) (q : Nat) : Prop := Er (skipL false l) (l.drop (skipL false l)) q

theorem all_of {l : List UInt8} {r : List Tok} (h : toksL l = .ok r) : All l r := by
  obtain ⟨r', hr, hT⟩ := toksF_ok _ _ _ _ _ (by simp) h
  rw [hr]
  exact hT
theorem of_all {l : List UInt8} {r : List Tok} (h : All l r) : toksL l = .ok r := toksF_of h _ _ (by simp)
theorem bad_of {l : List UInt8} {q : Nat} (h : toksL l = .error q) : Bad l q := toksF_err _ _ _ _ _ (by simp) h
theorem of_bad {l : List UInt8} {q : Nat} (h : Bad l q) : toksL l = .error q := toksF_fail h _ _ (by simp)

theorem tk_len {p : Nat} {l : List UInt8} {r : List Tok} (h : Tk p l r) : r.length ≤ l.length + 1 := by
  induction h with
  | done p => simp
  | step p l k x n r hl ho hr ih =>
    obtain ⟨_, _, h1, h2⟩ := oneL_facts ho
    simp only [List.length_drop] at ih
    simp only [List.length_cons]
    omega
theorem all_len {l : List UInt8} {r : List Tok} (h : All l r) : r.length ≤ l.length + 1 := by
  have := tk_len h
  rw [List.length_drop] at this
  omega

/-! ### What stands behind -/

theorem runL_app (p : UInt8 → Bool) (l m : List UInt8) (h : m = [] ∨ ∃ c r, m = c :: r ∧ p c = false) : runL p (l ++ m) = runL p l := by
  induction l with
  | nil =>
    rcases h with rfl | ⟨c, r, rfl, hc⟩
    · rfl
    · simp [runL, hc]
  | cons a l ih =>
    rw [List.cons_append, runL, runL, ih]

theorem firstL_app (gs : List (List UInt8)) (l m : List UInt8) (c : UInt8) (h : ∀ g ∈ gs, c ∉ g) : firstL gs (l ++ c :: m) = firstL gs l := by
  induction gs with
  | nil => rfl
  | cons g r ih =>
    rw [firstL, firstL, ih fun x hx => h x (by simp [hx])]
    have hg : g.isPrefixOf (l ++ c :: m) = g.isPrefixOf l := by
      rw [Bool.eq_iff_iff]
      simp only [List.isPrefixOf_iff_prefix]
      constructor
      · intro hp
        rcases Nat.lt_or_ge l.length g.length with hlt | hge
        · obtain ⟨t, ht⟩ := hp
          have hm : c ∈ g := by
            have e : (g ++ t)[l.length]? = some c := by rw [ht]; simp
            rw [List.getElem?_append_left hlt] at e
            exact List.mem_of_getElem? e
          exact absurd hm (h g (by simp))
        · exact List.prefix_of_prefix_length_le hp (List.prefix_append _ _) hge
      · intro hp
        exact hp.trans (List.prefix_append _ _)
    rw [hg]

theorem at0_app {l m : List UInt8} {k : Nat} (h : k < l.length) : G.at0 (l ++ m) k = G.at0 l k := by
  unfold G.at0
  rw [List.getD_eq_getElem?_getD, List.getD_eq_getElem?_getD, List.getElem?_append_left h]

theorem contL_app {l m : List UInt8} {k a b : Nat} (h : G.contL l k a b = true) : G.contL (l ++ m) k a b = true := by
  unfold G.contL at h ⊢
  simp only [Bool.and_eq_true, decide_eq_true_eq] at h
  obtain ⟨h1, h2, h3⟩ := h
  rw [at0_app h1]
  simp [h2, h3]
  omega

theorem longL_app {l m : List UInt8} (hl : l ≠ []) (h : 1 ≤ G.longL l) : G.longL (l ++ m) = G.longL l := by
  have h0 : 0 < l.length := List.length_pos_iff.2 hl
  have e0 : G.at0 (l ++ m) 0 = G.at0 l 0 := at0_app h0
  rcases Nat.lt_or_ge (G.at0 l 0) 128 with c1 | c1
  · rw [G.longL_1 c1, G.longL_1 (by rw [e0]; exact c1)]
  rcases Nat.lt_or_ge (G.at0 l 0) 194 with c2 | c2
  · rw [G.longL_0 c1 (Or.inl c2)] at h
    omega
  rcases Nat.lt_or_ge 223 (G.at0 l 0) with c3 | c3
  · rcases Nat.lt_or_ge 239 (G.at0 l 0) with c4 | c4
    · rcases Nat.lt_or_ge 244 (G.at0 l 0) with c5 | c5
      · rw [G.longL_0 c1 (Or.inr c5)] at h
        omega
      · obtain ⟨lo, hlo⟩ : ∃ lo, lo = if G.at0 l 0 = 240 then 144 else 128 := ⟨_, rfl⟩
        obtain ⟨hi, hhi⟩ : ∃ hi, hi = if G.at0 l 0 = 244 then 143 else 191 := ⟨_, rfl⟩
        have h1 := G.longL_4 (l := l) c4 c5 hlo hhi
        have h2 := G.longL_4 (l := l ++ m) (lo := lo) (hi := hi) (by rw [e0]; exact c4) (by rw [e0]; exact c5) (by rw [e0]; exact hlo) (by rw [e0]; exact hhi)
        rw [h1] at h ⊢
        rw [h2]
        split at h
        · rename_i hc
          simp only [Bool.and_eq_true] at hc
          rw [if_pos (by simp only [Bool.and_eq_true]; exact ⟨⟨contL_app hc.1.1, contL_app hc.1.2⟩, contL_app hc.2⟩), if_pos (by simp only [Bool.and_eq_true]; exact hc)]
        · omega
    · obtain ⟨lo, hlo⟩ : ∃ lo, lo = if G.at0 l 0 = 224 then 160 else 128 := ⟨_, rfl⟩
      obtain ⟨hi, hhi⟩ : ∃ hi, hi = if G.at0 l 0 = 237 then 159 else 191 := ⟨_, rfl⟩
      have h1 := G.longL_3 (l := l) c3 c4 hlo hhi
      have h2 := G.longL_3 (l := l ++ m) (lo := lo) (hi := hi) (by rw [e0]; exact c3) (by rw [e0]; exact c4) (by rw [e0]; exact hlo) (by rw [e0]; exact hhi)
      rw [h1] at h ⊢
      rw [h2]
      split at h
      · rename_i hc
        simp only [Bool.and_eq_true] at hc
        rw [if_pos (by simp only [Bool.and_eq_true]; exact ⟨contL_app hc.1, contL_app hc.2⟩), if_pos (by simp only [Bool.and_eq_true]; exact hc)]
      · omega
  · have h1 := G.longL_2 (l := l) c2 c3
    have h2 := G.longL_2 (l := l ++ m) (by rw [e0]; exact c2) (by rw [e0]; exact c3)
    rw [h1] at h ⊢
    rw [h2]
    split at h
    · rename_i hc
      rw [if_pos (contL_app hc), if_pos hc]
    · omega

theorem escL_app {l m : List UInt8} (h : (G.escL l).2 ≠ 0) : G.escL (l ++ m) = G.escL l := by
  unfold G.escL at h ⊢
  by_cases h2 : l.length < 2
  · rw [if_pos h2] at h
    exact absurd rfl h
  · rw [if_neg h2] at h
    rw [if_neg h2, if_neg (by simp; omega), at0_app (show 1 < l.length by omega)]
    split
    · rfl
    split
    · rfl
    split
    · rfl
    rename_i n1 n2 n3
    rw [if_neg n1, if_neg n2, if_neg n3] at h
    split at h
    · rename_i h4
      have e2 : G.at0 (l ++ m) 2 = G.at0 l 2 := at0_app (by omega)
      have e3 : G.at0 (l ++ m) 3 = G.at0 l 3 := at0_app (by omega)
      rw [e2, e3, if_pos h4, if_pos ⟨h4.1, by simp; omega, h4.2.2⟩]
    · exact absurd rfl h

theorem unqF_app (f : Nat) : ∀ (p : Nat) (acc l m : List UInt8) (x : List UInt8 × Nat) (g : Nat), G.unqF f p acc l = some x → f ≤ g → G.unqF g p acc (l ++ m) = some x := by
  induction f with
  | zero => intro p acc l m x g h; cases h
  | succ f ih =>
    intro p acc l m x g h hg
    obtain ⟨g, rfl⟩ : ∃ k, g = k + 1 := ⟨g - 1, by omega⟩
    rw [G.unqF] at h
    split at h
    · cases h
    rename_i hl
    have h0 : 0 < l.length := List.length_pos_iff.2 hl
    have e0 : G.at0 (l ++ m) 0 = G.at0 l 0 := at0_app h0
    have hne : ¬ l ++ m = [] := by simp [hl]
    rw [G.unqF, if_neg hne, e0]
    split at h
    · rename_i h34
      rw [if_pos h34]
      exact h
    rename_i n34
    rw [if_neg n34]
    split at h
    · cases h
    rename_i hz
    have hlong : 1 ≤ G.longL l := by
      rcases Nat.eq_zero_or_pos (G.longL l) with hh | hh
      · exact absurd (Or.inl hh) hz
      · exact hh
    have hle : G.longL l ≤ l.length := by have := G.wid_le hl; unfold G.wid at this; omega
    rw [longL_app hl hlong, if_neg hz]
    split at h
    · rename_i h92
      rw [if_pos h92]
      split at h
      · cases h
      rename_i hesc
      rw [escL_app hesc, if_neg hesc]
      obtain ⟨_, _, hor⟩ := G.escL_facts l (by omega)
      rcases hor with hh | ⟨_, hle2, _⟩
      · exact absurd hh hesc
      · have := ih _ _ _ m x g h (by omega)
        rw [List.drop_append_of_le_length (by omega)]
        exact this
    · rename_i n92
      rw [if_neg n92]
      have := ih _ _ _ m x g h (by omega)
      rw [List.drop_append_of_le_length hle, List.take_append_of_le_length hle]
      exact this

theorem unqL_app {l m : List UInt8} {x : List UInt8 × Nat} (h : G.unqL l = some x) : G.unqL (l ++ m) = some x := by
  unfold G.unqL at h ⊢
  split at h
  · rename_i h34
    have hl : l ≠ [] := by
      rintro rfl
      exact absurd h34 (by decide)
    have h0 : 0 < l.length := List.length_pos_iff.2 hl
    rw [at0_app h0, if_pos h34, List.drop_append_of_le_length (by omega)]
    exact unqF_app _ _ _ _ m x _ h (by simp)
  · cases h

/-- A blank or a line's end behind: the token at the head is the same. -/
theorem oneL_app {l m : List UInt8} {c : UInt8} {k n : Nat} {x : List UInt8} (hc : c = 10 ∨ c = 32) (hl : l ≠ []) (h : oneL l = some (k, x, n)) : oneL (l ++ c :: m) = some (k, x, n) := by
  have h0 : 0 < l.length := List.length_pos_iff.2 hl
  have hs : signL (l ++ c :: m) = signL l := firstL_app _ _ _ _ (by rcases hc with rfl | rfl <;> decide)
  have hg : runL goesB (l ++ c :: m) = runL goesB l := runL_app _ _ _ (Or.inr ⟨c, m, rfl, by rcases hc with rfl | rfl <;> decide⟩)
  have hle := runL_le goesB l
  unfold oneL at h ⊢
  rw [at0_app h0, hs, hg, List.take_append_of_le_length hle]
  split
  · rename_i h34
    rw [if_pos h34] at h
    split at h
    · rename_i y hy
      rw [unqL_app hy]
      exact h
    · cases h
  · rename_i n34
    rw [if_neg n34] at h
    exact h

end Go.Proofs.Ytgghmhgbdknkaaa.X.L
end

section
/-
  Plain lists of bytes, no program: what is joined is told again; what a token's first byte says of its kind; quoted texts and texts behind one another. No conditions but those that each lemma names.
-/
namespace Go.Proofs.Ytgghmhgbdknkaaa.X
open Go

def pieceT (t : Int × List UInt8) : List UInt8 := if t.1 = 4 then G.quoteL t.2 else t.2
/-- Texts joined by blanks. -/
def joinT : List (Int × List UInt8) → List UInt8
  | [] => []
  | t :: r => pieceT t ++ (if r = [] then [] else 32 :: joinT r)

theorem joinT_snoc (l : List (Int × List UInt8)) (t : Int × List UInt8) : joinT (l ++ [t]) = joinT l ++ ((if l = [] then [] else [32]) ++ pieceT t) := by
  induction l with
  | nil => simp [joinT]
  | cons u r ih =>
    rw [List.cons_append, joinT, joinT, ih]
    by_cases hr : r = []
    · subst hr
      simp [joinT]
    · simp [hr]

theorem quote_len (x : List UInt8) : (G.quoteL x).length ≤ 4 * x.length + 2 := by
  have := G.quoteF_len x.length x
  simp [G.quoteL]
  omega
end Go.Proofs.Ytgghmhgbdknkaaa.X

namespace Go.Proofs.Ytgghmhgbdknkaaa.X.L
open Go

def kt (t : Tok) : Int × List UInt8 := (t.kind, t.text)

theorem run_take (p : UInt8 → Bool) (l : List UInt8) : runL p (l.take (runL p l)) = runL p l := by
  induction l with
  | nil => rfl
  | cons c r ih =>
    by_cases h : p c = true
    · rw [runL, if_pos h, List.take_succ_cons, runL, if_pos h, ih]
    · rw [runL, if_neg h, List.take_zero, runL]

theorem sign_one : ∀ g ∈ signsL, oneL g = some (5, g, g.length) := by
  intro g hg
  simp only [signsL, List.mem_cons, List.not_mem_nil, or_false] at hg
  rcases hg with rfl | rfl | rfl | rfl | rfl | rfl | rfl | rfl | rfl | rfl | rfl | rfl | rfl | rfl | rfl | rfl | rfl | rfl | rfl | rfl | rfl | rfl | rfl | rfl <;> rfl

/-- The three ways of a token. -/
theorem oneL_ways {l : List UInt8} {k n : Nat} {x : List UInt8} (h : oneL l = some (k, x, n)) :
    (k = 4 ∧ G.at0 l 0 = 34 ∧ G.unqL l = some (x, n)) ∨ (k = 5 ∧ G.at0 l 0 ≠ 34 ∧ x = signL l ∧ x ≠ [] ∧ n = x.length) ∨
    (G.at0 l 0 ≠ 34 ∧ signL l = [] ∧ n = runL goesB l ∧ x = l.take n ∧ k = kindL x ∧ k ≠ 0 ∧ k ≠ 4) := by
  unfold oneL at h
  split at h
  · rename_i h34
    split at h
    · rename_i y hy
      cases h
      exact Or.inl ⟨rfl, h34, hy⟩
    · cases h
  rename_i n34
  split at h
  · rename_i hs
    cases h
    exact Or.inr (Or.inl ⟨rfl, n34, rfl, hs, rfl⟩)
  rename_i hs
  split at h
  · cases h
  · rename_i hk
    cases h
    refine Or.inr (Or.inr ⟨n34, by simpa using hs, rfl, rfl, rfl, hk, ?_⟩)
    unfold kindL
    split
    · omega
    split
    · omega
    split
    · omega
    split <;> omega

theorem one_text {l : List UInt8} {k n : Nat} {x : List UInt8} (h : oneL l = some (k, x, n)) (hk : k ≠ 4) : x = l.take n := by
  rcases oneL_ways h with ⟨h4, _⟩ | ⟨_, _, hx, hne, hn⟩ | ⟨_, _, _, hx, _⟩
  · exact absurd h4 hk
  · rcases firstL_mem signsL l with h3 | ⟨_, h3⟩
    · exact absurd (hx.trans h3) hne
    · rw [hn]
      have h4 : x <+: l := by rw [hx]; exact h3
      exact List.prefix_iff_eq_take.1 h4
  · exact hx

theorem word_one {x : List UInt8} (hk : kindL x ≠ 0) (hr : runL goesB x = x.length) (h34 : G.at0 x 0 ≠ 34) : oneL x = some (kindL x, x, x.length) := by
  have hp := kindL_pos hk
  have hs : ¬ signL x ≠ [] := fun hs => by
    have := sign_goes hs
    omega
  unfold oneL
  rw [if_neg h34, if_neg hs, hr, List.take_length, if_neg hk]

theorem one_piece {l : List UInt8} {k n : Nat} {x : List UInt8} (h : oneL l = some (k, x, n)) :
    oneL (pieceT ((k : Int), x)) = some (k, x, (pieceT ((k : Int), x)).length) ∧ pieceT ((k : Int), x) ≠ [] := by
  rcases oneL_ways h with ⟨rfl, _, _⟩ | ⟨rfl, _, hx, hne, _⟩ | ⟨h34, _, hn, hx, hk, hk0, hk4⟩
  · have e : pieceT (((4 : Nat) : Int), x) = G.quoteL x := if_pos rfl
    rw [e]
    refine ⟨?_, by simp [G.quoteL]⟩
    unfold oneL
    have h0 : G.at0 (G.quoteL x) 0 = 34 := rfl
    have ht := G.quoteL_told x []
    rw [List.append_nil] at ht
    rw [if_pos h0, ht]
  · have e : pieceT (((5 : Nat) : Int), x) = x := if_neg (by show ¬ ((5 : Nat) : Int) = 4; decide)
    rw [e]
    refine ⟨?_, hne⟩
    rcases firstL_mem signsL l with h3 | ⟨h3, _⟩
    · exact absurd (hx.trans h3) hne
    · rw [hx]
      exact sign_one _ h3
  · have e : pieceT ((k : Int), x) = x := if_neg (by show ¬ ((k : Int) = 4); omega)
    rw [e]
    have hp : 0 < x.length := kindL_pos (by rw [← hk]; exact hk0)
    have hr : runL goesB x = x.length := by
      rw [hx, hn, run_take, List.length_take]
      have := runL_le goesB l
      omega
    have h0 : G.at0 x 0 = G.at0 l 0 := by
      have h1 := List.take_append_drop n l
      rw [← hx] at h1
      rw [← h1]
      exact (at0_app hp).symm
    rw [hk]
    exact ⟨word_one (by rw [← hk]; exact hk0) hr (by rw [h0]; exact h34), List.length_pos_iff.1 hp⟩

theorem one_skip {l : List UInt8} {o : Nat × List UInt8 × Nat} (h : oneL l = some o) : skipL false l = 0 := by
  cases l with
  | nil => rfl
  | cons c r =>
    obtain ⟨k, x, n⟩ := o
    by_cases hb : blankB c = true ∨ c.toNat = 35
    · exfalso
      have hc : c = 32 ∨ c = 9 ∨ c = 10 ∨ c = 35 := by
        rcases hb with hb | hb
        · unfold blankB at hb
          simp at hb
          rcases hb with (hb | hb) | hb
          · exact Or.inl (UInt8.toNat_inj.1 hb)
          · exact Or.inr (Or.inl (UInt8.toNat_inj.1 hb))
          · exact Or.inr (Or.inr (Or.inl (UInt8.toNat_inj.1 hb)))
        · exact Or.inr (Or.inr (Or.inr (UInt8.toNat_inj.1 hb)))
      have hn34 : G.at0 (c :: r) 0 ≠ 34 := by
        show c.toNat ≠ 34
        rcases hc with rfl | rfl | rfl | rfl <;> decide
      have hs : signL (c :: r) = [] := by
        have hh : ∀ g ∈ signsL, ∃ d t, g = d :: t ∧ d ≠ c := by
          intro g hg
          simp only [signsL, List.mem_cons, List.not_mem_nil, or_false] at hg
          rcases hg with rfl | rfl | rfl | rfl | rfl | rfl | rfl | rfl | rfl | rfl | rfl | rfl | rfl | rfl | rfl | rfl | rfl | rfl | rfl | rfl | rfl | rfl | rfl | rfl <;>
            (refine ⟨_, _, rfl, ?_⟩; rcases hc with rfl | rfl | rfl | rfl <;> decide)
        rcases firstL_mem signsL (c :: r) with h3 | ⟨h3, h4⟩
        · exact h3
        · obtain ⟨d, t, hd, hne⟩ := hh _ h3
          rw [hd] at h4
          obtain ⟨u, hu⟩ := h4
          injection hu with hu _
          exact absurd hu hne
      have hg : runL goesB (c :: r) = 0 := by
        have : goesB c = false := by rcases hc with rfl | rfl | rfl | rfl <;> decide
        simp [runL, this]
      unfold oneL at h
      rw [if_neg hn34, if_neg (by rw [hs]; simp), hg, List.take_zero, if_pos (show kindL [] = 0 by decide)] at h
      cases h
    · have h1 : ¬ blankB c = true := fun hh => hb (Or.inl hh)
      have h2 : ¬ c.toNat = 35 := fun hh => hb (Or.inr hh)
      rw [skipL, if_neg h1, if_neg h2]

theorem tk_ne {p : Nat} {l : List UInt8} {r : List Tok} (h : Tk p l r) : r ≠ [] := by
  cases h <;> simp

theorem back {p : Nat} {l : List UInt8} {r : List Tok} (h : Tk p l r) : skipL false (joinT ((r.map kt).dropLast)) = 0 ∧ ∀ q, ∃ r2, Tk q (joinT ((r.map kt).dropLast)) r2 ∧ r2.map kt = r.map kt := by
  induction h with
  | done p => exact ⟨rfl, fun q => ⟨_, Tk.done q, rfl⟩⟩
  | step p l k x n r hl ho hr ih =>
    obtain ⟨hs, ih⟩ := ih
    obtain ⟨hp1, hp2⟩ := one_piece ho
    have hrn : r.map kt ≠ [] := by simpa using tk_ne hr
    have e : ((⟨k, x, p, p + n⟩ :: r : List Tok).map kt).dropLast = ((k : Int), x) :: (r.map kt).dropLast := by
      rw [List.map_cons, List.dropLast_cons_of_ne_nil hrn]
      rfl
    rw [e, joinT]
    generalize (r.map kt).dropLast = J at *
    generalize pieceT ((k : Int), x) = g at *
    by_cases hJ : J = []
    · subst hJ
      rw [if_pos rfl, List.append_nil]
      refine ⟨one_skip hp1, fun q => ?_⟩
      obtain ⟨r2, h2, h3⟩ := ih (q + g.length + skipL false (g.drop g.length))
      refine ⟨_, Tk.step q g k x g.length r2 hp2 hp1 ?_, by rw [List.map_cons, List.map_cons, h3]; rfl⟩
      rw [List.drop_length] at h2 ⊢
      exact h2
    · rw [if_neg hJ]
      have h1 := oneL_app (m := joinT J) (Or.inr rfl) hp2 hp1
      refine ⟨one_skip h1, fun q => ?_⟩
      have hd : (g ++ 32 :: joinT J).drop g.length = 32 :: joinT J := by simp
      have hsk : skipL false (32 :: joinT J) = 1 := by rw [skipL, if_pos (by decide), hs]
      obtain ⟨r2, h2, h3⟩ := ih (q + g.length + 1)
      refine ⟨_, Tk.step q (g ++ 32 :: joinT J) k x g.length r2 (by simp [hp2]) h1 ?_, by rw [List.map_cons, List.map_cons, h3]; rfl⟩
      rw [hd, hsk]
      exact h2

theorem back_all {l : List UInt8} {r : List Tok} (h : toksL l = .ok r) : ∃ r2, toksL (joinT ((r.map kt).dropLast)) = .ok r2 ∧ r2.map kt = r.map kt := by
  obtain ⟨hs, hb⟩ := back (all_of h)
  obtain ⟨r2, h2, h3⟩ := hb 0
  refine ⟨r2, of_all ?_, h3⟩
  unfold All
  rw [hs]
  exact h2

end Go.Proofs.Ytgghmhgbdknkaaa.X.L
end

section
/-
  Plain lists of bytes, no program: how long texts and what is joined of them may be. No conditions but those that each lemma names.
-/
namespace Go.Proofs.Ytgghmhgbdknkaaa.X.L
open Go

theorem unqF_text (f : Nat) : ∀ (p : Nat) (acc l : List UInt8) (x : List UInt8 × Nat), G.unqF f p acc l = some x → x.1.length + p ≤ acc.length + x.2 := by
  induction f with
  | zero => intro p acc l x h; cases h
  | succ f ih =>
    intro p acc l x h
    rw [G.unqF] at h
    split at h
    · cases h
    rename_i hl
    split at h
    · cases h
      simp
    split at h
    · cases h
    split at h
    · rename_i h92
      split at h
      · cases h
      rename_i hne
      obtain ⟨_, _, hor⟩ := G.escL_facts l (by omega)
      rcases hor with h0 | ⟨h2, hle, _⟩
      · exact absurd h0 hne
      · have := ih _ _ _ _ h
        rw [List.length_append] at this
        simp only [List.length_cons, List.length_nil] at this
        omega
    · have := ih _ _ _ _ h
      rw [List.length_append, List.length_take] at this
      omega

theorem one_len {l : List UInt8} {k n : Nat} {x : List UInt8} (h : oneL l = some (k, x, n)) : x.length ≤ n := by
  by_cases hk : k = 4
  · rcases oneL_ways h with ⟨_, h34, hu⟩ | ⟨h5, _⟩ | ⟨_, _, _, _, _, _, h4⟩
    · unfold G.unqL at hu
      rw [if_pos h34] at hu
      have := unqF_text _ _ _ _ _ hu
      simp at this
      omega
    · omega
    · exact absurd hk h4
  · rw [one_text h hk, List.length_take]
    omega

theorem piece_len {l : List UInt8} {k n : Nat} {x : List UInt8} (h : oneL l = some (k, x, n)) : (pieceT ((k : Int), x)).length ≤ 4 * n + 2 := by
  have h1 := one_len h
  have h2 := quote_len x
  unfold pieceT
  split
  · show (G.quoteL x).length ≤ _
    omega
  · show x.length ≤ _
    omega

theorem join_len {p : Nat} {l : List UInt8} {r : List Tok} (h : Tk p l r) : (∀ k, (joinT ((r.map kt).take k)).length ≤ 7 * l.length) ∧ ∀ t ∈ r.map kt, t.2.length ≤ l.length := by
  induction h with
  | done p =>
    refine ⟨fun k => ?_, ?_⟩
    · cases k with
      | zero => simp [joinT]
      | succ k => simp [joinT, kt, pieceT]
    · intro t ht
      simp [kt] at ht
      simp [ht]
  | step p l k x n r hl ho hr ih =>
    obtain ⟨ih1, ih2⟩ := ih
    obtain ⟨_, _, h1, h2⟩ := oneL_facts ho
    have hp := piece_len ho
    have hx := one_len ho
    simp only [List.length_drop] at ih1 ih2
    refine ⟨fun j => ?_, ?_⟩
    · cases j with
      | zero => simp [joinT]
      | succ j =>
        rw [List.map_cons, List.take_succ_cons, joinT, List.length_append]
        have hj := ih1 j
        have e : pieceT (kt ⟨k, x, p, p + n⟩) = pieceT ((k : Int), x) := rfl
        rw [e]
        split
        · simp
          omega
        · simp only [List.length_cons]
          omega
    · intro t ht
      rw [List.map_cons, List.mem_cons] at ht
      rcases ht with rfl | ht
      · show x.length ≤ l.length
        omega
      · have := ih2 t ht
        omega

theorem join_all {l : List UInt8} {r : List Tok} (h : All l r) : (∀ k, (joinT ((r.map kt).take k)).length ≤ 7 * l.length) ∧ ∀ t ∈ r.map kt, t.2.length ≤ l.length := by
  obtain ⟨h1, h2⟩ := join_len h
  simp only [List.length_drop] at h1 h2
  exact ⟨fun k => Nat.le_trans (h1 k) (by omega), fun t ht => Nat.le_trans (h2 t ht) (by omega)⟩

/-- Tokens that are the same but for their places. -/
theorem kt_get {r r2 : List Tok} (h : r2.map kt = r.map kt) : r2.length = r.length ∧ ∀ (i : Nat) (h1 : i < r.length) (h2 : i < r2.length), r2[i].kind = r[i].kind ∧ r2[i].text = r[i].text := by
  have hl : r2.length = r.length := by simpa using congrArg List.length h
  refine ⟨hl, fun i h1 h2 => ?_⟩
  have e := congrArg (fun l => l[i]?) h
  simp only [List.getElem?_map, List.getElem?_eq_getElem h1, List.getElem?_eq_getElem h2, Option.map_some, Option.some.injEq, kt, Prod.mk.injEq] at e
  exact ⟨by exact_mod_cast e.1, e.2⟩

end Go.Proofs.Ytgghmhgbdknkaaa.X.L
end

section
/-
  Plain lists of bytes, no program: what the tokens of a text cover; what a token's first byte is. No conditions but those that each lemma names.
-/
namespace Go.Proofs.Ytgghmhgbdknkaaa.X.L
open Go

/-- Where the token ahead of number i ends. -/
def prevT (at_ : Nat) (r : List Tok) (i : Nat) : Nat :=
  match i with
  | 0 => at_
  | j + 1 => (r.getD j ⟨0, [], 0, 0⟩).to

theorem prevT_cons (at_ : Nat) (t : Tok) (r : List Tok) (i : Nat) : prevT at_ (t :: r) (i + 1) = prevT t.to r i := by
  cases i with
  | zero => rfl
  | succ j => rfl

theorem prevT_next (at_ : Nat) (r : List Tok) (i : Nat) (h : i < r.length) : prevT at_ r (i + 1) = r[i].to := by
  show (r.getD i ⟨0, [], 0, 0⟩).to = r[i].to
  rw [List.getD_eq_getElem?_getD, List.getElem?_eq_getElem h]
  rfl

/-- What is so of token i, behind place a. -/
def Cov (T : List UInt8) (a : Nat) (t : Tok) (last : Prop) : Prop :=
  t.fr = a + skipL false (T.drop a) ∧ a ≤ T.length ∧ t.to ≤ T.length ∧ t.fr ≤ t.to ∧ (t.to = t.fr ↔ last) ∧ (t.kind = 0 ↔ last) ∧ (t.kind ≠ 4 → t.text = (T.drop t.fr).take (t.to - t.fr)) ∧ (last → t.to = T.length)

theorem cover {p : Nat} {l : List UInt8} {r : List Tok} (h : Tk p l r) : ∀ (T : List UInt8) (a : Nat), a ≤ T.length → p = a + skipL false (T.drop a) → l = T.drop p → ∀ (i : Nat) (hi : i < r.length), Cov T (prevT a r i) r[i] (i + 1 = r.length) := by
  induction h with
  | done p =>
    intro T a ha hp hl i hi
    have hi0 : i = 0 := by simp at hi; exact hi
    subst hi0
    have hle := skipL_le false (T.drop a)
    rw [List.length_drop] at hle
    have hT : T.length ≤ p := by
      have := congrArg List.length hl
      simp at this
      omega
    refine ⟨hp, ha, ?_, Nat.le_refl _, by simp, by simp, fun _ => ?_, fun _ => ?_⟩
    · show p ≤ T.length
      omega
    · show [] = _
      simp
    · show p = T.length
      omega
  | step p l k x n r hl ho hr ih =>
    intro T a ha hp hlT i hi
    obtain ⟨hk1, hk6, hn1, hnl⟩ := oneL_facts ho
    have hle := skipL_le false (T.drop a)
    rw [List.length_drop] at hle
    have hlen : l.length = T.length - p := by rw [hlT, List.length_drop]
    have hrl : 0 < r.length := List.length_pos_iff.2 (tk_ne hr)
    cases i with
    | zero =>
      refine ⟨hp, ha, ?_, ?_, ?_, ?_, ?_, ?_⟩
      · show p + n ≤ T.length
        omega
      · show p ≤ p + n
        omega
      · show p + n = p ↔ 0 + 1 = r.length + 1
        omega
      · show k = 0 ↔ 0 + 1 = r.length + 1
        omega
      · intro hk4
        show x = (T.drop p).take (p + n - p)
        rw [← hlT, show p + n - p = n by omega]
        exact one_text ho hk4
      · intro h
        have : 0 + 1 = r.length + 1 := h
        omega
    | succ j =>
      have hj : j < r.length := by simpa using hi
      have hd : l.drop n = T.drop (p + n) := by rw [hlT, List.drop_drop]
      have h2 := ih T (p + n) (by omega) (by rw [hd]) (by rw [hd, List.drop_drop]) j hj
      rw [prevT_cons]
      have e : (j + 1 + 1 = (⟨k, x, p, p + n⟩ :: r : List Tok).length) = (j + 1 = r.length) := by simp
      rw [e]
      exact h2

theorem cover_all {T : List UInt8} {r : List Tok} (h : All T r) (i : Nat) (hi : i < r.length) : Cov T (prevT 0 r i) r[i] (i + 1 = r.length) :=
  cover h T 0 (by omega) (by simp) rfl i hi

/-- One byte further through what stands between. -/
theorem skip_step {T : List UInt8} {k : Nat} {b : Bool} {fr : Nat} (hk : k < T.length) (h : k + skipL b (T.drop k) = fr) (hlt : k < fr) :
    ∃ b2 : Bool, b2 = ((b && T[k].toNat != 10) || T[k].toNat == 35) ∧ k + 1 + skipL b2 (T.drop (k + 1)) = fr ∧ (b2 = false → T[k].toNat = 32 ∨ T[k].toNat = 9 ∨ T[k].toNat = 10) := by
  rw [List.drop_eq_getElem_cons hk] at h
  generalize T[k] = c at *
  cases b with
  | false =>
    rw [skipL] at h
    split at h
    · rename_i hb
      have hor : c.toNat = 32 ∨ c.toNat = 9 ∨ c.toNat = 10 := by
        unfold blankB at hb
        simp at hb
        omega
      refine ⟨false, ?_, by omega, fun _ => hor⟩
      have : (c.toNat == 35) = false := beq_eq_false_iff_ne.2 (by omega)
      rw [this]
      rfl
    · split at h
      · rename_i h35
        refine ⟨true, ?_, by omega, by simp⟩
        rw [beq_iff_eq.2 h35]
        rfl
      · omega
  | true =>
    rw [skipL] at h
    split at h
    · rename_i h10
      refine ⟨false, ?_, by omega, fun _ => Or.inr (Or.inr h10)⟩
      have h1 : (c.toNat == 35) = false := beq_eq_false_iff_ne.2 (by omega)
      have h2 : (c.toNat != 10) = false := by rw [h10]; rfl
      rw [h1, h2]
      rfl
    · rename_i h10
      refine ⟨true, ?_, by omega, by simp⟩
      have h2 : (c.toNat != 10) = true := by simpa using h10
      rw [h2]
      rfl

end Go.Proofs.Ytgghmhgbdknkaaa.X.L
end

section
/-
  Plain lists of bytes, no program: the tokens of a text behind a quoted one, and of two texts with a line's end between. No conditions but those that each lemma names.
-/
namespace Go.Proofs.Ytgghmhgbdknkaaa.X.L
open Go

/-- A token so many places further on. -/
def shift (d : Nat) (t : Tok) : Tok := ⟨t.kind, t.text, t.fr + d, t.to + d⟩

theorem tk_shift {p : Nat} {l : List UInt8} {r : List Tok} (h : Tk p l r) (d : Nat) : Tk (p + d) l (r.map (shift d)) := by
  induction h with
  | done p => exact Tk.done (p + d)
  | step p l k x n r hl ho hr ih =>
    have e : shift d ⟨k, x, p, p + n⟩ = ⟨k, x, p + d, p + d + n⟩ := by
      show (⟨k, x, p + d, p + n + d⟩ : Tok) = _
      rw [show p + n + d = p + d + n by omega]
    rw [List.map_cons, e]
    refine Tk.step (p + d) l k x n _ hl ho ?_
    rw [show p + d + n + skipL false (l.drop n) = p + n + skipL false (l.drop n) + d by omega]
    exact ih

theorem er_shift {p q : Nat} {l : List UInt8} (h : Er p l q) (d : Nat) : Er (p + d) l (q + d) := by
  induction h with
  | here p l hl ho => exact Er.here (p + d) l hl ho
  | step p l k x n q hl ho hr ih =>
    refine Er.step (p + d) l k x n _ hl ho ?_
    rw [show p + d + n + skipL false (l.drop n) = p + n + skipL false (l.drop n) + d by omega]
    exact ih

theorem quote_one (a s : List UInt8) : oneL (G.quoteL a ++ s) = some (4, a, (G.quoteL a).length) := by
  unfold oneL
  have h0 : G.at0 (G.quoteL a ++ s) 0 = 34 := rfl
  rw [if_pos h0, G.quoteL_told a s]

theorem quote_ne (a s : List UInt8) : G.quoteL a ++ s ≠ [] := by simp [G.quoteL]

theorem quoted_ok {a s : List UInt8} {r : List Tok} (h : toksL s = .ok r) : toksL (G.quoteL a ++ s) = .ok (⟨4, a, 0, (G.quoteL a).length⟩ :: r.map (shift (G.quoteL a).length)) := by
  have h1 := quote_one a s
  have hk := one_skip h1
  refine of_all ?_
  unfold All
  rw [hk, List.drop_zero]
  have hs := Tk.step 0 (G.quoteL a ++ s) 4 a (G.quoteL a).length (r.map (shift (G.quoteL a).length)) (quote_ne a s) h1 (by
    have hd : (G.quoteL a ++ s).drop (G.quoteL a).length = s := by simp
    rw [hd]
    have := tk_shift (all_of h) (G.quoteL a).length
    rw [show 0 + (G.quoteL a).length + skipL false s = skipL false s + (G.quoteL a).length by omega]
    exact this)
  rw [Nat.zero_add] at hs
  exact hs

theorem quoted_bad {a s : List UInt8} {q : Nat} (h : toksL s = .error q) : toksL (G.quoteL a ++ s) = .error (q + (G.quoteL a).length) := by
  have h1 := quote_one a s
  have hk := one_skip h1
  refine of_bad ?_
  unfold Bad
  rw [hk, List.drop_zero]
  refine Er.step 0 (G.quoteL a ++ s) 4 a (G.quoteL a).length _ (quote_ne a s) h1 ?_
  have hd : (G.quoteL a ++ s).drop (G.quoteL a).length = s := by simp
  rw [hd]
  have := er_shift (bad_of h) (G.quoteL a).length
  rw [show 0 + (G.quoteL a).length + skipL false s = skipL false s + (G.quoteL a).length by omega]
  exact this

theorem skip_app (b : Bool) (u v : List UInt8) : skipL b (u ++ 10 :: v) = if skipL b u = u.length then u.length + 1 + skipL false v else skipL b u := by
  induction u generalizing b with
  | nil =>
    cases b
    · have h1 : skipL false ([] : List UInt8) = ([] : List UInt8).length := rfl
      have h2 : skipL false ([] ++ 10 :: v) = skipL false v + 1 := by rw [List.nil_append, skipL, if_pos (by decide)]
      rw [if_pos h1, h2]
      simp
      omega
    · have h1 : skipL true ([] : List UInt8) = ([] : List UInt8).length := rfl
      have h2 : skipL true ([] ++ 10 :: v) = skipL false v + 1 := by rw [List.nil_append, skipL, if_pos (by decide)]
      rw [if_pos h1, h2]
      simp
      omega
  | cons c u ih =>
    rw [List.cons_append]
    cases b
    · rw [skipL, skipL]
      split
      · rw [ih]
        simp only [List.length_cons]
        split <;> split <;> omega
      · split
        · rw [ih]
          simp only [List.length_cons]
          split <;> split <;> omega
        · rw [if_neg (by simp)]
    · rw [skipL, skipL]
      split
      · rw [ih]
        simp only [List.length_cons]
        split <;> split <;> omega
      · rw [ih]
        simp only [List.length_cons]
        split <;> split <;> omega

theorem cut {p : Nat} {l : List UInt8} {r : List Tok} (h : Tk p l r) {b : List UInt8} {m : List Tok} (hm : All b m) : ∀ (u : List UInt8) (at_ A : Nat), p = at_ + skipL false u → l = u.drop (skipL false u) → at_ + u.length = A →
    Tk (at_ + skipL false (u ++ 10 :: b)) ((u ++ 10 :: b).drop (skipL false (u ++ 10 :: b))) (r.dropLast ++ m.map (shift (A + 1))) := by
  induction h with
  | done p =>
    intro u at_ A hp hl hA
    have hle := skipL_le false u
    have h2 : u.length ≤ skipL false u := by
      have := congrArg List.length hl
      simp at this
      omega
    have he : skipL false u = u.length := by omega
    rw [skip_app, if_pos he]
    have hd : (u ++ 10 :: b).drop (u.length + 1 + skipL false b) = b.drop (skipL false b) := by
      rw [List.drop_append, List.drop_eq_nil_of_le (by omega), List.nil_append, show u.length + 1 + skipL false b - u.length = skipL false b + 1 by omega, List.drop_succ_cons]
    rw [hd]
    have := tk_shift hm (A + 1)
    rw [show at_ + (u.length + 1 + skipL false b) = skipL false b + (A + 1) by omega]
    exact this
  | step p l k x n r hl ho hr ih =>
    intro u at_ A hp hlu hA
    have hle := skipL_le false u
    have hlen : l.length = u.length - skipL false u := by rw [hlu, List.length_drop]
    have hpos := List.length_pos_iff.2 hl
    obtain ⟨_, _, hn1, hnl⟩ := oneL_facts ho
    rw [skip_app, if_neg (by omega), List.drop_append_of_le_length hle, ← hlu, List.dropLast_cons_of_ne_nil (tk_ne hr), List.cons_append, ← hp]
    have h2 := oneL_app (m := b) (Or.inl rfl) hl ho
    refine Tk.step p (l ++ 10 :: b) k x n _ (by simp [hl]) h2 ?_
    rw [List.drop_append_of_le_length hnl]
    exact ih (l.drop n) (p + n) A rfl rfl (by rw [List.length_drop]; omega)

theorem cuts {a b : List UInt8} {l m : List Tok} (ha : toksL a = .ok l) (hb : toksL b = .ok m) : toksL (a ++ 10 :: b) = .ok (l.dropLast ++ m.map (shift (a.length + 1))) := by
  have h := cut (all_of ha) (all_of hb) a 0 a.length (by simp) rfl (by simp)
  refine of_all ?_
  unfold All
  rw [Nat.zero_add] at h
  exact h

end Go.Proofs.Ytgghmhgbdknkaaa.X.L
end

section
/-
  Plain lists of bytes, no program: where a text is wrong, and tokens so many places on, by their numbers. No conditions but those that each lemma names.
-/
namespace Go.Proofs.Ytgghmhgbdknkaaa.X.L
open Go

theorem er_le {p q : Nat} {l : List UInt8} (h : Er p l q) : q ≤ p + l.length := by
  induction h with
  | here p l hl ho => omega
  | step p l k x n q hl ho hr ih =>
    obtain ⟨_, _, h1, h2⟩ := oneL_facts ho
    have h3 := skipL_le false (l.drop n)
    simp only [List.length_drop] at ih h3
    omega
theorem bad_le {l : List UInt8} {q : Nat} (h : toksL l = .error q) : q ≤ l.length := by
  have h1 := er_le (bad_of h)
  have h2 := skipL_le false l
  rw [List.length_drop] at h1
  omega

theorem shift_get {t : Tok} {r : List Tok} {d : Nat} (i : Nat) (h : i < r.length) (h2 : i + 1 < (t :: r.map (shift d)).length) :
    (t :: r.map (shift d))[i + 1].kind = r[i].kind ∧ (t :: r.map (shift d))[i + 1].text = r[i].text ∧ (t :: r.map (shift d))[i + 1].fr = r[i].fr + d ∧ (t :: r.map (shift d))[i + 1].to = r[i].to + d := by
  simp [shift]

theorem app_left {l m : List Tok} {d : Nat} (i : Nat) (h : i + 1 < l.length) (h2 : i < (l.dropLast ++ m.map (shift d)).length) : (l.dropLast ++ m.map (shift d))[i] = l[i] := by
  rw [List.getElem_append_left (by simp; omega)]
  simp

theorem app_right {l m : List Tok} {d : Nat} (i : Nat) (h : i < m.length) (h2 : l.length - 1 + i < (l.dropLast ++ m.map (shift d)).length) : (l.dropLast ++ m.map (shift d))[l.length - 1 + i] = shift d m[i] := by
  rw [List.getElem_append_right (by simp)]
  simp

end Go.Proofs.Ytgghmhgbdknkaaa.X.L
end
