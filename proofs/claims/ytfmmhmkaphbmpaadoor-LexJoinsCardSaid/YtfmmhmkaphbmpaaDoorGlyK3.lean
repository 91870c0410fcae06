/-
  Plain lists of bytes, no program: line ends counted one by one; words with a byte more.
-/
import Derived.Test.YtfmmhmkaphbmpaaDoorGlyK2
import Derived.Test.YtfmmhmkaphbmpaaDoorGlyE
namespace Go.Proofs.YtfmmhmkaphbmpaaDoor
open Go

theorem G.ends_succ (l : List UInt8) (i : Nat) (h : i < l.length) : G.ends (l.take (i + 1)) = G.ends (l.take i) + if G.at0 l i = 10 then 1 else 0 := by
  have e : l.take (i + 1) = l.take i ++ [l[i]] := List.take_succ_eq_append_getElem h
  have e2 : G.at0 l i = l[i].toNat := by
    unfold G.at0
    rw [List.getD_eq_getElem?_getD, List.getElem?_eq_getElem h]
    rfl
  unfold G.ends
  rw [e, List.filter_append, List.length_append, e2]
  by_cases hc : l[i] = 10
  · rw [hc]; rfl
  · have e3 : ¬ l[i].toNat = 10 := fun hh => hc (UInt8.toNat_inj.1 hh)
    simp [hc, e3]

theorem G.ends_le (l : List UInt8) : G.ends l ≤ l.length := List.length_filter_le _ _

/-- A word, or a tag, of a list. -/
def nameL (lo hi : Int) (l : List UInt8) : Bool :=
  match l with
  | [] => false
  | c :: r => inB (c.toNat : Int) lo hi && r.all fun d => behB (d.toNat : Int)

theorem allB_list (s : ByteArray) (f i : Nat) (hf : s.size ≤ i + f) : allB f s i = (s.data.toList.drop i).all fun d => behB (d.toNat : Int) := by
  induction f generalizing i with
  | zero =>
    have : s.data.toList.drop i = [] := drop_nil (by omega)
    rw [this]
    rfl
  | succ f ih =>
    by_cases h : i < s.size
    · have h2 : i < s.data.toList.length := by simpa using h
      rw [allB, if_pos h, ih (i + 1) (by omega), List.drop_eq_getElem_cons h2, List.all_cons]
      have : byteAt s i = (s.data.toList[i]).toNat := by rw [← byteAt_eq s i h]; rfl
      rw [this]
    · rw [allB_end s _ i h, drop_nil h]
      rfl

theorem nameB_list (lo hi : Int) (s : ByteArray) : nameB lo hi s = nameL lo hi s.data.toList := by
  unfold nameB nameL
  rw [allB_list s s.size 1 (by omega)]
  have hs : s.data.toList.length = s.size := by simp
  cases h : s.data.toList with
  | nil =>
    rw [h] at hs
    simp at hs
    simp [← hs]
  | cons c r =>
    rw [h] at hs
    have hb : byteAt s 0 = c.toNat := by
      rw [byteAt_at0, h]
      rfl
    rw [hb]
    have h0 : 0 < s.size := by rw [← hs]; simp
    simp [h0]

/-- With a byte more. -/
theorem nameL_more (lo hi : Int) (l : List UInt8) (c : UInt8) (hl : l ≠ []) : nameL lo hi (l ++ [c]) = (nameL lo hi l && behB (c.toNat : Int)) := by
  cases l with
  | nil => exact absurd rfl hl
  | cons d r => simp [nameL, List.all_append, Bool.and_assoc]

theorem nameL_one (lo hi : Int) (c : UInt8) : nameL lo hi [c] = inB (c.toNat : Int) lo hi := by simp [nameL]

/-- Nothing is a word and a tag. -/
theorem nameL_both (l : List UInt8) : (nameL 97 122 l && nameL 65 90 l) = false := by
  cases l with
  | nil => rfl
  | cons c r =>
    unfold nameL inB
    rw [Bool.eq_false_iff]
    simp
    omega

end Go.Proofs.YtfmmhmkaphbmpaaDoor
