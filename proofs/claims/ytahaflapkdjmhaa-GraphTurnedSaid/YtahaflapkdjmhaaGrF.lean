/-
  Texts in their order, byte by byte; the order of modules by their names. No conditions.
-/
import Derived.Test.YtahaflapkdjmhaaGrE3
import Derived.Test.YtahaflapkdjmhaaGrH
namespace Go.Proofs.Ytahaflapkdjmhaa
open Go.RowKit

namespace Gr
theorem u8n {a b : UInt8} : a < b ↔ a.toNat < b.toNat := UInt8.lt_iff_toNat_lt
theorem bl_irrefl : ∀ a : List UInt8, Op.bytesLess a a = false
  | [] => rfl
  | x :: a => by simp [Op.bytesLess, bl_irrefl a]
theorem bl_trans : ∀ {a b c : List UInt8}, Op.bytesLess a b = true → Op.bytesLess b c = true → Op.bytesLess a c = true
  | [], [], _, h, _ => by simp [Op.bytesLess] at h
  | [], _ :: _, [], _, g => by simp [Op.bytesLess] at g
  | [], _ :: _, _ :: _, _, _ => by simp [Op.bytesLess]
  | _ :: _, [], _, h, _ => by simp [Op.bytesLess] at h
  | _ :: _, _ :: _, [], _, g => by simp [Op.bytesLess] at g
  | x :: a, y :: b, z :: c, h, g => by
    simp only [Op.bytesLess, Bool.or_eq_true, Bool.and_eq_true, decide_eq_true_eq, beq_iff_eq, u8n] at h g ⊢
    rcases h with h | ⟨rfl, h⟩
    · rcases g with g | ⟨rfl, g⟩
      · left; omega
      · left; exact h
    · rcases g with g | ⟨rfl, g⟩
      · left; exact g
      · right; exact ⟨rfl, bl_trans h g⟩
theorem bl_tot : ∀ {a b : List UInt8}, Op.bytesLess a b = false → Op.bytesLess b a = false → a = b
  | [], [], _, _ => rfl
  | [], _ :: _, h, _ => by simp [Op.bytesLess] at h
  | _ :: _, [], _, g => by simp [Op.bytesLess] at g
  | x :: a, y :: b, h, g => by
    simp only [Op.bytesLess, Bool.or_eq_false_iff, Bool.and_eq_false_iff, decide_eq_false_iff_not, beq_eq_false_iff_ne, u8n] at h g
    have e : x = y := UInt8.toNat_inj.1 (by omega)
    subst e
    have h1 := h.2.resolve_left (by simp)
    have g1 := g.2.resolve_left (by simp)
    rw [bl_tot h1 g1]
theorem bl_asym {a b : List UInt8} (h : Op.bytesLess a b = true) : Op.bytesLess b a = false := by
  cases g : Op.bytesLess b a with
  | false => rfl
  | true => have := bl_trans h g; rw [bl_irrefl] at this; cases this
theorem str_inj {s t : ByteArray} (h : s.toList = t.toList) : s = t := by
  rw [Lib.toList_data, Lib.toList_data] at h
  exact ByteArray.ext (Array.toList_inj.1 h)

theorem nlt_irrefl (l : List Md) (a : Nat) : nlt l a a = false := bl_irrefl _
theorem nlt_asym {l : List Md} {a b : Nat} (h : nlt l a b = true) : nlt l b a = false := bl_asym h
theorem nlt_trans {l : List Md} {a b c : Nat} (h : nlt l a b = true) (g : nlt l b c = true) : nlt l a c = true := bl_trans h g
theorem nlt_same {l : List Md} {a b : Nat} (h : nlt l a b = false) (g : nlt l b a = false) : nm l a = nm l b := str_inj (bl_tot h g)

/-- One's name is not greater than another one's. -/
def nle (l : List Md) (a b : Nat) : Prop := nlt l b a = false
theorem nle_refl (l : List Md) (a : Nat) : nle l a a := nlt_irrefl l a
theorem nle_trans (l : List Md) (a b c : Nat) (h : nle l a b) (g : nle l b c) : nle l a c := by
  unfold nle at *
  cases e : nlt l c a with
  | false => rfl
  | true =>
    cases e2 : nlt l a b with
    | true => rw [nlt_trans e e2] at g; cases g
    | false =>
      have := nlt_same e2 h
      unfold nlt at e g
      rw [this] at e
      rw [e] at g; cases g
theorem nle_tot (l : List Md) (a b : Nat) (h : ¬ nle l a b) : nle l b a := by
  unfold nle at *
  cases e : nlt l b a with
  | false => exact absurd e h
  | true => exact nlt_asym e

/-- A row as a function of its places. -/
def fn (its : List Nat) : Nat → Nat := fun k => its.getD k 0
theorem fn_swap (its : List Nat) (i j : Nat) (hi : i < its.length) (hj : j < its.length) : fn (swapL its i j) = Hp.swap (fn its) i j := by
  funext k
  simp only [fn, swapL, Hp.swap, List.getD, List.getElem?_set, List.length_set]
  by_cases e1 : k = i
  · subst e1
    by_cases e2 : j = k
    · subst e2; simp [hi]
    · simp [e2, hi]
  · by_cases e2 : k = j
    · subst e2
      have : ¬ i = k := fun e => e1 e.symm
      simp [hj, e1]
    · have h1 : ¬ i = k := fun e => e1 e.symm
      have h2 : ¬ j = k := fun e => e2 e.symm
      simp [e1, e2, h1, h2]
theorem swapL_perm (its : List Nat) (i j : Nat) (hi : i < its.length) (hj : j < its.length) : (swapL its i j).Perm its := by
  rw [List.perm_iff_count]
  intro a
  unfold swapL
  have e1 : its.getD j 0 = its[j] := by simp [List.getD, hj]
  have e2 : its.getD i 0 = its[i] := by simp [List.getD, hi]
  rw [e1, e2, List.count_set (h := by simpa using hj), List.count_set hi, List.getElem_set]
  have h1 : its[i] = a → 0 < its.count a := fun e => List.count_pos_iff.2 (e ▸ List.getElem_mem hi)
  have h2 : its[j] = a → 0 < its.count a := fun e => List.count_pos_iff.2 (e ▸ List.getElem_mem hj)
  by_cases hij : i = j
  · subst hij
    by_cases h : its[i] = a
    · have := h1 h; simp [h]; omega
    · simp [h]
  · by_cases ha : its[i] = a <;> by_cases hb : its[j] = a
    · have := h1 ha; simp [hij, ha, hb]; omega
    · have := h1 ha; simp [hij, ha, hb]; omega
    · have := h2 hb; simp [hij, ha, hb]
    · simp [hij, ha, hb]
end Gr

end Go.Proofs.Ytahaflapkdjmhaa
