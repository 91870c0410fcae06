/-
  The texts TrPa, one behind the other. Conditions: those that each of them names.
-/
import Derived.Test.YtgghmhgbdknkaaaMR4
import Derived.Test.YtgghmhgbdknkaaaMR3
section
/-
  Plain lists: a type in brackets is the type, or it is too deep. No conditions but those that each lemma names.
-/
namespace Go.Proofs.Ytgghmhgbdknkaaa
open Go

def parO : T.Tk := ⟨5, ⟨#[40]⟩, 0, 0⟩
def parC : T.Tk := ⟨5, ⟨#[41]⟩, 0, 0⟩
def parE : T.Tk := ⟨0, ⟨#[]⟩, 0, 0⟩
def parT (l : List T.Tk) : List T.Tk := [parO] ++ l.take (l.length - 1) ++ [parC, parE]

theorem parT_len {l : List T.Tk} (h : 0 < l.length) : (parT l).length = l.length + 2 := by
  unfold parT
  simp only [List.length_append, List.length_cons, List.length_nil, List.length_take]
  omega

theorem parT_at {l : List T.Tk} (h : 0 < l.length) : (parT l)[0]? = some parO ∧ (∀ i, i < l.length - 1 → (parT l)[i + 1]? = l[i]?) ∧ (parT l)[l.length]? = some parC ∧ (parT l)[l.length + 1]? = some parE := by
  have hl : (l.take (l.length - 1)).length = l.length - 1 := by rw [List.length_take]; omega
  have hl1 : ([parO] ++ l.take (l.length - 1)).length = l.length := by rw [List.length_append, hl]; simp only [List.length_cons, List.length_nil]; omega
  refine ⟨rfl, fun i hi => ?_, ?_, ?_⟩
  · unfold parT
    rw [List.getElem?_append_left (by rw [hl1]; omega), List.getElem?_append_right (by simp)]
    simp only [List.length_cons, List.length_nil, Nat.zero_add, Nat.add_sub_cancel]
    rw [List.getElem?_take_of_lt hi]
  · unfold parT
    rw [List.getElem?_append_right (by rw [hl1]; omega), hl1, Nat.sub_self]
    rfl
  · unfold parT
    rw [List.getElem?_append_right (by rw [hl1]; omega), hl1, Nat.add_sub_cancel_left]
    rfl

theorem isSign_of {l : List T.Tk} {p : Nat} {t : T.Tk} (h : l[p]? = some t) (k : ByteArray) : T.isSign l p k = (decide (t.kind = 5) && decide (t.text = k)) := by
  unfold T.isSign
  rw [h]

theorem ofF_ok {l : List T.Tk} {t : T.Tr} {ss : List T.Si} (h : ofF l = .ok t ss) : ∃ n, T.readF l 0 1 1 = .ok t n ss ∧ n + 1 = l.length ∧ (tokAt l n).kind = 0 := by
  unfold ofF at h
  cases hr : T.readF l 0 1 1 with
  | bad p e => rw [hr] at h; cases h
  | ok u n s2 =>
    rw [hr] at h
    simp only at h
    split at h
    · rename_i hc
      injection h with h1 h2
      subst h1
      subst h2
      exact ⟨n, rfl, hc.1, hc.2⟩
    · cases h

theorem ofF_par {l : List T.Tk} {n : Nat} (hl : TokFacts n l) {t : T.Tr} {ss : List T.Si} (h : ofF l = .ok t ss) : ofF (parT l) = .ok t ss ∨ ofF (parT l) = .bad 4 := by
  obtain ⟨k, hr, hk, hk0⟩ := ofF_ok h
  obtain ⟨-, hf, s1, hty, hn, hss, -⟩ := readF_ok hr
  have e0 : min (0 : Int).toNat l.length = 0 := by simp
  rw [e0] at hty
  have hty : T.typeF l 99 ⟨0, 1, []⟩ = .ok t s1 := hty
  obtain ⟨p0, pm, pc, pe⟩ := parT_at hl.pos
  have hao : T.Ao l (parT l) (l.length - 1) 1 := by
    refine ⟨pm, ⟨tokAt l k, ?_, hk0⟩, ?_⟩
    · rw [show l.length - 1 = k by omega]
      unfold tokAt
      simp [List.getD, (by omega : k < l.length)]
    · rw [show l.length - 1 + 1 = l.length by omega, isSign_of pc, isSign_of pc, isSign_of pc]
      exact ⟨by decide, by decide, by decide⟩
  have h99 := (T.typeF_ao hao 99 ⟨0, 1, []⟩ (Nat.zero_le _) t s1 hty).1
  have h99 : T.typeF (parT l) 99 ⟨1, 1, []⟩ = .ok t (T.shO 1 s1) := h99
  have hop : T.isSign (parT l) 0 T.kQ = false ∧ T.isSign (parT l) 0 T.kOpen = true := by
    rw [isSign_of p0, isSign_of p0]
    exact ⟨by decide, by decide⟩
  have hs1 : (T.shO 1 s1).pl = l.length := by simp only [T.shO]; omega
  have hcl : T.isSign (parT l) (T.shO 1 s1).pl T.kClose = true := by
    rw [hs1, isSign_of pc]
    decide
  have har : T.isSign (parT l) (l.length + 1) T.kArrow = false := by
    rw [isSign_of pe]
    decide
  have hop2 : T.operF (parT l) (some (T.typeF (parT l) 98)) ⟨0, 1, []⟩ = parF (parT l) ⟨0, 1, []⟩ (T.typeF (parT l) 98) := by
    rw [operF_eq, if_neg (by rw [hop.1]; simp), if_pos hop.2]
    rfl
  have em : min (0 : Int).toNat (parT l).length = 0 := by simp
  rcases T.typeF_le (parT l) 98 ⟨1, 1, []⟩ with h98 | ⟨p, h98⟩
  · left
    have hw : T.typeF (parT l) 99 ⟨0, 1, []⟩ = .ok t ⟨l.length + 1, s1.site, s1.sites⟩ := by
      show T.wholeF (parT l) (some (T.typeF (parT l) 98)) ⟨0, 1, []⟩ = _
      have ho : T.operF (parT l) (some (T.typeF (parT l) 98)) ⟨0, 1, []⟩ = .ok t ⟨l.length + 1, s1.site, s1.sites⟩ := by
        rw [hop2]
        unfold parF
        show (T.typeF (parT l) 98 ⟨1, 1, []⟩).bind _ = _
        rw [h98, h99]
        show (T.take (parT l) (T.shO 1 s1) T.kClose).bind _ = _
        rw [take_yes hcl]
        show T.R.ok t (stN (T.shO 1 s1)) = _
        unfold stN
        rw [hs1]
        rfl
      exact wholeF_not ho har
    have hrd := readF_of (l := parT l) (p := 0) (site := 1) (lv := 1) (by decide) em rfl hw hf
    unfold ofF
    rw [hrd]
    simp only
    rw [if_pos ⟨by rw [parT_len hl.pos], by rw [tokAt_some pe]; rfl⟩, ← hss]
  · right
    have hw : T.typeF (parT l) 99 ⟨0, 1, []⟩ = .bad p 4 := by
      show T.wholeF (parT l) (some (T.typeF (parT l) 98)) ⟨0, 1, []⟩ = _
      refine wholeF_bad ?_
      rw [hop2]
      exact bind_bad h98
    have hrd : T.readF (parT l) 0 1 1 = .bad p 4 := by
      rw [readF_w _ _ _ _ (by decide), em]
      unfold wF
      rw [show 100 - (1 : Int).toNat = 99 by rfl, hw]
    unfold ofF
    rw [hrd]

theorem ofF_err {l : List T.Tk} {e : Int} (h : ofF l = .bad e) : 0 < e := by
  unfold ofF at h
  cases hr : T.readF l 0 1 1 with
  | bad p f =>
    rw [hr] at h
    injection h with h1
    subst h1
    exact (readF_err hr).1
  | ok u n s2 =>
    rw [hr] at h
    simp only at h
    split at h
    · cases h
    · injection h with h1
      omega

theorem ofF_sites {l : List T.Tk} {t : T.Tr} {ss : List T.Si} (h : ofF l = .ok t ss) : ss.length ≤ l.length := by
  obtain ⟨n, hr, -, -⟩ := ofF_ok h
  obtain ⟨-, -, s1, -, -, hss, hg⟩ := readF_ok hr
  obtain ⟨new, h5, -, h6⟩ := hg.went
  have h7 := hg.le
  rw [hss, h5]
  simp only [List.nil_append]
  omega

end Go.Proofs.Ytgghmhgbdknkaaa
end
