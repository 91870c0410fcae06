/-
  Plain lists of bytes, no program: where a text is wrong, and tokens so many places on, by their numbers. No conditions but those that each lemma names.
-/
import Derived.Test.YtfmmhmkaphbmpaaDoorLexE
import Derived.Test.YtfmmhmkaphbmpaaDoorLexE2
namespace Go.Proofs.YtfmmhmkaphbmpaaDoor.L
open Go

theorem er_le {p q : Nat} {l : List UInt8} (h : Er p l q) : q ≤ p + l.length := by
  induction h with
  | here p l hl ho => omega
  | step p l k x n q hl ho hr ih =>
    obtain ⟨_, _, h1, h2⟩ := oneL_facts ho
    have h3 := skipL_le false (l.drop n)
    simp only [List.length_drop] at ih h3
    omega
theorem bad_le {l : List UInt8} {q : Nat} (h : toksL l = .error q) : q ≤ l.length := by
  have h1 := er_le (bad_of h)
  have h2 := skipL_le false l
  rw [List.length_drop] at h1
  omega

theorem shift_get {t : Tok} {r : List Tok} {d : Nat} (i : Nat) (h : i < r.length) (h2 : i + 1 < (t :: r.map (shift d)).length) :
    (t :: r.map (shift d))[i + 1].kind = r[i].kind ∧ (t :: r.map (shift d))[i + 1].text = r[i].text ∧ (t :: r.map (shift d))[i + 1].fr = r[i].fr + d ∧ (t :: r.map (shift d))[i + 1].to = r[i].to + d := by
  simp [shift]

theorem app_left {l m : List Tok} {d : Nat} (i : Nat) (h : i + 1 < l.length) (h2 : i < (l.dropLast ++ m.map (shift d)).length) : (l.dropLast ++ m.map (shift d))[i] = l[i] := by
  rw [List.getElem_append_left (by simp; omega)]
  simp

theorem app_right {l m : List Tok} {d : Nat} (i : Nat) (h : i < m.length) (h2 : l.length - 1 + i < (l.dropLast ++ m.map (shift d)).length) : (l.dropLast ++ m.map (shift d))[l.length - 1 + i] = shift d m[i] := by
  rw [List.getElem_append_right (by simp)]
  simp

end Go.Proofs.YtfmmhmkaphbmpaaDoor.L
