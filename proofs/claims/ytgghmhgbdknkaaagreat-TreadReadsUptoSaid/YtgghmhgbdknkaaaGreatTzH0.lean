/-
  Plain lists: a row of nodes is one row of trees at most; whether what is read is a type. No machine here; no conditions but those that each lemma names.
-/
import Derived.Test.YtgghmhgbdknkaaaGreatMR6
namespace Go.Proofs.YtgghmhgbdknkaaaGreat.L
open Go

theorem Fo.flat_inj : ∀ (f g : Fo) (r s : List Nd), f.ok = true → g.ok = true → f.count = g.count → f.flat ++ r = g.flat ++ s → f = g ∧ r = s := by
  intro f
  induction f with
  | nil =>
    intro g r s _ _ hc h
    cases g with
    | nil => exact ⟨rfl, by simpa [Fo.flat] using h⟩
    | cons y ks q => simp [Fo.count] at hc
  | cons x ks q ihk ihq =>
    intro g r s hf hg hc h
    cases g with
    | nil => simp [Fo.count] at hc
    | cons y kt p =>
      simp only [Fo.flat, List.cons_append, List.append_assoc, List.cons.injEq] at h
      obtain ⟨rfl, h⟩ := h
      simp only [Fo.ok, Bool.and_eq_true, decide_eq_true_eq] at hf hg
      obtain ⟨⟨⟨⟨-, h1⟩, -⟩, h2⟩, h3⟩ := hf
      obtain ⟨⟨⟨⟨-, g1⟩, -⟩, g2⟩, g3⟩ := hg
      simp only [Fo.count] at hc
      obtain ⟨rfl, h4⟩ := ihk kt _ _ h2 g2 (by rw [h1] at g1; exact_mod_cast g1) h
      obtain ⟨rfl, h5⟩ := ihq p _ _ h3 g3 (by omega) h4
      exact ⟨rfl, h5⟩

/-- What is right but for its depth is right just if it is not too deep. -/
theorem rightL_deep {x : Nd} {ks : Fo} (hok : (Fo.cons x ks .nil).ok = true) (hb : bare x = true) (hn : (x :: ks.flat).length ≤ 10000) : rightL (x :: ks.flat) = decide (ks.deep + 1 ≤ 100) := by
  by_cases hd : ks.deep + 1 ≤ 100
  · rw [decide_eq_true hd]
    exact (rightL_iff _).2 ⟨x, ks, rfl, hn, hb, hok, hd⟩
  · rw [decide_eq_false hd, Bool.eq_false_iff]
    intro h
    obtain ⟨y, kt, hl, -, -, hok2, hd2⟩ := (rightL_iff _).1 h
    injection hl with h1 h2
    subst h1
    have hok' := hok
    simp only [Fo.ok, Bool.and_eq_true, decide_eq_true_eq] at hok hok2
    obtain ⟨rfl, -⟩ := Fo.flat_inj ks kt [] [] hok.1.2 hok2.1.2 (by have a := hok.1.1.1.2; have b := hok2.1.1.1.2; omega) (by rw [h2])
    exact hd hd2

end Go.Proofs.YtgghmhgbdknkaaaGreat.L
