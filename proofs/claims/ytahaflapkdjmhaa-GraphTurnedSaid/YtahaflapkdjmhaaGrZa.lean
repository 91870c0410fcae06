/-
  There is one answer to Order; what it says. No program.
-/
import Derived.Test.YtahaflapkdjmhaaGrZ
namespace Go.Proofs.Ytahaflapkdjmhaa.Gr

theorem ltP_asym {l : List Md} : ∀ a b, ltP l a b → ¬ ltP l b a := fun a b h g => by
  have := nlt_asym h
  unfold ltP at g
  rw [this] at g; cases g
theorem Best.one {lt : Nat → Nat → Prop} (asym : ∀ a b, lt a b → ¬ lt b a) {P : Nat → Prop} {a b : Nat} (h : Best lt P (some a)) (g : Best lt P (some b)) : a = b := by
  obtain ⟨h1, h2⟩ := h.so a rfl
  obtain ⟨g1, g2⟩ := g.so b rfl
  exact Classical.byContradiction fun hne => asym _ _ (h2 b g1 (fun e => hne e.symm)) (g2 a h1 hne)
theorem OrderAns.one {l : List Md} {a b : List Nat} {at1 at2 e f : Int} (h : OrderAns l a at1 e) (g : OrderAns l b at2 f) : a = b ∧ at1 = at2 ∧ e = f := by
  cases h with
  | again h1 h2 h3 h4 =>
    cases g with
    | again g1 g2 g3 g4 => exact ⟨by rw [h2, g2], by rw [h3, g3], by rw [h4, g4]⟩
    | lost g0 | cycle m g0 | order g0 => omega
  | lost h0 h1 h2 h3 h4 =>
    cases g with
    | lost g0 g1 g2 g3 g4 => exact ⟨by rw [h2, g2], by rw [h3, g3], by rw [h4, g4]⟩
    | again g0 | cycle m g0 g1 | order g0 g1 => omega
  | cycle m h0 h1 hm h2 h3 h4 =>
    cases g with
    | cycle m2 g0 g1 gm g2 g3 g4 =>
      have := Best.one ltP_asym hm gm
      exact ⟨by rw [h2, g2], by rw [h3, g3, this], by rw [h4, g4]⟩
    | again g0 | lost g0 g1 => omega
    | order g0 g1 gg gl gc =>
      obtain ⟨⟨h5, h6⟩, -⟩ := hm.so m rfl
      exact absurd h6 (gc m h5)
  | order h0 h1 hg hl hc h3 h4 =>
    cases g with
    | order g0 g1 gg gl gc g3 g4 => exact ⟨Greedy.one ltP_asym hg gg (by rw [hl, gl]), by rw [h3, g3], by rw [h4, g4]⟩
    | again g0 | lost g0 g1 => omega
    | cycle m g0 g1 gm =>
      obtain ⟨⟨h5, h6⟩, -⟩ := gm.so m rfl
      exact absurd h6 (hc m h5)
theorem OrderAns.len {l : List Md} {a : List Nat} {at1 e : Int} (h : OrderAns l a at1 e) : a.length ≤ l.length := by
  cases h with
  | again h1 h2 | lost h0 h1 h2 | cycle m h0 h1 hm h2 => rw [h2]; exact Nat.zero_le _
  | order h0 h1 hg hl => omega

end Go.Proofs.Ytahaflapkdjmhaa.Gr
