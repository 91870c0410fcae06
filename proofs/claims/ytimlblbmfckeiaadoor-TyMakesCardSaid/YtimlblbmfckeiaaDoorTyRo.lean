/-
  What is kept of a row of the call's own, of any type. No conditions but those that each lemma names.
-/
import Derived.Test.YtimlblbmfckeiaaDoorTyO
namespace Go.Proofs.YtimlblbmfckeiaaDoor
open Go.RowKit

theorem row_below {B : Nat} {T : TypeId} {s n : Nat} {v : Value} {c : List Value} {w w' : World} (h : w.ownsRow B T s v n c) (hb : Below w.heap.size w w') : w'.ownsRow B T s v n c := by
  by_cases hv : v.ownBlock = none
  · exact h.kept (grown_of_below hb) (Or.inl hv)
  · exact h.kept (grown_of_below hb) (Or.inr hv)

/-- A row stays where a row of another type grows. -/
theorem row_aside {B B2 : Nat} {T T2 : TypeId} {s s2 n n2 : Nat} {v v2 : Value} {c c2 : List Value} {w w' : World} (h : w.ownsRow B T s v n c) (ho : w.ownsRow B2 T2 s2 v2 n2 c2) (hT : T ≠ T2) (hg : w.grownBy w' v2.ownBlock) : w'.ownsRow B T s v n c := by
  refine h.kept hg ?_
  rcases h.2 with ⟨hv, _⟩ | ⟨g, cap, cur, hv, _, hh, _⟩
  · left; rw [hv]; rfl
  · right
    rcases ho.2 with ⟨hv2, _⟩ | ⟨g2, cap2, cur2, hv2, _, hh2, _⟩
    · rw [hv, hv2]; simp [Value.ownBlock]
    · rw [hv, hv2]
      simp only [Value.ownBlock, ne_eq, Option.some.injEq]
      rintro rfl
      rw [hh] at hh2
      injection hh2 with hh2
      injection hh2 with _ h2
      exact hT h2

theorem row_more {B B' : Nat} {T : TypeId} {s n : Nat} {v : Value} {c : List Value} {w : World} (h : w.ownsRow B T s v n c) (hB : B' ≤ B) : w.ownsRow B' T s v n c :=
  ⟨h.1, h.2.imp id fun ⟨g, cp, cur, h1, h2, h3⟩ => ⟨g, cp, cur, h1, Nat.le_trans hB h2, h3⟩⟩

end Go.Proofs.YtimlblbmfckeiaaDoor
