/-
  What few parts are. No program.
-/
import Derived.Test.YtmcdggjcpfkchaaAgY
import Derived.Test.YtmcdggjcpfkchaaAgM
import Derived.Test.YtmcdggjcpfkchaaAgLr
import Derived.Test.YtmcdggjcpfkchaaMA16
import Derived.Test.YtmcdggjcpfkchaaMA7
namespace Go.Proofs.Ytmcdggjcpfkchaa
theorem own_new {n k m c : Nat} (h : (Value.slice (some ⟨n, 0, none⟩) m c).ownBlock = some k) : n ≤ k := by
  have e : some n = some k := h
  injection e with e
  omega
theorem fewL_parts {l : List E.Pt} {most : Nat} (h : E.fewL l most = true) : l.length ≤ most ∧ ∀ p ∈ l, E.fewP p = true := by
  simp only [E.fewL, Bool.and_eq_true, decide_eq_true_eq, List.all_eq_true] at h
  exact h
theorem few_types {p : E.Pt} (h : E.fewP p = true) : p.t.length ≤ 60 ∧ p.u.length ≤ 60 := by
  simp only [E.fewP, Bool.and_eq_true, decide_eq_true_eq] at h
  exact ⟨h.1.2.2.2.1, h.1.2.2.2.2⟩
end Go.Proofs.Ytmcdggjcpfkchaa
