/-
  The walks of the reference's least and ready. Conditions: few modules, short names.
-/
import Derived.Test.YtahaflapkdjmhaaGrXb
namespace Go.Proofs.Ytahaflapkdjmhaa
open Go.RowKit

namespace Gr
theorem bestI_lt {b : Option Nat} {n : Nat} (h : ∀ m, b = some m → m < n) : bestI b < n := by
  cases b with
  | none => simp [bestI]; omega
  | some m => have := h m rfl; simp [bestI]; omega
end Gr

end Go.Proofs.Ytahaflapkdjmhaa
