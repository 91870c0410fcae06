/-
  The walk of the reference's Same. No conditions but that the slices read as nodes.
-/
import Derived.Test.YtimlblbmfckeiaaDoorTyT
namespace Go.Proofs.YtimlblbmfckeiaaDoor
open Go.RowKit

end Go.Proofs.YtimlblbmfckeiaaDoor
