/-
  The library contracts that this seat's proofs use, laid over its program: each is one application of a theorem of the library. No conditions but those that each theorem names.
-/
import Derived.Shelf.Lay
import Derived.Shelf.LaySoft
import Derived.Test.YtpndbgdimkpfjaaProg
namespace Go.Proofs
open Go.Shelf
shelf_tried
end Go.Proofs
