/-
  The library's contracts laid over this seat's program: none is wanted here. No conditions.
-/
import Derived.Shelf.Lay
import Derived.Shelf.LaySoft
import Derived.Test.YtkkigdbinnfbfaaProg
