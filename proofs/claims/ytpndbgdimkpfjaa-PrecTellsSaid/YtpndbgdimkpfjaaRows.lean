/-
  No cell of these rows narrows 'for every input' (looked for: loops, veiled, ifaces, maps, wideKeys, modest, calm, conditions, laid).
  DERIVED. THE GIVEN ROWS OF THIS SEAT. 8 by the template 'for every input the law returns true; each argument reads behind the call as it read before'; 0 by the template 'total and deterministic' (their statements: YtpndbgdimkpfjaaTotals.lean).
  GIVEN WITH THE SEED: the statements are not yours to turn. If you find one false, say at which input.
  Laid BY PROGRAM, IN A SANDBOX (cutbox-rows.mjs): the forced cells as the released guide's own fill.sh prints them over the translation 8fea5fab04e1fabc… (all of the seat's roots in one cut). By AI agents, Wed Nov 11 2026. No macro, syntax, notation, axiom, sorry.
-/
import Derived.Test.YtpndbgdimkpfjaaChecked
import GoSem.Claim
import GoSem.ClaimJoined
import GoSem.ClaimMapViews
import Derived.JoinedTies
import Derived.KernelRfl
namespace Go.Proofs.Ytpndbgdimkpfjaa
/- THE CELL 'sum', in the pinned program and in every row, IS THE sha256 OF THE DUMP (.gsa) THAT YtpndbgdimkpfjaaProg.lean LOADS. Nothing in Lean hashes anything: it is a label: what it is worth is what the hold of that sum in a sandbox is worth. -/
noncomputable def Try.pinned : Pinned := { name := "ytpndbgdimkpfjaa", sum := "8fea5fab04e1fabc74c9dd272239a9dd9690f7d3dde5697f325bf1d4c73156c6", checked := Try.checked }
namespace Rows
def none {H : Type} : Left H := { results := [], args := [] }

/-- 'leavenlaw07.PrecTells': WHATEVER THE INPUT: true; the input reads as it did. -/
def precTellsSpec : ChangeSpec := { name := "precTells", fn := fun _ => fun
  | [d1, d2] => { results := [.lit (.bool true)], args := [d1, d2] }
  | _ => none }
def precTellsRow : OpenClaim := { program := "ytpndbgdimkpfjaa", sum := "8fea5fab04e1fabc74c9dd272239a9dd9690f7d3dde5697f325bf1d4c73156c6", func := "leaven/leavenlaw07.PrecTells", spec := "precTells", unfollowed := true, recurses := true, apart := false }
def PrecTellsSaid : Prop := precTellsRow.holds Try.pinned (OpenSpec.ofChange precTellsSpec)

/-- ITS FALSE NEIGHBOUR: 'it returns false'. Refute it at one input. -/
def precTellsWrong : ChangeSpec := { name := "precTells", fn := fun _ => fun
  | [d1, d2] => { results := [.lit (.bool false)], args := [d1, d2] }
  | _ => none }
def PrecTellsWrongFalsely : Prop := precTellsRow.holds Try.pinned (OpenSpec.ofChange precTellsWrong)

/-- 'leavenlaw07.PrecLooks': WHATEVER THE INPUT: true; the input reads as it did. -/
def precLooksSpec : ChangeSpec := { name := "precLooks", fn := fun _ => fun
  | [d1, d2] => { results := [.lit (.bool true)], args := [d1, d2] }
  | _ => none }
def precLooksRow : OpenClaim := { program := "ytpndbgdimkpfjaa", sum := "8fea5fab04e1fabc74c9dd272239a9dd9690f7d3dde5697f325bf1d4c73156c6", func := "leaven/leavenlaw07.PrecLooks", spec := "precLooks", unfollowed := true, recurses := true, apart := false }
def PrecLooksSaid : Prop := precLooksRow.holds Try.pinned (OpenSpec.ofChange precLooksSpec)

/-- ITS FALSE NEIGHBOUR: 'it returns false'. Refute it at one input. -/
def precLooksWrong : ChangeSpec := { name := "precLooks", fn := fun _ => fun
  | [d1, d2] => { results := [.lit (.bool false)], args := [d1, d2] }
  | _ => none }
def PrecLooksWrongFalsely : Prop := precLooksRow.holds Try.pinned (OpenSpec.ofChange precLooksWrong)

/-- 'leavenlaw07.PrecOrder': WHATEVER THE INPUT: true; the input reads as it did. -/
def precOrderSpec : ChangeSpec := { name := "precOrder", fn := fun _ => fun
  | [d1, d2, d3] => { results := [.lit (.bool true)], args := [d1, d2, d3] }
  | _ => none }
def precOrderRow : OpenClaim := { program := "ytpndbgdimkpfjaa", sum := "8fea5fab04e1fabc74c9dd272239a9dd9690f7d3dde5697f325bf1d4c73156c6", func := "leaven/leavenlaw07.PrecOrder", spec := "precOrder", unfollowed := true, recurses := true, apart := false }
def PrecOrderSaid : Prop := precOrderRow.holds Try.pinned (OpenSpec.ofChange precOrderSpec)

/-- ITS FALSE NEIGHBOUR: 'it returns false'. Refute it at one input. -/
def precOrderWrong : ChangeSpec := { name := "precOrder", fn := fun _ => fun
  | [d1, d2, d3] => { results := [.lit (.bool false)], args := [d1, d2, d3] }
  | _ => none }
def PrecOrderWrongFalsely : Prop := precOrderRow.holds Try.pinned (OpenSpec.ofChange precOrderWrong)

/-- 'leavenlaw07.PrecMeets': WHATEVER THE INPUT: true; the input reads as it did. -/
def precMeetsSpec : ChangeSpec := { name := "precMeets", fn := fun _ => fun
  | [d1, d2, d3] => { results := [.lit (.bool true)], args := [d1, d2, d3] }
  | _ => none }
def precMeetsRow : OpenClaim := { program := "ytpndbgdimkpfjaa", sum := "8fea5fab04e1fabc74c9dd272239a9dd9690f7d3dde5697f325bf1d4c73156c6", func := "leaven/leavenlaw07.PrecMeets", spec := "precMeets", unfollowed := true, recurses := true, apart := false }
def PrecMeetsSaid : Prop := precMeetsRow.holds Try.pinned (OpenSpec.ofChange precMeetsSpec)

/-- ITS FALSE NEIGHBOUR: 'it returns false'. Refute it at one input. -/
def precMeetsWrong : ChangeSpec := { name := "precMeets", fn := fun _ => fun
  | [d1, d2, d3] => { results := [.lit (.bool false)], args := [d1, d2, d3] }
  | _ => none }
def PrecMeetsWrongFalsely : Prop := precMeetsRow.holds Try.pinned (OpenSpec.ofChange precMeetsWrong)

/-- 'leavenlaw07.PrecLess': WHATEVER THE INPUT: true; the input reads as it did. -/
def precLessSpec : ChangeSpec := { name := "precLess", fn := fun _ => fun
  | [d1, d2, d3] => { results := [.lit (.bool true)], args := [d1, d2, d3] }
  | _ => none }
def precLessRow : OpenClaim := { program := "ytpndbgdimkpfjaa", sum := "8fea5fab04e1fabc74c9dd272239a9dd9690f7d3dde5697f325bf1d4c73156c6", func := "leaven/leavenlaw07.PrecLess", spec := "precLess", unfollowed := true, recurses := true, apart := false }
def PrecLessSaid : Prop := precLessRow.holds Try.pinned (OpenSpec.ofChange precLessSpec)

/-- ITS FALSE NEIGHBOUR: 'it returns false'. Refute it at one input. -/
def precLessWrong : ChangeSpec := { name := "precLess", fn := fun _ => fun
  | [d1, d2, d3] => { results := [.lit (.bool false)], args := [d1, d2, d3] }
  | _ => none }
def PrecLessWrongFalsely : Prop := precLessRow.holds Try.pinned (OpenSpec.ofChange precLessWrong)

/-- 'leavenlaw07.PrecParts': WHATEVER THE INPUT: true; the input reads as it did. -/
def precPartsSpec : ChangeSpec := { name := "precParts", fn := fun _ => fun
  | [d1, d2, d3] => { results := [.lit (.bool true)], args := [d1, d2, d3] }
  | _ => none }
def precPartsRow : OpenClaim := { program := "ytpndbgdimkpfjaa", sum := "8fea5fab04e1fabc74c9dd272239a9dd9690f7d3dde5697f325bf1d4c73156c6", func := "leaven/leavenlaw07.PrecParts", spec := "precParts", unfollowed := true, recurses := true, apart := false }
def PrecPartsSaid : Prop := precPartsRow.holds Try.pinned (OpenSpec.ofChange precPartsSpec)

/-- ITS FALSE NEIGHBOUR: 'it returns false'. Refute it at one input. -/
def precPartsWrong : ChangeSpec := { name := "precParts", fn := fun _ => fun
  | [d1, d2, d3] => { results := [.lit (.bool false)], args := [d1, d2, d3] }
  | _ => none }
def PrecPartsWrongFalsely : Prop := precPartsRow.holds Try.pinned (OpenSpec.ofChange precPartsWrong)

/-- 'leavenlaw07.PrecThree': WHATEVER THE INPUT: true; the input reads as it did. -/
def precThreeSpec : ChangeSpec := { name := "precThree", fn := fun _ => fun
  | [d1, d2, d3] => { results := [.lit (.bool true)], args := [d1, d2, d3] }
  | _ => none }
def precThreeRow : OpenClaim := { program := "ytpndbgdimkpfjaa", sum := "8fea5fab04e1fabc74c9dd272239a9dd9690f7d3dde5697f325bf1d4c73156c6", func := "leaven/leavenlaw07.PrecThree", spec := "precThree", unfollowed := true, recurses := true, apart := false }
def PrecThreeSaid : Prop := precThreeRow.holds Try.pinned (OpenSpec.ofChange precThreeSpec)

/-- ITS FALSE NEIGHBOUR: 'it returns false'. Refute it at one input. -/
def precThreeWrong : ChangeSpec := { name := "precThree", fn := fun _ => fun
  | [d1, d2, d3] => { results := [.lit (.bool false)], args := [d1, d2, d3] }
  | _ => none }
def PrecThreeWrongFalsely : Prop := precThreeRow.holds Try.pinned (OpenSpec.ofChange precThreeWrong)

/-- 'leavenlaw07.PrecInside': WHATEVER THE INPUT: true; the input reads as it did. -/
def precInsideSpec : ChangeSpec := { name := "precInside", fn := fun _ => fun
  | [d1, d2] => { results := [.lit (.bool true)], args := [d1, d2] }
  | _ => none }
def precInsideRow : OpenClaim := { program := "ytpndbgdimkpfjaa", sum := "8fea5fab04e1fabc74c9dd272239a9dd9690f7d3dde5697f325bf1d4c73156c6", func := "leaven/leavenlaw07.PrecInside", spec := "precInside", unfollowed := true, recurses := true, apart := false }
def PrecInsideSaid : Prop := precInsideRow.holds Try.pinned (OpenSpec.ofChange precInsideSpec)

/-- ITS FALSE NEIGHBOUR: 'it returns false'. Refute it at one input. -/
def precInsideWrong : ChangeSpec := { name := "precInside", fn := fun _ => fun
  | [d1, d2] => { results := [.lit (.bool false)], args := [d1, d2] }
  | _ => none }
def PrecInsideWrongFalsely : Prop := precInsideRow.holds Try.pinned (OpenSpec.ofChange precInsideWrong)

/- THE SECOND FORM. 'bulk': how many values and letters a reading holds, each counted each time it is reached (what is shared counts as often as it is met; a slice's spare places count too). A statement '..UptoSaid' is the law's where the arguments, and the package variables that the reading takes, are together of bulk at most 1048576: NARROWER than '..Said'. Prove '..Said' where nothing that the law and all that it calls make is longer than what came in: it says more and counts as full. Else prove '..UptoSaid'. A law counts once. -/
mutual
def uptoBulk {H : Type} : DataW H → Nat
  | .lit (.string bytes) => bytes.length + 1
  | .lit _ => 1
  | .nil => 1
  | .ptr d => uptoBulk d + 1
  | .slice elems spare => uptoBulkAll elems + uptoBulkAll spare + 1
  | .agg parts => uptoBulkAll parts + 1
  | .iface _ d => uptoBulk d + 1
  | .map entries => uptoBulkEntries entries + 1
  | .held _ => 1
def uptoBulkAll {H : Type} : List (DataW H) → Nat
  | [] => 0
  | d :: r => uptoBulk d + uptoBulkAll r
def uptoBulkEntries {H : Type} : List (Lit × DataW H) → Nat
  | [] => 0
  | x :: r => uptoBulkEntry x + uptoBulkEntries r
def uptoBulkEntry {H : Type} : Lit × DataW H → Nat
  | (.string bytes, d) => bytes.length + uptoBulk d + 1
  | (_, d) => uptoBulk d + 1
 end
def uptoSmall : (H : Type) → List (DataW H) → Bool := fun _ ds => decide (uptoBulkAll ds ≤ 1048576)
def OpenSpec.upto (s : _root_.Go.ChangeSpec) : _root_.Go.OpenSpec := { _root_.Go.OpenSpec.ofChange s with cond := some uptoSmall }

/-- 'leavenlaw07.PrecTells', WHERE WHAT IT READS IS OF BULK AT MOST 1048576: true; the input reads as it did. -/
def precTellsUptoRow : OpenClaim := { program := "ytpndbgdimkpfjaa", sum := "8fea5fab04e1fabc74c9dd272239a9dd9690f7d3dde5697f325bf1d4c73156c6", func := "leaven/leavenlaw07.PrecTells", spec := "precTells", unfollowed := true, recurses := true, apart := false, narrowed := true }
def PrecTellsUptoSaid : Prop := precTellsUptoRow.holds Try.pinned (OpenSpec.upto precTellsSpec)

/-- 'leavenlaw07.PrecLooks', WHERE WHAT IT READS IS OF BULK AT MOST 1048576: true; the input reads as it did. -/
def precLooksUptoRow : OpenClaim := { program := "ytpndbgdimkpfjaa", sum := "8fea5fab04e1fabc74c9dd272239a9dd9690f7d3dde5697f325bf1d4c73156c6", func := "leaven/leavenlaw07.PrecLooks", spec := "precLooks", unfollowed := true, recurses := true, apart := false, narrowed := true }
def PrecLooksUptoSaid : Prop := precLooksUptoRow.holds Try.pinned (OpenSpec.upto precLooksSpec)

/-- 'leavenlaw07.PrecOrder', WHERE WHAT IT READS IS OF BULK AT MOST 1048576: true; the input reads as it did. -/
def precOrderUptoRow : OpenClaim := { program := "ytpndbgdimkpfjaa", sum := "8fea5fab04e1fabc74c9dd272239a9dd9690f7d3dde5697f325bf1d4c73156c6", func := "leaven/leavenlaw07.PrecOrder", spec := "precOrder", unfollowed := true, recurses := true, apart := false, narrowed := true }
def PrecOrderUptoSaid : Prop := precOrderUptoRow.holds Try.pinned (OpenSpec.upto precOrderSpec)

/-- 'leavenlaw07.PrecMeets', WHERE WHAT IT READS IS OF BULK AT MOST 1048576: true; the input reads as it did. -/
def precMeetsUptoRow : OpenClaim := { program := "ytpndbgdimkpfjaa", sum := "8fea5fab04e1fabc74c9dd272239a9dd9690f7d3dde5697f325bf1d4c73156c6", func := "leaven/leavenlaw07.PrecMeets", spec := "precMeets", unfollowed := true, recurses := true, apart := false, narrowed := true }
def PrecMeetsUptoSaid : Prop := precMeetsUptoRow.holds Try.pinned (OpenSpec.upto precMeetsSpec)

/-- 'leavenlaw07.PrecLess', WHERE WHAT IT READS IS OF BULK AT MOST 1048576: true; the input reads as it did. -/
def precLessUptoRow : OpenClaim := { program := "ytpndbgdimkpfjaa", sum := "8fea5fab04e1fabc74c9dd272239a9dd9690f7d3dde5697f325bf1d4c73156c6", func := "leaven/leavenlaw07.PrecLess", spec := "precLess", unfollowed := true, recurses := true, apart := false, narrowed := true }
def PrecLessUptoSaid : Prop := precLessUptoRow.holds Try.pinned (OpenSpec.upto precLessSpec)

/-- 'leavenlaw07.PrecParts', WHERE WHAT IT READS IS OF BULK AT MOST 1048576: true; the input reads as it did. -/
def precPartsUptoRow : OpenClaim := { program := "ytpndbgdimkpfjaa", sum := "8fea5fab04e1fabc74c9dd272239a9dd9690f7d3dde5697f325bf1d4c73156c6", func := "leaven/leavenlaw07.PrecParts", spec := "precParts", unfollowed := true, recurses := true, apart := false, narrowed := true }
def PrecPartsUptoSaid : Prop := precPartsUptoRow.holds Try.pinned (OpenSpec.upto precPartsSpec)

/-- 'leavenlaw07.PrecThree', WHERE WHAT IT READS IS OF BULK AT MOST 1048576: true; the input reads as it did. -/
def precThreeUptoRow : OpenClaim := { program := "ytpndbgdimkpfjaa", sum := "8fea5fab04e1fabc74c9dd272239a9dd9690f7d3dde5697f325bf1d4c73156c6", func := "leaven/leavenlaw07.PrecThree", spec := "precThree", unfollowed := true, recurses := true, apart := false, narrowed := true }
def PrecThreeUptoSaid : Prop := precThreeUptoRow.holds Try.pinned (OpenSpec.upto precThreeSpec)

/-- 'leavenlaw07.PrecInside', WHERE WHAT IT READS IS OF BULK AT MOST 1048576: true; the input reads as it did. -/
def precInsideUptoRow : OpenClaim := { program := "ytpndbgdimkpfjaa", sum := "8fea5fab04e1fabc74c9dd272239a9dd9690f7d3dde5697f325bf1d4c73156c6", func := "leaven/leavenlaw07.PrecInside", spec := "precInside", unfollowed := true, recurses := true, apart := false, narrowed := true }
def PrecInsideUptoSaid : Prop := precInsideUptoRow.holds Try.pinned (OpenSpec.upto precInsideSpec)

end Rows
end Go.Proofs.Ytpndbgdimkpfjaa
