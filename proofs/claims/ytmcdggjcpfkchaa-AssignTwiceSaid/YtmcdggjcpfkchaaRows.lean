/-
  No cell of these rows narrows 'for every input' (looked for: loops, veiled, ifaces, maps, wideKeys, modest, calm, conditions, laid).
  DERIVED. THE GIVEN ROWS OF THIS SEAT. 4 by the template 'for every input the law returns true; each argument reads behind the call as it read before'; 0 by the template 'total and deterministic' (their statements: YtmcdggjcpfkchaaTotals.lean).
  GIVEN WITH THE SEED: the statements are not yours to turn. If you find one false, say at which input.
  Laid BY PROGRAM, IN A SANDBOX (cutbox-rows.mjs): the forced cells as the released guide's own fill.sh prints them over the translation a22a3fedca595afd… (all of the seat's roots in one cut). By AI agents, Wed Nov 11 2026. No macro, syntax, notation, axiom, sorry.
-/
import Derived.Test.YtmcdggjcpfkchaaChecked
import GoSem.Claim
import GoSem.ClaimJoined
import GoSem.ClaimMapViews
import Derived.JoinedTies
import Derived.KernelRfl
namespace Go.Proofs.Ytmcdggjcpfkchaa
/- THE CELL 'sum', in the pinned program and in every row, IS THE sha256 OF THE DUMP (.gsa) THAT YtmcdggjcpfkchaaProg.lean LOADS. Nothing in Lean hashes anything: it is a label: what it is worth is what the hold of that sum in a sandbox is worth. -/
noncomputable def Try.pinned : Pinned := { name := "ytmcdggjcpfkchaa", sum := "a22a3fedca595afde22a8d196396a8aca189f9ead07001e7d1c60413ba4122c1", checked := Try.checked }
namespace Rows
def none {H : Type} : Left H := { results := [], args := [] }

/-- 'leavenlaw11.AssignMay': WHATEVER THE INPUT: true; the input reads as it did. -/
def assignMaySpec : ChangeSpec := { name := "assignMay", fn := fun _ => fun
  | [d] => { results := [.lit (.bool true)], args := [d] }
  | _ => none }
def assignMayRow : OpenClaim := { program := "ytmcdggjcpfkchaa", sum := "a22a3fedca595afde22a8d196396a8aca189f9ead07001e7d1c60413ba4122c1", func := "leaven/leavenlaw11.AssignMay", spec := "assignMay", unfollowed := true, recurses := true, apart := false }
def AssignMaySaid : Prop := assignMayRow.holds Try.pinned (OpenSpec.ofChange assignMaySpec)

/-- ITS FALSE NEIGHBOUR: 'it returns false'. Refute it at one input. -/
def assignMayWrong : ChangeSpec := { name := "assignMay", fn := fun _ => fun
  | [d] => { results := [.lit (.bool false)], args := [d] }
  | _ => none }
def AssignMayWrongFalsely : Prop := assignMayRow.holds Try.pinned (OpenSpec.ofChange assignMayWrong)

/-- 'leavenlaw11.AssignTypes': WHATEVER THE INPUT: true; the input reads as it did. -/
def assignTypesSpec : ChangeSpec := { name := "assignTypes", fn := fun _ => fun
  | [d1, d2, d3] => { results := [.lit (.bool true)], args := [d1, d2, d3] }
  | _ => none }
def assignTypesRow : OpenClaim := { program := "ytmcdggjcpfkchaa", sum := "a22a3fedca595afde22a8d196396a8aca189f9ead07001e7d1c60413ba4122c1", func := "leaven/leavenlaw11.AssignTypes", spec := "assignTypes", unfollowed := true, recurses := true, apart := false }
def AssignTypesSaid : Prop := assignTypesRow.holds Try.pinned (OpenSpec.ofChange assignTypesSpec)

/-- ITS FALSE NEIGHBOUR: 'it returns false'. Refute it at one input. -/
def assignTypesWrong : ChangeSpec := { name := "assignTypes", fn := fun _ => fun
  | [d1, d2, d3] => { results := [.lit (.bool false)], args := [d1, d2, d3] }
  | _ => none }
def AssignTypesWrongFalsely : Prop := assignTypesRow.holds Try.pinned (OpenSpec.ofChange assignTypesWrong)

/-- 'leavenlaw11.AssignTwice': WHATEVER THE INPUT: true; the input reads as it did. -/
def assignTwiceSpec : ChangeSpec := { name := "assignTwice", fn := fun _ => fun
  | [d1, d2, d3] => { results := [.lit (.bool true)], args := [d1, d2, d3] }
  | _ => none }
def assignTwiceRow : OpenClaim := { program := "ytmcdggjcpfkchaa", sum := "a22a3fedca595afde22a8d196396a8aca189f9ead07001e7d1c60413ba4122c1", func := "leaven/leavenlaw11.AssignTwice", spec := "assignTwice", unfollowed := true, recurses := true, apart := false }
def AssignTwiceSaid : Prop := assignTwiceRow.holds Try.pinned (OpenSpec.ofChange assignTwiceSpec)

/-- ITS FALSE NEIGHBOUR: 'it returns false'. Refute it at one input. -/
def assignTwiceWrong : ChangeSpec := { name := "assignTwice", fn := fun _ => fun
  | [d1, d2, d3] => { results := [.lit (.bool false)], args := [d1, d2, d3] }
  | _ => none }
def AssignTwiceWrongFalsely : Prop := assignTwiceRow.holds Try.pinned (OpenSpec.ofChange assignTwiceWrong)

/-- 'leavenlaw11.AssignLabels': WHATEVER THE INPUT: true; the input reads as it did. -/
def assignLabelsSpec : ChangeSpec := { name := "assignLabels", fn := fun _ => fun
  | [d1, d2] => { results := [.lit (.bool true)], args := [d1, d2] }
  | _ => none }
def assignLabelsRow : OpenClaim := { program := "ytmcdggjcpfkchaa", sum := "a22a3fedca595afde22a8d196396a8aca189f9ead07001e7d1c60413ba4122c1", func := "leaven/leavenlaw11.AssignLabels", spec := "assignLabels", unfollowed := true, recurses := true, apart := false }
def AssignLabelsSaid : Prop := assignLabelsRow.holds Try.pinned (OpenSpec.ofChange assignLabelsSpec)

/-- ITS FALSE NEIGHBOUR: 'it returns false'. Refute it at one input. -/
def assignLabelsWrong : ChangeSpec := { name := "assignLabels", fn := fun _ => fun
  | [d1, d2] => { results := [.lit (.bool false)], args := [d1, d2] }
  | _ => none }
def AssignLabelsWrongFalsely : Prop := assignLabelsRow.holds Try.pinned (OpenSpec.ofChange assignLabelsWrong)

/- THE SECOND FORM. 'bulk': how many values and letters a reading holds, each counted each time it is reached (what is shared counts as often as it is met; a slice's spare places count too). A statement '..UptoSaid' is the law's where the arguments, and the package variables that the reading takes, are together of bulk at most 1048576: NARROWER than '..Said'. Prove '..Said' where nothing that the law and all that it calls make is longer than what came in: it says more and counts as full. Else prove '..UptoSaid'. A law counts once. -/
mutual
def uptoBulk {H : Type} : DataW H → Nat
  | .lit (.string bytes) => bytes.length + 1
  | .lit _ => 1
  | .nil => 1
  | .ptr d => uptoBulk d + 1
  | .slice elems spare => uptoBulkAll elems + uptoBulkAll spare + 1
  | .agg parts => uptoBulkAll parts + 1
  | .iface _ d => uptoBulk d + 1
  | .map entries => uptoBulkEntries entries + 1
  | .held _ => 1
def uptoBulkAll {H : Type} : List (DataW H) → Nat
  | [] => 0
  | d :: r => uptoBulk d + uptoBulkAll r
def uptoBulkEntries {H : Type} : List (Lit × DataW H) → Nat
  | [] => 0
  | x :: r => uptoBulkEntry x + uptoBulkEntries r
def uptoBulkEntry {H : Type} : Lit × DataW H → Nat
  | (.string bytes, d) => bytes.length + uptoBulk d + 1
  | (_, d) => uptoBulk d + 1
 end
def uptoSmall : (H : Type) → List (DataW H) → Bool := fun _ ds => decide (uptoBulkAll ds ≤ 1048576)
def OpenSpec.upto (s : _root_.Go.ChangeSpec) : _root_.Go.OpenSpec := { _root_.Go.OpenSpec.ofChange s with cond := some uptoSmall }

/-- 'leavenlaw11.AssignMay', WHERE WHAT IT READS IS OF BULK AT MOST 1048576: true; the input reads as it did. -/
def assignMayUptoRow : OpenClaim := { program := "ytmcdggjcpfkchaa", sum := "a22a3fedca595afde22a8d196396a8aca189f9ead07001e7d1c60413ba4122c1", func := "leaven/leavenlaw11.AssignMay", spec := "assignMay", unfollowed := true, recurses := true, apart := false, narrowed := true }
def AssignMayUptoSaid : Prop := assignMayUptoRow.holds Try.pinned (OpenSpec.upto assignMaySpec)

/-- 'leavenlaw11.AssignTypes', WHERE WHAT IT READS IS OF BULK AT MOST 1048576: true; the input reads as it did. -/
def assignTypesUptoRow : OpenClaim := { program := "ytmcdggjcpfkchaa", sum := "a22a3fedca595afde22a8d196396a8aca189f9ead07001e7d1c60413ba4122c1", func := "leaven/leavenlaw11.AssignTypes", spec := "assignTypes", unfollowed := true, recurses := true, apart := false, narrowed := true }
def AssignTypesUptoSaid : Prop := assignTypesUptoRow.holds Try.pinned (OpenSpec.upto assignTypesSpec)

/-- 'leavenlaw11.AssignTwice', WHERE WHAT IT READS IS OF BULK AT MOST 1048576: true; the input reads as it did. -/
def assignTwiceUptoRow : OpenClaim := { program := "ytmcdggjcpfkchaa", sum := "a22a3fedca595afde22a8d196396a8aca189f9ead07001e7d1c60413ba4122c1", func := "leaven/leavenlaw11.AssignTwice", spec := "assignTwice", unfollowed := true, recurses := true, apart := false, narrowed := true }
def AssignTwiceUptoSaid : Prop := assignTwiceUptoRow.holds Try.pinned (OpenSpec.upto assignTwiceSpec)

/-- 'leavenlaw11.AssignLabels', WHERE WHAT IT READS IS OF BULK AT MOST 1048576: true; the input reads as it did. -/
def assignLabelsUptoRow : OpenClaim := { program := "ytmcdggjcpfkchaa", sum := "a22a3fedca595afde22a8d196396a8aca189f9ead07001e7d1c60413ba4122c1", func := "leaven/leavenlaw11.AssignLabels", spec := "assignLabels", unfollowed := true, recurses := true, apart := false, narrowed := true }
def AssignLabelsUptoSaid : Prop := assignLabelsUptoRow.holds Try.pinned (OpenSpec.upto assignLabelsSpec)

end Rows
end Go.Proofs.Ytmcdggjcpfkchaa
