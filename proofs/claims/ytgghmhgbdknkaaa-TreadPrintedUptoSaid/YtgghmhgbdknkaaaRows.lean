/-
  No cell of these rows narrows 'for every input' (looked for: loops, veiled, ifaces, maps, wideKeys, modest, calm, conditions, laid).
  DERIVED. THE GIVEN ROWS OF THIS SEAT. 4 by the template 'for every input the law returns true; each argument reads behind the call as it read before'; 0 by the template 'total and deterministic' (their statements: YtgghmhgbdknkaaaTotals.lean).
  GIVEN WITH THE SEED: the statements are not yours to turn. If you find one false, say at which input.
  Laid BY PROGRAM, IN A SANDBOX (cutbox-rows.mjs): the forced cells as the released guide's own fill.sh prints them over the translation a750f9d8b11d7026… (all of the seat's roots in one cut). By AI agents, Wed Nov 11 2026. No macro, syntax, notation, axiom, sorry.
-/
import Derived.Test.YtgghmhgbdknkaaaChecked
import GoSem.Claim
import GoSem.ClaimJoined
import GoSem.ClaimMapViews
import Derived.JoinedTies
import Derived.KernelRfl
namespace Go.Proofs.Ytgghmhgbdknkaaa
/- THE CELL 'sum', in the pinned program and in every row, IS THE sha256 OF THE DUMP (.gsa) THAT YtgghmhgbdknkaaaProg.lean LOADS. Nothing in Lean hashes anything: it is a label: what it is worth is what the hold of that sum in a sandbox is worth. -/
noncomputable def Try.pinned : Pinned := { name := "ytgghmhgbdknkaaa", sum := "a750f9d8b11d702665d1cd6a450557d4579d66ef81461fc68d2eee28febd7246", checked := Try.checked }
namespace Rows
def none {H : Type} : Left H := { results := [], args := [] }

/-- 'leavenlaw04.TreadPrinted': WHATEVER THE INPUT: true; the input reads as it did. -/
def treadPrintedSpec : ChangeSpec := { name := "treadPrinted", fn := fun _ => fun
  | [d] => { results := [.lit (.bool true)], args := [d] }
  | _ => none }
def treadPrintedRow : OpenClaim := { program := "ytgghmhgbdknkaaa", sum := "a750f9d8b11d702665d1cd6a450557d4579d66ef81461fc68d2eee28febd7246", func := "leaven/leavenlaw04.TreadPrinted", spec := "treadPrinted", inPlace := ["internal/bytealg.abigen_runtime_cmpstring"], unfollowed := true, recurses := true, apart := false }
def TreadPrintedSaid : Prop := treadPrintedRow.holds Try.pinned (OpenSpec.ofChange treadPrintedSpec)

/-- ITS FALSE NEIGHBOUR: 'it returns false'. Refute it at one input. -/
def treadPrintedWrong : ChangeSpec := { name := "treadPrinted", fn := fun _ => fun
  | [d] => { results := [.lit (.bool false)], args := [d] }
  | _ => none }
def TreadPrintedWrongFalsely : Prop := treadPrintedRow.holds Try.pinned (OpenSpec.ofChange treadPrintedWrong)

/-- 'leavenlaw04.TreadSites': WHATEVER THE INPUT: true; the input reads as it did. -/
def treadSitesSpec : ChangeSpec := { name := "treadSites", fn := fun _ => fun
  | [d1, d2, d3] => { results := [.lit (.bool true)], args := [d1, d2, d3] }
  | _ => none }
def treadSitesRow : OpenClaim := { program := "ytgghmhgbdknkaaa", sum := "a750f9d8b11d702665d1cd6a450557d4579d66ef81461fc68d2eee28febd7246", func := "leaven/leavenlaw04.TreadSites", spec := "treadSites", inPlace := ["internal/bytealg.abigen_runtime_cmpstring"], unfollowed := true, recurses := true, apart := false }
def TreadSitesSaid : Prop := treadSitesRow.holds Try.pinned (OpenSpec.ofChange treadSitesSpec)

/-- ITS FALSE NEIGHBOUR: 'it returns false'. Refute it at one input. -/
def treadSitesWrong : ChangeSpec := { name := "treadSites", fn := fun _ => fun
  | [d1, d2, d3] => { results := [.lit (.bool false)], args := [d1, d2, d3] }
  | _ => none }
def TreadSitesWrongFalsely : Prop := treadSitesRow.holds Try.pinned (OpenSpec.ofChange treadSitesWrong)

/-- 'leavenlaw04.TreadParens': WHATEVER THE INPUT: true; the input reads as it did. -/
def treadParensSpec : ChangeSpec := { name := "treadParens", fn := fun _ => fun
  | [d] => { results := [.lit (.bool true)], args := [d] }
  | _ => none }
def treadParensRow : OpenClaim := { program := "ytgghmhgbdknkaaa", sum := "a750f9d8b11d702665d1cd6a450557d4579d66ef81461fc68d2eee28febd7246", func := "leaven/leavenlaw04.TreadParens", spec := "treadParens", inPlace := ["internal/bytealg.abigen_runtime_cmpstring"], unfollowed := true, recurses := true, apart := false }
def TreadParensSaid : Prop := treadParensRow.holds Try.pinned (OpenSpec.ofChange treadParensSpec)

/-- ITS FALSE NEIGHBOUR: 'it returns false'. Refute it at one input. -/
def treadParensWrong : ChangeSpec := { name := "treadParens", fn := fun _ => fun
  | [d] => { results := [.lit (.bool false)], args := [d] }
  | _ => none }
def TreadParensWrongFalsely : Prop := treadParensRow.holds Try.pinned (OpenSpec.ofChange treadParensWrong)

/-- 'leavenlaw04.TreadBehind': WHATEVER THE INPUT: true; the input reads as it did. -/
def treadBehindSpec : ChangeSpec := { name := "treadBehind", fn := fun _ => fun
  | [d1, d2, d3] => { results := [.lit (.bool true)], args := [d1, d2, d3] }
  | _ => none }
def treadBehindRow : OpenClaim := { program := "ytgghmhgbdknkaaa", sum := "a750f9d8b11d702665d1cd6a450557d4579d66ef81461fc68d2eee28febd7246", func := "leaven/leavenlaw04.TreadBehind", spec := "treadBehind", inPlace := ["internal/bytealg.abigen_runtime_cmpstring"], unfollowed := true, recurses := true, apart := false }
def TreadBehindSaid : Prop := treadBehindRow.holds Try.pinned (OpenSpec.ofChange treadBehindSpec)

/-- ITS FALSE NEIGHBOUR: 'it returns false'. Refute it at one input. -/
def treadBehindWrong : ChangeSpec := { name := "treadBehind", fn := fun _ => fun
  | [d1, d2, d3] => { results := [.lit (.bool false)], args := [d1, d2, d3] }
  | _ => none }
def TreadBehindWrongFalsely : Prop := treadBehindRow.holds Try.pinned (OpenSpec.ofChange treadBehindWrong)

/- THE SECOND FORM. 'bulk': how many values and letters a reading holds, each counted each time it is reached (what is shared counts as often as it is met; a slice's spare places count too). A statement '..UptoSaid' is the law's where the arguments, and the package variables that the reading takes, are together of bulk at most 1048576: NARROWER than '..Said'. Prove '..Said' where nothing that the law and all that it calls make is longer than what came in: it says more and counts as full. Else prove '..UptoSaid'. A law counts once. -/
mutual
def uptoBulk {H : Type} : DataW H → Nat
  | .lit (.string bytes) => bytes.length + 1
  | .lit _ => 1
  | .nil => 1
  | .ptr d => uptoBulk d + 1
  | .slice elems spare => uptoBulkAll elems + uptoBulkAll spare + 1
  | .agg parts => uptoBulkAll parts + 1
  | .iface _ d => uptoBulk d + 1
  | .map entries => uptoBulkEntries entries + 1
  | .held _ => 1
def uptoBulkAll {H : Type} : List (DataW H) → Nat
  | [] => 0
  | d :: r => uptoBulk d + uptoBulkAll r
def uptoBulkEntries {H : Type} : List (Lit × DataW H) → Nat
  | [] => 0
  | x :: r => uptoBulkEntry x + uptoBulkEntries r
def uptoBulkEntry {H : Type} : Lit × DataW H → Nat
  | (.string bytes, d) => bytes.length + uptoBulk d + 1
  | (_, d) => uptoBulk d + 1
 end
def uptoSmall : (H : Type) → List (DataW H) → Bool := fun _ ds => decide (uptoBulkAll ds ≤ 1048576)
def OpenSpec.upto (s : _root_.Go.ChangeSpec) : _root_.Go.OpenSpec := { _root_.Go.OpenSpec.ofChange s with cond := some uptoSmall }

/-- 'leavenlaw04.TreadPrinted', WHERE WHAT IT READS IS OF BULK AT MOST 1048576: true; the input reads as it did. -/
def treadPrintedUptoRow : OpenClaim := { program := "ytgghmhgbdknkaaa", sum := "a750f9d8b11d702665d1cd6a450557d4579d66ef81461fc68d2eee28febd7246", func := "leaven/leavenlaw04.TreadPrinted", spec := "treadPrinted", inPlace := ["internal/bytealg.abigen_runtime_cmpstring"], unfollowed := true, recurses := true, apart := false, narrowed := true }
def TreadPrintedUptoSaid : Prop := treadPrintedUptoRow.holds Try.pinned (OpenSpec.upto treadPrintedSpec)

/-- 'leavenlaw04.TreadSites', WHERE WHAT IT READS IS OF BULK AT MOST 1048576: true; the input reads as it did. -/
def treadSitesUptoRow : OpenClaim := { program := "ytgghmhgbdknkaaa", sum := "a750f9d8b11d702665d1cd6a450557d4579d66ef81461fc68d2eee28febd7246", func := "leaven/leavenlaw04.TreadSites", spec := "treadSites", inPlace := ["internal/bytealg.abigen_runtime_cmpstring"], unfollowed := true, recurses := true, apart := false, narrowed := true }
def TreadSitesUptoSaid : Prop := treadSitesUptoRow.holds Try.pinned (OpenSpec.upto treadSitesSpec)

/-- 'leavenlaw04.TreadParens', WHERE WHAT IT READS IS OF BULK AT MOST 1048576: true; the input reads as it did. -/
def treadParensUptoRow : OpenClaim := { program := "ytgghmhgbdknkaaa", sum := "a750f9d8b11d702665d1cd6a450557d4579d66ef81461fc68d2eee28febd7246", func := "leaven/leavenlaw04.TreadParens", spec := "treadParens", inPlace := ["internal/bytealg.abigen_runtime_cmpstring"], unfollowed := true, recurses := true, apart := false, narrowed := true }
def TreadParensUptoSaid : Prop := treadParensUptoRow.holds Try.pinned (OpenSpec.upto treadParensSpec)

/-- 'leavenlaw04.TreadBehind', WHERE WHAT IT READS IS OF BULK AT MOST 1048576: true; the input reads as it did. -/
def treadBehindUptoRow : OpenClaim := { program := "ytgghmhgbdknkaaa", sum := "a750f9d8b11d702665d1cd6a450557d4579d66ef81461fc68d2eee28febd7246", func := "leaven/leavenlaw04.TreadBehind", spec := "treadBehind", inPlace := ["internal/bytealg.abigen_runtime_cmpstring"], unfollowed := true, recurses := true, apart := false, narrowed := true }
def TreadBehindUptoSaid : Prop := treadBehindUptoRow.holds Try.pinned (OpenSpec.upto treadBehindSpec)

end Rows
end Go.Proofs.Ytgghmhgbdknkaaa
