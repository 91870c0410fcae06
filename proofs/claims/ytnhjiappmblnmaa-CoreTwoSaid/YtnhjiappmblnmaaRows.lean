/-
  No cell of these rows narrows 'for every input' (looked for: loops, veiled, ifaces, maps, wideKeys, modest, calm, conditions, laid).
  DERIVED. THE GIVEN ROWS OF THIS SEAT. 5 by the template 'for every input the law returns true; each argument reads behind the call as it read before'; 0 by the template 'total and deterministic' (their statements: YtnhjiappmblnmaaTotals.lean).
  GIVEN WITH THE SEED: the statements are not yours to turn. If you find one false, say at which input.
  Laid BY PROGRAM, IN A SANDBOX (cutbox-rows.mjs): the forced cells as the released guide's own fill.sh prints them over the translation 16ee6035cd565041… (all of the seat's roots in one cut). By AI agents, Wed Nov 11 2026. No macro, syntax, notation, axiom, sorry.
-/
import Derived.Test.YtnhjiappmblnmaaChecked
import GoSem.Claim
import GoSem.ClaimJoined
import GoSem.ClaimMapViews
import Derived.JoinedTies
import Derived.KernelRfl
namespace Go.Proofs.Ytnhjiappmblnmaa
/- THE CELL 'sum', in the pinned program and in every row, IS THE sha256 OF THE DUMP (.gsa) THAT YtnhjiappmblnmaaProg.lean LOADS. Nothing in Lean hashes anything: it is a label: what it is worth is what the hold of that sum in a sandbox is worth. -/
noncomputable def Try.pinned : Pinned := { name := "ytnhjiappmblnmaa", sum := "16ee6035cd565041fb84dfdf98034286f98306460adb79d3e49e96bfc3b4e145", checked := Try.checked }
namespace Rows
def none {H : Type} : Left H := { results := [], args := [] }

/-- 'leavenlaw15.CoreTells': WHATEVER THE INPUT: true; the input reads as it did. -/
def coreTellsSpec : ChangeSpec := { name := "coreTells", fn := fun _ => fun
  | [d1, d2, d3] => { results := [.lit (.bool true)], args := [d1, d2, d3] }
  | _ => none }
def coreTellsRow : OpenClaim := { program := "ytnhjiappmblnmaa", sum := "16ee6035cd565041fb84dfdf98034286f98306460adb79d3e49e96bfc3b4e145", func := "leaven/leavenlaw15.CoreTells", spec := "coreTells", unfollowed := true, recurses := true, apart := false }
def CoreTellsSaid : Prop := coreTellsRow.holds Try.pinned (OpenSpec.ofChange coreTellsSpec)

/-- ITS FALSE NEIGHBOUR: 'it returns false'. Refute it at one input. -/
def coreTellsWrong : ChangeSpec := { name := "coreTells", fn := fun _ => fun
  | [d1, d2, d3] => { results := [.lit (.bool false)], args := [d1, d2, d3] }
  | _ => none }
def CoreTellsWrongFalsely : Prop := coreTellsRow.holds Try.pinned (OpenSpec.ofChange coreTellsWrong)

/-- 'leavenlaw15.CoreLeast': WHATEVER THE INPUT: true; the input reads as it did. -/
def coreLeastSpec : ChangeSpec := { name := "coreLeast", fn := fun _ => fun
  | [d1, d2] => { results := [.lit (.bool true)], args := [d1, d2] }
  | _ => none }
def coreLeastRow : OpenClaim := { program := "ytnhjiappmblnmaa", sum := "16ee6035cd565041fb84dfdf98034286f98306460adb79d3e49e96bfc3b4e145", func := "leaven/leavenlaw15.CoreLeast", spec := "coreLeast", unfollowed := true, recurses := true, apart := false }
def CoreLeastSaid : Prop := coreLeastRow.holds Try.pinned (OpenSpec.ofChange coreLeastSpec)

/-- ITS FALSE NEIGHBOUR: 'it returns false'. Refute it at one input. -/
def coreLeastWrong : ChangeSpec := { name := "coreLeast", fn := fun _ => fun
  | [d1, d2] => { results := [.lit (.bool false)], args := [d1, d2] }
  | _ => none }
def CoreLeastWrongFalsely : Prop := coreLeastRow.holds Try.pinned (OpenSpec.ofChange coreLeastWrong)

/-- 'leavenlaw15.CoreMost': WHATEVER THE INPUT: true; the input reads as it did. -/
def coreMostSpec : ChangeSpec := { name := "coreMost", fn := fun _ => fun
  | [d1, d2, d3] => { results := [.lit (.bool true)], args := [d1, d2, d3] }
  | _ => none }
def coreMostRow : OpenClaim := { program := "ytnhjiappmblnmaa", sum := "16ee6035cd565041fb84dfdf98034286f98306460adb79d3e49e96bfc3b4e145", func := "leaven/leavenlaw15.CoreMost", spec := "coreMost", unfollowed := true, recurses := true, apart := false }
def CoreMostSaid : Prop := coreMostRow.holds Try.pinned (OpenSpec.ofChange coreMostSpec)

/-- ITS FALSE NEIGHBOUR: 'it returns false'. Refute it at one input. -/
def coreMostWrong : ChangeSpec := { name := "coreMost", fn := fun _ => fun
  | [d1, d2, d3] => { results := [.lit (.bool false)], args := [d1, d2, d3] }
  | _ => none }
def CoreMostWrongFalsely : Prop := coreMostRow.holds Try.pinned (OpenSpec.ofChange coreMostWrong)

/-- 'leavenlaw15.CoreBad': WHATEVER THE INPUT: true; the input reads as it did. -/
def coreBadSpec : ChangeSpec := { name := "coreBad", fn := fun _ => fun
  | [d1, d2, d3] => { results := [.lit (.bool true)], args := [d1, d2, d3] }
  | _ => none }
def coreBadRow : OpenClaim := { program := "ytnhjiappmblnmaa", sum := "16ee6035cd565041fb84dfdf98034286f98306460adb79d3e49e96bfc3b4e145", func := "leaven/leavenlaw15.CoreBad", spec := "coreBad", unfollowed := true, recurses := true, apart := false }
def CoreBadSaid : Prop := coreBadRow.holds Try.pinned (OpenSpec.ofChange coreBadSpec)

/-- ITS FALSE NEIGHBOUR: 'it returns false'. Refute it at one input. -/
def coreBadWrong : ChangeSpec := { name := "coreBad", fn := fun _ => fun
  | [d1, d2, d3] => { results := [.lit (.bool false)], args := [d1, d2, d3] }
  | _ => none }
def CoreBadWrongFalsely : Prop := coreBadRow.holds Try.pinned (OpenSpec.ofChange coreBadWrong)

/-- 'leavenlaw15.CoreTwo': WHATEVER THE INPUT: true; the input reads as it did. -/
def coreTwoSpec : ChangeSpec := { name := "coreTwo", fn := fun _ => fun
  | [d1, d2, d3] => { results := [.lit (.bool true)], args := [d1, d2, d3] }
  | _ => none }
def coreTwoRow : OpenClaim := { program := "ytnhjiappmblnmaa", sum := "16ee6035cd565041fb84dfdf98034286f98306460adb79d3e49e96bfc3b4e145", func := "leaven/leavenlaw15.CoreTwo", spec := "coreTwo", unfollowed := true, recurses := true, apart := false }
def CoreTwoSaid : Prop := coreTwoRow.holds Try.pinned (OpenSpec.ofChange coreTwoSpec)

/-- ITS FALSE NEIGHBOUR: 'it returns false'. Refute it at one input. -/
def coreTwoWrong : ChangeSpec := { name := "coreTwo", fn := fun _ => fun
  | [d1, d2, d3] => { results := [.lit (.bool false)], args := [d1, d2, d3] }
  | _ => none }
def CoreTwoWrongFalsely : Prop := coreTwoRow.holds Try.pinned (OpenSpec.ofChange coreTwoWrong)

/- THE SECOND FORM. 'bulk': how many values and letters a reading holds, each counted each time it is reached (what is shared counts as often as it is met; a slice's spare places count too). A statement '..UptoSaid' is the law's where the arguments, and the package variables that the reading takes, are together of bulk at most 1048576: NARROWER than '..Said'. Prove '..Said' where nothing that the law and all that it calls make is longer than what came in: it says more and counts as full. Else prove '..UptoSaid'. A law counts once. -/
mutual
def uptoBulk {H : Type} : DataW H → Nat
  | .lit (.string bytes) => bytes.length + 1
  | .lit _ => 1
  | .nil => 1
  | .ptr d => uptoBulk d + 1
  | .slice elems spare => uptoBulkAll elems + uptoBulkAll spare + 1
  | .agg parts => uptoBulkAll parts + 1
  | .iface _ d => uptoBulk d + 1
  | .map entries => uptoBulkEntries entries + 1
  | .held _ => 1
def uptoBulkAll {H : Type} : List (DataW H) → Nat
  | [] => 0
  | d :: r => uptoBulk d + uptoBulkAll r
def uptoBulkEntries {H : Type} : List (Lit × DataW H) → Nat
  | [] => 0
  | x :: r => uptoBulkEntry x + uptoBulkEntries r
def uptoBulkEntry {H : Type} : Lit × DataW H → Nat
  | (.string bytes, d) => bytes.length + uptoBulk d + 1
  | (_, d) => uptoBulk d + 1
 end
def uptoSmall : (H : Type) → List (DataW H) → Bool := fun _ ds => decide (uptoBulkAll ds ≤ 1048576)
def OpenSpec.upto (s : _root_.Go.ChangeSpec) : _root_.Go.OpenSpec := { _root_.Go.OpenSpec.ofChange s with cond := some uptoSmall }

/-- 'leavenlaw15.CoreTells', WHERE WHAT IT READS IS OF BULK AT MOST 1048576: true; the input reads as it did. -/
def coreTellsUptoRow : OpenClaim := { program := "ytnhjiappmblnmaa", sum := "16ee6035cd565041fb84dfdf98034286f98306460adb79d3e49e96bfc3b4e145", func := "leaven/leavenlaw15.CoreTells", spec := "coreTells", unfollowed := true, recurses := true, apart := false, narrowed := true }
def CoreTellsUptoSaid : Prop := coreTellsUptoRow.holds Try.pinned (OpenSpec.upto coreTellsSpec)

/-- 'leavenlaw15.CoreLeast', WHERE WHAT IT READS IS OF BULK AT MOST 1048576: true; the input reads as it did. -/
def coreLeastUptoRow : OpenClaim := { program := "ytnhjiappmblnmaa", sum := "16ee6035cd565041fb84dfdf98034286f98306460adb79d3e49e96bfc3b4e145", func := "leaven/leavenlaw15.CoreLeast", spec := "coreLeast", unfollowed := true, recurses := true, apart := false, narrowed := true }
def CoreLeastUptoSaid : Prop := coreLeastUptoRow.holds Try.pinned (OpenSpec.upto coreLeastSpec)

/-- 'leavenlaw15.CoreMost', WHERE WHAT IT READS IS OF BULK AT MOST 1048576: true; the input reads as it did. -/
def coreMostUptoRow : OpenClaim := { program := "ytnhjiappmblnmaa", sum := "16ee6035cd565041fb84dfdf98034286f98306460adb79d3e49e96bfc3b4e145", func := "leaven/leavenlaw15.CoreMost", spec := "coreMost", unfollowed := true, recurses := true, apart := false, narrowed := true }
def CoreMostUptoSaid : Prop := coreMostUptoRow.holds Try.pinned (OpenSpec.upto coreMostSpec)

/-- 'leavenlaw15.CoreBad', WHERE WHAT IT READS IS OF BULK AT MOST 1048576: true; the input reads as it did. -/
def coreBadUptoRow : OpenClaim := { program := "ytnhjiappmblnmaa", sum := "16ee6035cd565041fb84dfdf98034286f98306460adb79d3e49e96bfc3b4e145", func := "leaven/leavenlaw15.CoreBad", spec := "coreBad", unfollowed := true, recurses := true, apart := false, narrowed := true }
def CoreBadUptoSaid : Prop := coreBadUptoRow.holds Try.pinned (OpenSpec.upto coreBadSpec)

/-- 'leavenlaw15.CoreTwo', WHERE WHAT IT READS IS OF BULK AT MOST 1048576: true; the input reads as it did. -/
def coreTwoUptoRow : OpenClaim := { program := "ytnhjiappmblnmaa", sum := "16ee6035cd565041fb84dfdf98034286f98306460adb79d3e49e96bfc3b4e145", func := "leaven/leavenlaw15.CoreTwo", spec := "coreTwo", unfollowed := true, recurses := true, apart := false, narrowed := true }
def CoreTwoUptoSaid : Prop := coreTwoUptoRow.holds Try.pinned (OpenSpec.upto coreTwoSpec)

end Rows
end Go.Proofs.Ytnhjiappmblnmaa
