/-
  No cell of these rows narrows 'for every input' (looked for: loops, veiled, ifaces, maps, wideKeys, modest, calm, conditions, laid).
  DERIVED. THE GIVEN ROWS OF THIS SEAT. 4 by the template 'for every input the law returns true; each argument reads behind the call as it read before'; 0 by the template 'total and deterministic' (their statements: YtmifcjiakiddkaaTotals.lean).
  GIVEN WITH THE SEED: the statements are not yours to turn. If you find one false, say at which input.
  Laid BY PROGRAM, IN A SANDBOX (cutbox-rows.mjs): the forced cells as the released guide's own fill.sh prints them over the translation 4db0ab16f7f30971… (all of the seat's roots in one cut). By AI agents, Wed Nov 11 2026. No macro, syntax, notation, axiom, sorry.
-/
import Derived.Test.YtmifcjiakiddkaaChecked
import GoSem.Claim
import GoSem.ClaimJoined
import GoSem.ClaimMapViews
import Derived.JoinedTies
import Derived.KernelRfl
namespace Go.Proofs.Ytmifcjiakiddkaa
/- THE CELL 'sum', in the pinned program and in every row, IS THE sha256 OF THE DUMP (.gsa) THAT YtmifcjiakiddkaaProg.lean LOADS. Nothing in Lean hashes anything: it is a label: what it is worth is what the hold of that sum in a sandbox is worth. -/
noncomputable def Try.pinned : Pinned := { name := "ytmifcjiakiddkaa", sum := "4db0ab16f7f3097125d96ba2646dd54330cb5e42a410951f74c73eb9441f7971", checked := Try.checked }
namespace Rows
def none {H : Type} : Left H := { results := [], args := [] }

/-- 'leavenlaw12.TermGround': WHATEVER THE INPUT: true; the input reads as it did. -/
def termGroundSpec : ChangeSpec := { name := "termGround", fn := fun _ => fun
  | [d1, d2] => { results := [.lit (.bool true)], args := [d1, d2] }
  | _ => none }
def termGroundRow : OpenClaim := { program := "ytmifcjiakiddkaa", sum := "4db0ab16f7f3097125d96ba2646dd54330cb5e42a410951f74c73eb9441f7971", func := "leaven/leavenlaw12.TermGround", spec := "termGround", unfollowed := true, recurses := true, apart := false }
def TermGroundSaid : Prop := termGroundRow.holds Try.pinned (OpenSpec.ofChange termGroundSpec)

/-- ITS FALSE NEIGHBOUR: 'it returns false'. Refute it at one input. -/
def termGroundWrong : ChangeSpec := { name := "termGround", fn := fun _ => fun
  | [d1, d2] => { results := [.lit (.bool false)], args := [d1, d2] }
  | _ => none }
def TermGroundWrongFalsely : Prop := termGroundRow.holds Try.pinned (OpenSpec.ofChange termGroundWrong)

/-- 'leavenlaw12.TermCanon': WHATEVER THE INPUT: true; the input reads as it did. -/
def termCanonSpec : ChangeSpec := { name := "termCanon", fn := fun _ => fun
  | [d1, d2] => { results := [.lit (.bool true)], args := [d1, d2] }
  | _ => none }
def termCanonRow : OpenClaim := { program := "ytmifcjiakiddkaa", sum := "4db0ab16f7f3097125d96ba2646dd54330cb5e42a410951f74c73eb9441f7971", func := "leaven/leavenlaw12.TermCanon", spec := "termCanon", unfollowed := true, recurses := true, apart := false }
def TermCanonSaid : Prop := termCanonRow.holds Try.pinned (OpenSpec.ofChange termCanonSpec)

/-- ITS FALSE NEIGHBOUR: 'it returns false'. Refute it at one input. -/
def termCanonWrong : ChangeSpec := { name := "termCanon", fn := fun _ => fun
  | [d1, d2] => { results := [.lit (.bool false)], args := [d1, d2] }
  | _ => none }
def TermCanonWrongFalsely : Prop := termCanonRow.holds Try.pinned (OpenSpec.ofChange termCanonWrong)

/-- 'leavenlaw12.TermTwo': WHATEVER THE INPUT: true; the input reads as it did. -/
def termTwoSpec : ChangeSpec := { name := "termTwo", fn := fun _ => fun
  | [d1, d2, d3] => { results := [.lit (.bool true)], args := [d1, d2, d3] }
  | _ => none }
def termTwoRow : OpenClaim := { program := "ytmifcjiakiddkaa", sum := "4db0ab16f7f3097125d96ba2646dd54330cb5e42a410951f74c73eb9441f7971", func := "leaven/leavenlaw12.TermTwo", spec := "termTwo", unfollowed := true, recurses := true, apart := false }
def TermTwoSaid : Prop := termTwoRow.holds Try.pinned (OpenSpec.ofChange termTwoSpec)

/-- ITS FALSE NEIGHBOUR: 'it returns false'. Refute it at one input. -/
def termTwoWrong : ChangeSpec := { name := "termTwo", fn := fun _ => fun
  | [d1, d2, d3] => { results := [.lit (.bool false)], args := [d1, d2, d3] }
  | _ => none }
def TermTwoWrongFalsely : Prop := termTwoRow.holds Try.pinned (OpenSpec.ofChange termTwoWrong)

/-- 'leavenlaw12.TermSelf': WHATEVER THE INPUT: true; the input reads as it did. -/
def termSelfSpec : ChangeSpec := { name := "termSelf", fn := fun _ => fun
  | [d1, d2] => { results := [.lit (.bool true)], args := [d1, d2] }
  | _ => none }
def termSelfRow : OpenClaim := { program := "ytmifcjiakiddkaa", sum := "4db0ab16f7f3097125d96ba2646dd54330cb5e42a410951f74c73eb9441f7971", func := "leaven/leavenlaw12.TermSelf", spec := "termSelf", unfollowed := true, recurses := true, apart := false }
def TermSelfSaid : Prop := termSelfRow.holds Try.pinned (OpenSpec.ofChange termSelfSpec)

/-- ITS FALSE NEIGHBOUR: 'it returns false'. Refute it at one input. -/
def termSelfWrong : ChangeSpec := { name := "termSelf", fn := fun _ => fun
  | [d1, d2] => { results := [.lit (.bool false)], args := [d1, d2] }
  | _ => none }
def TermSelfWrongFalsely : Prop := termSelfRow.holds Try.pinned (OpenSpec.ofChange termSelfWrong)

/- THE SECOND FORM. 'bulk': how many values and letters a reading holds, each counted each time it is reached (what is shared counts as often as it is met; a slice's spare places count too). A statement '..UptoSaid' is the law's where the arguments, and the package variables that the reading takes, are together of bulk at most 1048576: NARROWER than '..Said'. Prove '..Said' where nothing that the law and all that it calls make is longer than what came in: it says more and counts as full. Else prove '..UptoSaid'. A law counts once. -/
mutual
def uptoBulk {H : Type} : DataW H → Nat
  | .lit (.string bytes) => bytes.length + 1
  | .lit _ => 1
  | .nil => 1
  | .ptr d => uptoBulk d + 1
  | .slice elems spare => uptoBulkAll elems + uptoBulkAll spare + 1
  | .agg parts => uptoBulkAll parts + 1
  | .iface _ d => uptoBulk d + 1
  | .map entries => uptoBulkEntries entries + 1
  | .held _ => 1
def uptoBulkAll {H : Type} : List (DataW H) → Nat
  | [] => 0
  | d :: r => uptoBulk d + uptoBulkAll r
def uptoBulkEntries {H : Type} : List (Lit × DataW H) → Nat
  | [] => 0
  | x :: r => uptoBulkEntry x + uptoBulkEntries r
def uptoBulkEntry {H : Type} : Lit × DataW H → Nat
  | (.string bytes, d) => bytes.length + uptoBulk d + 1
  | (_, d) => uptoBulk d + 1
 end
def uptoSmall : (H : Type) → List (DataW H) → Bool := fun _ ds => decide (uptoBulkAll ds ≤ 1048576)
def OpenSpec.upto (s : _root_.Go.ChangeSpec) : _root_.Go.OpenSpec := { _root_.Go.OpenSpec.ofChange s with cond := some uptoSmall }

/-- 'leavenlaw12.TermGround', WHERE WHAT IT READS IS OF BULK AT MOST 1048576: true; the input reads as it did. -/
def termGroundUptoRow : OpenClaim := { program := "ytmifcjiakiddkaa", sum := "4db0ab16f7f3097125d96ba2646dd54330cb5e42a410951f74c73eb9441f7971", func := "leaven/leavenlaw12.TermGround", spec := "termGround", unfollowed := true, recurses := true, apart := false, narrowed := true }
def TermGroundUptoSaid : Prop := termGroundUptoRow.holds Try.pinned (OpenSpec.upto termGroundSpec)

/-- 'leavenlaw12.TermCanon', WHERE WHAT IT READS IS OF BULK AT MOST 1048576: true; the input reads as it did. -/
def termCanonUptoRow : OpenClaim := { program := "ytmifcjiakiddkaa", sum := "4db0ab16f7f3097125d96ba2646dd54330cb5e42a410951f74c73eb9441f7971", func := "leaven/leavenlaw12.TermCanon", spec := "termCanon", unfollowed := true, recurses := true, apart := false, narrowed := true }
def TermCanonUptoSaid : Prop := termCanonUptoRow.holds Try.pinned (OpenSpec.upto termCanonSpec)

/-- 'leavenlaw12.TermTwo', WHERE WHAT IT READS IS OF BULK AT MOST 1048576: true; the input reads as it did. -/
def termTwoUptoRow : OpenClaim := { program := "ytmifcjiakiddkaa", sum := "4db0ab16f7f3097125d96ba2646dd54330cb5e42a410951f74c73eb9441f7971", func := "leaven/leavenlaw12.TermTwo", spec := "termTwo", unfollowed := true, recurses := true, apart := false, narrowed := true }
def TermTwoUptoSaid : Prop := termTwoUptoRow.holds Try.pinned (OpenSpec.upto termTwoSpec)

/-- 'leavenlaw12.TermSelf', WHERE WHAT IT READS IS OF BULK AT MOST 1048576: true; the input reads as it did. -/
def termSelfUptoRow : OpenClaim := { program := "ytmifcjiakiddkaa", sum := "4db0ab16f7f3097125d96ba2646dd54330cb5e42a410951f74c73eb9441f7971", func := "leaven/leavenlaw12.TermSelf", spec := "termSelf", unfollowed := true, recurses := true, apart := false, narrowed := true }
def TermSelfUptoSaid : Prop := termSelfUptoRow.holds Try.pinned (OpenSpec.upto termSelfSpec)

end Rows
end Go.Proofs.Ytmifcjiakiddkaa
