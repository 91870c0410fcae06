/-
  The texts AsB, AsN, AsL, one behind the other. Conditions: those that each of them names.
-/
import Derived.Test.YtmcdggjcpfkchaaMA1
import Derived.Test.YtmcdggjcpfkchaaM1
import Derived.Lib.IndexMore
section
/-
  The walks of isBare, hasOnly, isOperator, isPlain. Conditions: names of types of at most 2000000 bytes.
-/
namespace Go.Proofs.Ytmcdggjcpfkchaa
open Go.RowKit

namespace E
def bare (p : Pt) : Bool := decide (p.label = ⟨#[]⟩) && decide (p.kind ≠ 8)
/-- Has p, beside its kind and its label, no fields but q's? -/
def only (p q : Pt) : Bool := decide (p.name = q.name) && (decide (p.bind = q.bind) && (decide (p.many = q.many) && (decide (p.num = q.num) && (decide (p.t.length = q.t.length) && decide (p.u.length = q.u.length)))))
def opsL : List ByteArray := [⟨#[43]⟩, ⟨#[45]⟩, ⟨#[42]⟩, ⟨#[47]⟩, ⟨#[60]⟩, ⟨#[61, 61]⟩, ⟨#[38, 38]⟩, ⟨#[124, 124]⟩, ⟨#[43, 43]⟩]
def oper (s : ByteArray) : Bool := opsL.any fun x => decide (s = x)
def plain (l : List L.Nd) : Bool := L.rightL l && L.plainL l
end E

end Go.Proofs.Ytmcdggjcpfkchaa
end

section
/-
  The walks of isName and isLit. Conditions: names of at most 2000000 bytes; a number lies in the variable that the library's Cut asks for.
-/
namespace Go.Proofs.Ytmcdggjcpfkchaa
open Go.RowKit

namespace E
def cutN (s : ByteArray) : List UInt8 × List UInt8 × Bool := Lib.cut s.data.toList [33]
/-- A word, or two with a ! between. -/
def nameOK (s : ByteArray) : Bool := nameB 97 122 ⟨(cutN s).1.toArray⟩ && (!(cutN s).2.2 || nameB 97 122 ⟨(cutN s).2.1.toArray⟩)
theorem cutN_len (s : ByteArray) : (cutN s).1.length ≤ s.size ∧ (cutN s).2.1.length ≤ s.size := by
  have hl : s.data.toList.length = s.size := by simp
  unfold cutN Lib.cut
  split
  · simp only [List.length_take, List.length_drop]
    omega
  · simp only [List.length_nil]
    omega
end E

/-- A number lies in the variable that Cut asks for. -/
def MCell (w : World) : Prop := ∃ m, w.cell? ⟨1, 0, none⟩ = some (.int .i64 m) ∧ 2 ≤ w.heap.size
theorem MCell.below {B : Nat} {w w' : World} (h : MCell w) (hb : Below B w w') (hB : 2 ≤ B) : MCell w' := by
  obtain ⟨m, h1, h2⟩ := h
  have := hb.size
  exact ⟨m, (hb.cell (p := ⟨1, 0, none⟩) (by show 1 < B; omega)).trans h1, by omega⟩
theorem MCell.grows {w w' : World} (h : MCell w) (hb : Below w.heap.size w w') : MCell w' := h.below hb h.choose_spec.2

end Go.Proofs.Ytmcdggjcpfkchaa
end

section
/-
  The walk of isLit. Conditions: names of types of at most 2000000 bytes.
-/
namespace Go.Proofs.Ytmcdggjcpfkchaa
open Go.RowKit

namespace E
/-- A part with no fields but these. -/
def useP (name : ByteArray) (num : Int) (t : List L.Nd) : Pt := ⟨0, ⟨#[]⟩, name, ⟨#[]⟩, 0, num, t, []⟩
/-- A literal. -/
def litOK (p : Pt) : Bool :=
  match p.t with
  | [x] => L.rightL [x] && (
      if x.kind = 1 then decide (0 ≤ p.num) && (decide (p.num ≤ 999999999999999999) && only p (useP ⟨#[]⟩ p.num p.t))
      else if x.kind = 2 then decide (0 ≤ p.num) && (decide (p.num ≤ 1) && only p (useP ⟨#[]⟩ p.num p.t))
      else if x.kind = 3 then only p (useP p.name 0 p.t)
      else if x.kind = 4 then only p (useP ⟨#[]⟩ 0 p.t)
      else false)
  | _ => false
end E

end Go.Proofs.Ytmcdggjcpfkchaa
end
