/-
  The texts TrM, one behind the other. Conditions: those that each of them names.
-/
import Derived.Test.YtgghmhgbdknkaaaM1
import Derived.Test.YtgghmhgbdknkaaaM3
section
/-
  Plain lists: how a type is read of a row of tokens. No machine here; no conditions but those that each lemma names.
-/
namespace Go.Proofs.Ytgghmhgbdknkaaa.T
open Go

/-- A token: its kind, its text, its bytes. -/
structure Tk where
  kind : Int
  text : ByteArray
  fr : Int
  to : Int
  deriving DecidableEq, Inhabited

/-- A site's bytes. -/
structure Si where
  fr : Int
  to : Int
  deriving DecidableEq, Inhabited

/-- How far it is read: the place, the next site, the sites so far. -/
structure S where
  pl : Nat
  site : Int
  sites : List Si

/-- What was read, or where it is wrong, and what. -/
inductive R (α : Type) where
  | ok : α → S → R α
  | bad : Nat → Int → R α

def R.bind {α β : Type} (r : R α) (f : α → S → R β) : R β :=
  match r with
  | .ok a s => f a s
  | .bad p e => .bad p e

/-- A tree: its outermost node, its children. -/
abbrev Tr := L.Nd × L.Fo

def Tr.flat (t : Tr) : List L.Nd := t.1 :: t.2.flat
def Tr.nodes (t : Tr) : Nat := t.2.flat.length + 1
def Tr.deep (t : Tr) : Nat := t.2.deep + 1

def e0 : ByteArray := ⟨#[]⟩

def leafT (k n : Int) : Tr := (⟨k, e0, n⟩, .nil)
def arrT (a b : Tr) : Tr := (⟨5, e0, 0⟩, .cons a.1 a.2 (.cons b.1 b.2 .nil))

/-- The numbers of labels, in the labels' order. -/
def order (ss : List ByteArray) : List Nat := (List.range ss.length).mergeSort fun i j => decide (¬ Lib.compareBytes (L.labL ss j) (L.labL ss i) < 0)

/-- Trees, one behind the other. -/
def foOf : List Tr → L.Fo
  | [] => .nil
  | t :: r => .cons t.1 t.2 (foOf r)

def named (p : ByteArray × Tr) : Tr := ({ p.2.1 with name := p.1 }, p.2.2)

/-- The row of these labels and trees, in the labels' order. -/
def rowT (kind : Int) (l : List (ByteArray × Tr)) : Tr := (⟨kind, e0, (l.length : Int)⟩, foOf ((order (l.map (·.1))).map fun i => named (l.getD i (e0, (⟨0, e0, 0⟩, .nil)))))

/-- Is the token at a place this sign? -/
def isSign (l : List Tk) (p : Nat) (s : ByteArray) : Bool :=
  match l[p]? with
  | some t => decide (t.kind = 5) && decide (t.text = s)
  | none => false

def kQ : ByteArray := ⟨#[63]⟩
def kArrow : ByteArray := ⟨#[45, 62]⟩
def kOpen : ByteArray := ⟨#[40]⟩
def kClose : ByteArray := ⟨#[41]⟩
def kColon : ByteArray := ⟨#[58]⟩
def kLeft (kind : Int) : ByteArray := if kind = 6 then ⟨#[123]⟩ else ⟨#[91]⟩
def kBetw (kind : Int) : ByteArray := if kind = 6 then ⟨#[44]⟩ else ⟨#[124]⟩
def kRight (kind : Int) : ByteArray := if kind = 6 then ⟨#[125]⟩ else ⟨#[93]⟩

/-- The kind of the type that a key is; below 0: none. -/
def baseK (t : Tk) : Int :=
  if t.kind = 6 then
    if t.text = ⟨#[105, 110, 116]⟩ then 1
    else if t.text = ⟨#[98, 111, 111, 108]⟩ then 2
    else if t.text = ⟨#[115, 116, 114, 105, 110, 103]⟩ then 3
    else if t.text = ⟨#[117, 110, 105, 116]⟩ then 4
    else -1
  else -1

/-- May the token at a place be a label in a row of this kind? -/
def isLab (l : List Tk) (kind : Int) (p : Nat) : Option ByteArray :=
  match l[p]? with
  | some t => if decide (t.kind = (if kind = 6 then 1 else 2)) && L.isLabel kind t.text then some t.text else none
  | none => none

/-- A sign that has to stand there. -/
def take (l : List Tk) (s : S) (k : ByteArray) : R Unit := if isSign l s.pl k then .ok () { s with pl := s.pl + 1 } else .bad s.pl 2

abbrev P := S → R Tr

/-- Labels and types up to the end, at most n of them more. -/
def rowF (l : List Tk) (A : P) (kind : Int) : Nat → List (ByteArray × Tr) → P
  | n, acc, s =>
    match isLab l kind s.pl with
    | none => .bad s.pl 2
    | some t =>
      if acc.any (fun p => decide (p.1 = t)) then .bad s.pl 7
      else match n with
        | 0 => .bad s.pl 3
        | n + 1 =>
          (take l { s with pl := s.pl + 1 } kColon).bind fun _ s1 =>
          (A s1).bind fun x s2 =>
          if isSign l s2.pl (kBetw kind) then rowF l A kind n (acc ++ [(t, x)]) { s2 with pl := s2.pl + 1 }
          else (take l s2 (kRight kind)).bind fun _ s3 => .ok (rowT kind (acc ++ [(t, x)])) s3

/-- What may stand ahead of an arrow; A reads what is one level on, if that may be. -/
def operF (l : List Tk) (A : Option P) : P := fun s =>
  match l[s.pl]? with
  | none => .bad s.pl 2
  | some t =>
    if isSign l s.pl kQ then .ok (leafT 0 s.site) ⟨s.pl + 1, s.site + 1, s.sites ++ [⟨t.fr, t.to⟩]⟩
    else if isSign l s.pl kOpen then
      match A with
      | none => .bad s.pl 4
      | some A => (A { s with pl := s.pl + 1 }).bind fun x s1 => (take l s1 kClose).bind fun _ s2 => .ok x s2
    else if isSign l s.pl (kLeft 6) then
      match A with
      | none => .bad s.pl 4
      | some A => if isSign l (s.pl + 1) (kRight 6) then .ok (rowT 6 []) { s with pl := s.pl + 2 } else rowF l A 6 50 [] { s with pl := s.pl + 1 }
    else if isSign l s.pl (kLeft 7) then
      match A with
      | none => .bad s.pl 4
      | some A => rowF l A 7 50 [] { s with pl := s.pl + 1 }
    else if baseK t < 0 then .bad s.pl 2
    else .ok (leafT (baseK t) 0) { s with pl := s.pl + 1 }

def wholeF (l : List Tk) (A : Option P) : P := fun s =>
  (operF l A s).bind fun a s1 =>
  if isSign l s1.pl kArrow then
    match A with
    | none => .bad s1.pl 4
    | some A => (A { s1 with pl := s1.pl + 1 }).bind fun b s2 => .ok (arrT a b) s2
  else .ok a s1

/-- A type, with so many levels left. -/
def typeF (l : List Tk) : Nat → P
  | 0 => wholeF l none
  | d + 1 => wholeF l (some (typeF l d))

/-- What Read tells. -/
inductive Out where
  | ok : Tr → Nat → List Si → Out
  | bad : Nat → Int → Out

def readF (l : List Tk) (p site level : Int) : Out :=
  if p < 0 ∨ site < 1 ∨ level < 1 then .bad 0 1
  else
    let q := min p.toNat l.length
    match typeF l (100 - level.toNat) ⟨q, site, []⟩ with
    | .bad w e => .bad w e
    | .ok t s => if 10000 < t.nodes then .bad q 3 else if 100 < t.deep then .bad q 4 else .ok t s.pl s.sites

end Go.Proofs.Ytgghmhgbdknkaaa.T
end
