/-
  The texts AsB, AsN, AsL, one behind the other. Conditions: those that each of them names.
-/
import Derived.Test.YthbieinbpfjgkaaGreatDoorMA1
import Derived.Test.YthbieinbpfjgkaaGreatDoorM1
section
/-
  The walks of isBare, hasOnly, isOperator, isPlain. Conditions: names of types of at most 2000000 bytes.
-/
namespace Go.Proofs.YthbieinbpfjgkaaGreatDoor
open Go.RowKit

namespace E
def bare (p : Pt) : Bool := decide (p.label = ⟨#[]⟩) && decide (p.kind ≠ 8)
/-- Has p, beside its kind and its label, no fields but q's? -/
def only (p q : Pt) : Bool := decide (p.name = q.name) && (decide (p.bind = q.bind) && (decide (p.many = q.many) && (decide (p.num = q.num) && (decide (p.t.length = q.t.length) && decide (p.u.length = q.u.length)))))
def opsL : List ByteArray := [⟨#[43]⟩, ⟨#[45]⟩, ⟨#[42]⟩, ⟨#[47]⟩, ⟨#[60]⟩, ⟨#[61, 61]⟩, ⟨#[38, 38]⟩, ⟨#[124, 124]⟩, ⟨#[43, 43]⟩]
def oper (s : ByteArray) : Bool := opsL.any fun x => decide (s = x)
def plain (l : List L.Nd) : Bool := L.rightL l && L.plainL l
end E

set_option maxHeartbeats 1000000 in
set_option maxRecDepth 100000 in
theorem isBare_any (p : E.Pt) (vt vu : Value) (w : World) :
    Calls Tryz.prog 28 #[partV p vt vu] w fun e w' => e = .returned (.bool (E.bare p)) ∧ Below w.heap.size w w' := by
  obtain ⟨k, lb, nm, bd, m, n, t, u⟩ := p
  unfold partV E.bare
  simp only
  have he := eqS lb ⟨#[]⟩
  rw [show (⟨#[]⟩ : ByteArray).toList = [] by first | rfl | (simp; done) | decide] at he
  by_cases h1 : lb = ⟨#[]⟩
  · rw [decide_eq_true h1] at he ⊢
    clear h1
    by_cases h8 : k = 8
    · subst h8
      go_enter Tryz.func28, Tryz.ntmps28
      go_wp2
      go_ret
      exact ⟨ret_bool (by simp), below_new _⟩
    · have h8b : (k != 8) = true := by simpa using h8
      rw [decide_eq_true h8]
      clear h8
      go_enter Tryz.func28, Tryz.ntmps28
      go_wp2
      go_ret
      exact ⟨ret_bool (by simp), below_new _⟩
  · rw [decide_eq_false h1] at he ⊢
    clear h1
    go_enter Tryz.func28, Tryz.ntmps28
    go_wp2
    go_ret
    exact ⟨ret_bool (by simp), below_new _⟩

set_option maxHeartbeats 4000000 in
set_option maxRecDepth 100000 in
theorem hasOnly_any (p q : E.Pt) (A1 A2 A3 A4 : Option Addr) (c1 c2 c3 c4 : Nat) (w : World) :
    Calls Tryz.prog 59 #[partV p (.slice A1 p.t.length c1) (.slice A2 p.u.length c2), partV q (.slice A3 q.t.length c3) (.slice A4 q.u.length c4)] w fun e w' => e = .returned (.bool (E.only p q)) ∧ Below w.heap.size w w' := by
  obtain ⟨k, lb, nm, bd, m, n, t, u⟩ := p
  obtain ⟨k2, lb2, nm2, bd2, m2, n2, t2, u2⟩ := q
  unfold partV E.only
  simp only
  generalize t.length = tl
  generalize u.length = ul
  generalize t2.length = tl2
  generalize u2.length = ul2
  have hB : ∀ o1 o2 : Obj, Below w.heap.size w ((w.alloc o1).alloc o2) := fun o1 o2 => (below_new _).trans ((below_new _).mono (by simp))
  have HB := hid hB
  have e1 := eqS nm nm2
  have e2 := eqS bd bd2
  clear hB
  by_cases h1 : nm = nm2
  case neg =>
    rw [decide_eq_false h1] at e1 ⊢
    clear h1 e2
    go_enter Tryz.func59, Tryz.ntmps59
    go_wp2
    go_ret
    exact ⟨ret_bool (by simp), HB.out _ _⟩
  rw [decide_eq_true h1] at e1 ⊢
  clear h1
  by_cases h2 : bd = bd2
  case neg =>
    rw [decide_eq_false h2] at e2 ⊢
    clear h2
    go_enter Tryz.func59, Tryz.ntmps59
    go_wp2
    go_ret
    exact ⟨ret_bool (by simp), HB.out _ _⟩
  rw [decide_eq_true h2] at e2 ⊢
  clear h2
  by_cases h3 : m = m2
  case neg =>
    have h3b : (m == m2) = false := by simpa using h3
    rw [decide_eq_false h3]
    clear h3
    go_enter Tryz.func59, Tryz.ntmps59
    go_wp2
    go_ret
    exact ⟨ret_bool (by simp), HB.out _ _⟩
  subst h3
  by_cases h4 : n = n2
  case neg =>
    have h4b : (n == n2) = false := by simpa using h4
    rw [decide_eq_false h4]
    clear h4
    go_enter Tryz.func59, Tryz.ntmps59
    go_wp2
    go_ret
    exact ⟨ret_bool (by simp), HB.out _ _⟩
  subst h4
  by_cases h5 : tl = tl2
  case neg =>
    have h5b : ((tl : Int) == (tl2 : Int)) = false := by simp; omega
    rw [decide_eq_false h5]
    clear h5
    go_enter Tryz.func59, Tryz.ntmps59
    go_wp2
    go_ret
    exact ⟨ret_bool (by simp), HB.out _ _⟩
  subst h5
  by_cases h6 : ul = ul2
  case neg =>
    have h6b : ((ul : Int) == (ul2 : Int)) = false := by simp; omega
    rw [decide_eq_false h6]
    clear h6
    go_enter Tryz.func59, Tryz.ntmps59
    go_wp2
    go_ret
    exact ⟨ret_bool (by simp), HB.out _ _⟩
  subst h6
  go_enter Tryz.func59, Tryz.ntmps59
  go_wp2
  go_ret
  exact ⟨ret_bool (by simp), HB.out _ _⟩

set_option maxHeartbeats 4000000 in
set_option maxRecDepth 100000 in
theorem isPlain_any (l : List L.Nd) (hnm : ∀ x ∈ l, x.name.size ≤ 2000000) (v : Value) (w : World) (hx : Rd w w.heap.size v l) :
    Calls Tryz.prog 61 #[v] w fun e w' => e = .returned (.bool (E.plain l)) ∧ Below w.heap.size w w' := by
  have HR := hid (right_any l hnm v w hx)
  have HP := hid (fun w2 (hb : Below w.heap.size w w2) => plain_any l v w2 ((hx.below hb).mono hb.size))
  obtain ⟨A, cap, rfl, -⟩ := hx
  unfold E.plain
  cases hr : L.rightL l with
  | false =>
    rw [hr] at HR
    clear hr
    go_enter Tryz.func61, Tryz.ntmps61
    go_wp2_with fail
    refine (HR.out).mono ?_
    rintro e w1 ⟨rfl, h1⟩
    go_wp2
    go_ret
    exact ⟨ret_bool (by simp), h1⟩
  | true =>
    rw [hr] at HR
    clear hr
    go_enter Tryz.func61, Tryz.ntmps61
    go_wp2_with fail
    refine (HR.out).mono ?_
    rintro e w1 ⟨rfl, h1⟩
    have HB1 := hid h1
    clear h1
    go_wp2_with fail
    refine (HP.out _ HB1.out).mono ?_
    rintro e w2 ⟨rfl, h2⟩
    have HB2 := hid (HB1.out.trans (h2.mono HB1.out.size))
    clear h2
    go_wp2
    go_ret
    exact ⟨ret_bool (by simp), HB2.out⟩

set_option maxHeartbeats 4000000 in
set_option maxRecDepth 100000 in
theorem isOperator_any (s : ByteArray) (w : World) :
    Calls Tryz.prog 62 #[.string s] w fun e w' => e = .returned (.bool (E.oper s)) ∧ w' = w := by
  have e0 := eqS s ⟨#[43]⟩
  rw [show (⟨#[43]⟩ : ByteArray).toList = [43] by first | rfl | (simp; done) | decide] at e0
  have e1 := eqS s ⟨#[45]⟩
  rw [show (⟨#[45]⟩ : ByteArray).toList = [45] by first | rfl | (simp; done) | decide] at e1
  have e2 := eqS s ⟨#[42]⟩
  rw [show (⟨#[42]⟩ : ByteArray).toList = [42] by first | rfl | (simp; done) | decide] at e2
  have e3 := eqS s ⟨#[47]⟩
  rw [show (⟨#[47]⟩ : ByteArray).toList = [47] by first | rfl | (simp; done) | decide] at e3
  have e4 := eqS s ⟨#[60]⟩
  rw [show (⟨#[60]⟩ : ByteArray).toList = [60] by first | rfl | (simp; done) | decide] at e4
  have e5 := eqS s ⟨#[61, 61]⟩
  rw [show (⟨#[61, 61]⟩ : ByteArray).toList = [61, 61] by first | rfl | (simp; done) | decide] at e5
  have e6 := eqS s ⟨#[38, 38]⟩
  rw [show (⟨#[38, 38]⟩ : ByteArray).toList = [38, 38] by first | rfl | (simp; done) | decide] at e6
  have e7 := eqS s ⟨#[124, 124]⟩
  rw [show (⟨#[124, 124]⟩ : ByteArray).toList = [124, 124] by first | rfl | (simp; done) | decide] at e7
  have e8 := eqS s ⟨#[43, 43]⟩
  rw [show (⟨#[43, 43]⟩ : ByteArray).toList = [43, 43] by first | rfl | (simp; done) | decide] at e8
  by_cases h0 : s = ⟨#[43]⟩
  · have hE : E.oper s = true := by simp [E.oper, E.opsL, h0]
    rw [hE]
    rw [decide_eq_true h0] at e0
    clear h0 e1 e2 e3 e4 e5 e6 e7 e8 hE
    go_enter Tryz.func62, Tryz.ntmps62
    go_wp2
    go_ret
    exact ⟨rfl, rfl⟩
  by_cases h1 : s = ⟨#[45]⟩
  · have hE : E.oper s = true := by simp [E.oper, E.opsL, h1]
    rw [hE]
    rw [decide_eq_true h1] at e1
    rw [decide_eq_false h0] at e0
    clear h0 h1 e2 e3 e4 e5 e6 e7 e8 hE
    go_enter Tryz.func62, Tryz.ntmps62
    go_wp2
    go_ret
    exact ⟨rfl, rfl⟩
  by_cases h2 : s = ⟨#[42]⟩
  · have hE : E.oper s = true := by simp [E.oper, E.opsL, h2]
    rw [hE]
    rw [decide_eq_true h2] at e2
    rw [decide_eq_false h0] at e0
    rw [decide_eq_false h1] at e1
    clear h0 h1 h2 e3 e4 e5 e6 e7 e8 hE
    go_enter Tryz.func62, Tryz.ntmps62
    go_wp2
    go_ret
    exact ⟨rfl, rfl⟩
  by_cases h3 : s = ⟨#[47]⟩
  · have hE : E.oper s = true := by simp [E.oper, E.opsL, h3]
    rw [hE]
    rw [decide_eq_true h3] at e3
    rw [decide_eq_false h0] at e0
    rw [decide_eq_false h1] at e1
    rw [decide_eq_false h2] at e2
    clear h0 h1 h2 h3 e4 e5 e6 e7 e8 hE
    go_enter Tryz.func62, Tryz.ntmps62
    go_wp2
    go_ret
    exact ⟨rfl, rfl⟩
  by_cases h4 : s = ⟨#[60]⟩
  · have hE : E.oper s = true := by simp [E.oper, E.opsL, h4]
    rw [hE]
    rw [decide_eq_true h4] at e4
    rw [decide_eq_false h0] at e0
    rw [decide_eq_false h1] at e1
    rw [decide_eq_false h2] at e2
    rw [decide_eq_false h3] at e3
    clear h0 h1 h2 h3 h4 e5 e6 e7 e8 hE
    go_enter Tryz.func62, Tryz.ntmps62
    go_wp2
    go_ret
    exact ⟨rfl, rfl⟩
  by_cases h5 : s = ⟨#[61, 61]⟩
  · have hE : E.oper s = true := by simp [E.oper, E.opsL, h5]
    rw [hE]
    rw [decide_eq_true h5] at e5
    rw [decide_eq_false h0] at e0
    rw [decide_eq_false h1] at e1
    rw [decide_eq_false h2] at e2
    rw [decide_eq_false h3] at e3
    rw [decide_eq_false h4] at e4
    clear h0 h1 h2 h3 h4 h5 e6 e7 e8 hE
    go_enter Tryz.func62, Tryz.ntmps62
    go_wp2
    go_ret
    exact ⟨rfl, rfl⟩
  by_cases h6 : s = ⟨#[38, 38]⟩
  · have hE : E.oper s = true := by simp [E.oper, E.opsL, h6]
    rw [hE]
    rw [decide_eq_true h6] at e6
    rw [decide_eq_false h0] at e0
    rw [decide_eq_false h1] at e1
    rw [decide_eq_false h2] at e2
    rw [decide_eq_false h3] at e3
    rw [decide_eq_false h4] at e4
    rw [decide_eq_false h5] at e5
    clear h0 h1 h2 h3 h4 h5 h6 e7 e8 hE
    go_enter Tryz.func62, Tryz.ntmps62
    go_wp2
    go_ret
    exact ⟨rfl, rfl⟩
  by_cases h7 : s = ⟨#[124, 124]⟩
  · have hE : E.oper s = true := by simp [E.oper, E.opsL, h7]
    rw [hE]
    rw [decide_eq_true h7] at e7
    rw [decide_eq_false h0] at e0
    rw [decide_eq_false h1] at e1
    rw [decide_eq_false h2] at e2
    rw [decide_eq_false h3] at e3
    rw [decide_eq_false h4] at e4
    rw [decide_eq_false h5] at e5
    rw [decide_eq_false h6] at e6
    clear h0 h1 h2 h3 h4 h5 h6 h7 e8 hE
    go_enter Tryz.func62, Tryz.ntmps62
    go_wp2
    go_ret
    exact ⟨rfl, rfl⟩
  by_cases h8 : s = ⟨#[43, 43]⟩
  · have hE : E.oper s = true := by simp [E.oper, E.opsL, h8]
    rw [hE]
    rw [decide_eq_true h8] at e8
    rw [decide_eq_false h0] at e0
    rw [decide_eq_false h1] at e1
    rw [decide_eq_false h2] at e2
    rw [decide_eq_false h3] at e3
    rw [decide_eq_false h4] at e4
    rw [decide_eq_false h5] at e5
    rw [decide_eq_false h6] at e6
    rw [decide_eq_false h7] at e7
    clear h0 h1 h2 h3 h4 h5 h6 h7 h8 hE
    go_enter Tryz.func62, Tryz.ntmps62
    go_wp2
    go_ret
    exact ⟨rfl, rfl⟩
  have hE : E.oper s = false := by simp [E.oper, E.opsL, h0, h1, h2, h3, h4, h5, h6, h7, h8]
  rw [hE]
  rw [decide_eq_false h0] at e0
  rw [decide_eq_false h1] at e1
  rw [decide_eq_false h2] at e2
  rw [decide_eq_false h3] at e3
  rw [decide_eq_false h4] at e4
  rw [decide_eq_false h5] at e5
  rw [decide_eq_false h6] at e6
  rw [decide_eq_false h7] at e7
  rw [decide_eq_false h8] at e8
  clear h0 h1 h2 h3 h4 h5 h6 h7 h8 hE
  go_enter Tryz.func62, Tryz.ntmps62
  go_wp2
  go_ret
  exact ⟨rfl, rfl⟩

end Go.Proofs.YthbieinbpfjgkaaGreatDoor
end

section
/-
  The walks of isName and isLit. Conditions: names of at most 2000000 bytes; a number lies in the variable that the library's Cut asks for.
-/
namespace Go.Proofs.YthbieinbpfjgkaaGreatDoor
open Go.RowKit

namespace E
def cutN (s : ByteArray) : List UInt8 × List UInt8 × Bool := Lib.cut s.data.toList [33]
/-- A word, or two with a ! between. -/
def nameOK (s : ByteArray) : Bool := nameB 97 122 ⟨(cutN s).1.toArray⟩ && (!(cutN s).2.2 || nameB 97 122 ⟨(cutN s).2.1.toArray⟩)
theorem cutN_len (s : ByteArray) : (cutN s).1.length ≤ s.size ∧ (cutN s).2.1.length ≤ s.size := by
  have hl : s.data.toList.length = s.size := by simp
  unfold cutN Lib.cut
  split
  · simp only [List.length_take, List.length_drop]
    omega
  · simp only [List.length_nil]
    omega
end E

/-- A number lies in the variable that Cut asks for. -/
def MCell (w : World) : Prop := ∃ m, w.cell? ⟨1, 0, none⟩ = some (.int .i64 m) ∧ 2 ≤ w.heap.size
theorem MCell.below {B : Nat} {w w' : World} (h : MCell w) (hb : Below B w w') (hB : 2 ≤ B) : MCell w' := by
  obtain ⟨m, h1, h2⟩ := h
  have := hb.size
  exact ⟨m, (hb.cell (p := ⟨1, 0, none⟩) (by show 1 < B; omega)).trans h1, by omega⟩
theorem MCell.grows {w w' : World} (h : MCell w) (hb : Below w.heap.size w w') : MCell w' := h.below hb h.choose_spec.2

set_option maxHeartbeats 4000000 in
set_option maxRecDepth 100000 in
theorem isName_any (s : ByteArray) (hs : s.size ≤ 2000000) (w : World) (hM : MCell w) :
    Calls Tryz.prog 58 #[.string s] w fun e w' => e = .returned (.bool (E.nameOK s)) ∧ Below w.heap.size w w' := by
  obtain ⟨m, hm, -⟩ := hM
  have HC := hid (Tryz.strings_Cut s ⟨#[33]⟩ m w (by omega) hm)
  have hlen := E.cutN_len s
  have HE : Hid (E.nameOK s = (nameB 97 122 ⟨(E.cutN s).1.toArray⟩ && (!(E.cutN s).2.2 || nameB 97 122 ⟨(E.cutN s).2.1.toArray⟩))) := hid rfl
  rw [HE.out]
  rw [show Lib.cut s.data.toList (⟨#[33]⟩ : ByteArray).data.toList = E.cutN s from rfl] at HC
  generalize E.cutN s = c at *
  obtain ⟨a, b, f⟩ := c
  simp only at HC hlen ⊢
  have HA := hid (fun w => isWord_any ⟨a.toArray⟩ (by show a.toArray.size ≤ 2000000; simp; omega) w)
  have HB := hid (fun w => isWord_any ⟨b.toArray⟩ (by show b.toArray.size ≤ 2000000; simp; omega) w)
  generalize (⟨a.toArray⟩ : ByteArray) = sa at *
  generalize (⟨b.toArray⟩ : ByteArray) = sb at *
  generalize nameB 97 122 sa = ba at *
  generalize nameB 97 122 sb = bb at *
  clear hm hlen HE
  go_enter Tryz.func58, Tryz.ntmps58
  go_wp2_with fail
  refine (HC.out).mono ?_
  rintro e w1 ⟨rfl, k, rfl⟩
  have HB1 := hid (below_drewN (Below.refl w.heap.size w) k)
  cases ba with
  | false =>
    go_wp2_with fail
    refine (HA.out _).mono ?_
    rintro e w2 ⟨rfl, h2⟩
    have HB2 := hid (HB1.out.trans (h2.mono HB1.out.size))
    clear h2
    go_wp2
    go_ret
    exact ⟨ret_bool (by simp), HB2.out⟩
  | true =>
    go_wp2_with fail
    refine (HA.out _).mono ?_
    rintro e w2 ⟨rfl, h2⟩
    have HB2 := hid (HB1.out.trans (h2.mono HB1.out.size))
    clear h2
    cases f with
    | false =>
      go_wp2
      go_ret
      exact ⟨ret_bool (by simp), HB2.out⟩
    | true =>
      go_wp2_with fail
      refine (HB.out _).mono ?_
      rintro e w3 ⟨rfl, h3⟩
      have HB3 := hid (HB2.out.trans (h3.mono HB2.out.size))
      clear h3
      go_wp2
      go_ret
      exact ⟨ret_bool (by simp), HB3.out⟩

end Go.Proofs.YthbieinbpfjgkaaGreatDoor
end

section
/-
  The walk of isLit. Conditions: names of types of at most 2000000 bytes.
-/
namespace Go.Proofs.YthbieinbpfjgkaaGreatDoor
open Go.RowKit

namespace E
/-- A part with no fields but these. -/
def useP (name : ByteArray) (num : Int) (t : List L.Nd) : Pt := ⟨0, ⟨#[]⟩, name, ⟨#[]⟩, 0, num, t, []⟩
/-- A literal. -/
def litOK (p : Pt) : Bool :=
  match p.t with
  | [x] => L.rightL [x] && (
      if x.kind = 1 then decide (0 ≤ p.num) && (decide (p.num ≤ 999999999999999999) && only p (useP ⟨#[]⟩ p.num p.t))
      else if x.kind = 2 then decide (0 ≤ p.num) && (decide (p.num ≤ 1) && only p (useP ⟨#[]⟩ p.num p.t))
      else if x.kind = 3 then only p (useP p.name 0 p.t)
      else if x.kind = 4 then only p (useP ⟨#[]⟩ 0 p.t)
      else false)
  | _ => false
end E

set_option maxHeartbeats 8000000 in
set_option maxRecDepth 100000 in
theorem isLit_any (p : E.Pt) (hnm : ∀ x ∈ p.t, x.name.size ≤ 2000000) (A1 A2 : Option Addr) (c1 c2 : Nat) (w : World) (ht : Rd w w.heap.size (.slice A1 p.t.length c1) p.t) :
    Calls Tryz.prog 57 #[partV p (.slice A1 p.t.length c1) (.slice A2 p.u.length c2)] w fun e w' => e = .returned (.bool (E.litOK p)) ∧ Below w.heap.size w w' := by
  have HO := hid (fun (q : E.Pt) (A3 A4 : Option Addr) (c3 c4 : Nat) (w : World) => hasOnly_any p q A1 A2 A3 A4 c1 c2 c3 c4 w)
  have HBX := hid (below_new (w := w) (.cells #[.int .i64 p.kind, .string p.label, .string p.name, .string p.bind, .int .i64 p.many, .int .i64 p.num, .slice A1 p.t.length c1, .slice A2 p.u.length c2] 39))
  have HM := hid (heap_alloc_new w (.cells #[.int .i64 p.kind, .string p.label, .string p.name, .string p.bind, .int .i64 p.many, .int .i64 p.num, .slice A1 p.t.length c1, .slice A2 p.u.length c2] 39))
  have HT := hid ht
  have HR := hid (right_any p.t hnm _ _ ((ht.below HBX.out).mono HBX.out.size))
  obtain ⟨k, lb, nm, bd, m, n, t, u⟩ := p
  simp only at HO HBX HM HT HR hnm ⊢
  unfold partV at *
  simp only at HO ⊢
  by_cases h1 : t.length = 1
  case neg =>
    have hE : E.litOK ⟨k, lb, nm, bd, m, n, t, u⟩ = false := by
      match t, h1 with
      | [], _ => rfl
      | [x], h => exact absurd rfl h
      | _ :: _ :: _, _ => rfl
    rw [hE]
    have hb : ((t.length : Int) != 1) = true := by simp; omega
    clear h1 ht HT HR hE
    generalize t.length = tl at *
    go_enter Tryz.func57, Tryz.ntmps57
    go_wp2
    go_ret
    exact ⟨rfl, HBX.out⟩
  obtain ⟨x, rfl⟩ : ∃ x, t = [x] := by
    match t, h1 with
    | [x], _ => exact ⟨x, rfl⟩
  obtain ⟨b, o, rfl, hb, x0⟩ : ∃ b o, A1 = some ⟨b, o, none⟩ ∧ b < w.heap.size ∧ w.cell? ⟨b, o, none⟩ = some (.int .i64 x.kind) := by
    obtain ⟨A', c', hv, -, -, -, hc⟩ := HT.out
    simp only [Value.slice.injEq, true_and] at hv
    obtain ⟨rfl, -⟩ := hv
    obtain ⟨b, o, h3, h4, h5⟩ := hc (by simp)
    exact ⟨b, o, h3, h4, (h5 0 (by simp)).1⟩
  have X0 := hid x0
  have HE : Hid (E.litOK ⟨k, lb, nm, bd, m, n, [x], u⟩ = (L.rightL [x] && (
      if x.kind = 1 then decide (0 ≤ n) && (decide (n ≤ 999999999999999999) && E.only ⟨k, lb, nm, bd, m, n, [x], u⟩ (E.useP ⟨#[]⟩ n [x]))
      else if x.kind = 2 then decide (0 ≤ n) && (decide (n ≤ 1) && E.only ⟨k, lb, nm, bd, m, n, [x], u⟩ (E.useP ⟨#[]⟩ n [x]))
      else if x.kind = 3 then E.only ⟨k, lb, nm, bd, m, n, [x], u⟩ (E.useP nm 0 [x])
      else if x.kind = 4 then E.only ⟨k, lb, nm, bd, m, n, [x], u⟩ (E.useP ⟨#[]⟩ 0 [x])
      else false))) := hid rfl
  rw [HE.out]
  clear h1 ht hnm x0
  simp only [List.length_cons, List.length_nil, Nat.zero_add] at HO HBX HM HR ⊢
  cases hr : L.rightL [x] with
  | false =>
    rw [hr] at HR
    rw [Bool.false_and]
    clear hr HE
    generalize x.kind = xk at *
    go_enter Tryz.func57, Tryz.ntmps57
    go_wp2_with fail
    refine (HR.out).mono ?_
    rintro e w1 ⟨rfl, h1⟩
    have HB1 := hid (HBX.out.trans (h1.mono HBX.out.size))
    have hM1 := (h1.block _ (heap_lt HM.out)).trans HM.out
    have k0 : ∀ j, w1.cell? ⟨w.heap.size, j, none⟩ = #[Value.int .i64 k, .string lb, .string nm, .string bd, .int .i64 m, .int .i64 n, .slice (some ⟨b, o, none⟩) 1 c1, .slice A2 u.length c2][j]? := fun j => Lib.cell_of_heap hM1 j
    have hk1 : w.heap.size < w1.heap.size := heap_lt hM1
    have x1 := (HB1.out.cell (p := ⟨b, o, none⟩) hb).trans X0.out
    clear h1 hM1 HR
    go_wp2
    go_ret
    exact ⟨ret_bool (by simp), HB1.out⟩
  | true =>
    rw [hr] at HR
    rw [Bool.true_and]
    clear hr HE
    obtain ⟨xk, hxk⟩ : ∃ xk, x.kind = xk := ⟨_, rfl⟩
    rw [hxk] at X0 ⊢
    clear hxk
    by_cases e1 : xk = 1
    · subst e1
      rw [if_pos rfl]
      by_cases g1 : 0 ≤ n
      case neg =>
        rw [decide_eq_false g1, Bool.false_and]
        go_enter Tryz.func57, Tryz.ntmps57
        go_wp2_with fail
        refine (HR.out).mono ?_
        rintro e w1 ⟨rfl, h1⟩
        have HB1 := hid (HBX.out.trans (h1.mono HBX.out.size))
        have hM1 := (h1.block _ (heap_lt HM.out)).trans HM.out
        have k0 : ∀ j, w1.cell? ⟨w.heap.size, j, none⟩ = #[Value.int .i64 k, .string lb, .string nm, .string bd, .int .i64 m, .int .i64 n, .slice (some ⟨b, o, none⟩) 1 c1, .slice A2 u.length c2][j]? := fun j => Lib.cell_of_heap hM1 j
        have hk1 : w.heap.size < w1.heap.size := heap_lt hM1
        have x1 := (HB1.out.cell (p := ⟨b, o, none⟩) hb).trans X0.out
        clear h1 hM1 HR
        go_wp2
        go_ret
        exact ⟨ret_bool (by simp), HB1.out⟩
      rw [decide_eq_true g1, Bool.true_and]
      by_cases g2 : n ≤ 999999999999999999
      case neg =>
        rw [decide_eq_false g2, Bool.false_and]
        go_enter Tryz.func57, Tryz.ntmps57
        go_wp2_with fail
        refine (HR.out).mono ?_
        rintro e w1 ⟨rfl, h1⟩
        have HB1 := hid (HBX.out.trans (h1.mono HBX.out.size))
        have hM1 := (h1.block _ (heap_lt HM.out)).trans HM.out
        have k0 : ∀ j, w1.cell? ⟨w.heap.size, j, none⟩ = #[Value.int .i64 k, .string lb, .string nm, .string bd, .int .i64 m, .int .i64 n, .slice (some ⟨b, o, none⟩) 1 c1, .slice A2 u.length c2][j]? := fun j => Lib.cell_of_heap hM1 j
        have hk1 : w.heap.size < w1.heap.size := heap_lt hM1
        have x1 := (HB1.out.cell (p := ⟨b, o, none⟩) hb).trans X0.out
        clear h1 hM1 HR
        go_wp2
        go_ret
        exact ⟨ret_bool (by simp), HB1.out⟩
      rw [decide_eq_true g2, Bool.true_and]
      have HC := hid (fun w1 => HO.out (E.useP ⟨#[]⟩ n [x]) (some ⟨b, o, none⟩) none c1 0 w1)
      unfold E.useP at HC ⊢
      generalize E.only ⟨k, lb, nm, bd, m, n, [x], u⟩ _ = r at *
      go_enter Tryz.func57, Tryz.ntmps57
      go_wp2_with fail
      refine (HR.out).mono ?_
      rintro e w1 ⟨rfl, h1⟩
      have HB1 := hid (HBX.out.trans (h1.mono HBX.out.size))
      have hM1 := (h1.block _ (heap_lt HM.out)).trans HM.out
      have k0 : ∀ j, w1.cell? ⟨w.heap.size, j, none⟩ = #[Value.int .i64 k, .string lb, .string nm, .string bd, .int .i64 m, .int .i64 n, .slice (some ⟨b, o, none⟩) 1 c1, .slice A2 u.length c2][j]? := fun j => Lib.cell_of_heap hM1 j
      have hk1 : w.heap.size < w1.heap.size := heap_lt hM1
      have x1 := (HB1.out.cell (p := ⟨b, o, none⟩) hb).trans X0.out
      clear h1 hM1 HR
      go_wp2_with fail
      refine (HC.out _).mono ?_
      rintro e w2 ⟨rfl, h2⟩
      have HB2 := hid (HB1.out.trans (h2.mono HB1.out.size))
      clear h2
      go_wp2
      go_ret
      exact ⟨ret_bool (by simp), HB2.out⟩
    rw [if_neg e1]
    by_cases e2 : xk = 2
    · subst e2
      clear e1
      rw [if_pos rfl]
      by_cases g1 : 0 ≤ n
      case neg =>
        rw [decide_eq_false g1, Bool.false_and]
        go_enter Tryz.func57, Tryz.ntmps57
        go_wp2_with fail
        refine (HR.out).mono ?_
        rintro e w1 ⟨rfl, h1⟩
        have HB1 := hid (HBX.out.trans (h1.mono HBX.out.size))
        have hM1 := (h1.block _ (heap_lt HM.out)).trans HM.out
        have k0 : ∀ j, w1.cell? ⟨w.heap.size, j, none⟩ = #[Value.int .i64 k, .string lb, .string nm, .string bd, .int .i64 m, .int .i64 n, .slice (some ⟨b, o, none⟩) 1 c1, .slice A2 u.length c2][j]? := fun j => Lib.cell_of_heap hM1 j
        have hk1 : w.heap.size < w1.heap.size := heap_lt hM1
        have x1 := (HB1.out.cell (p := ⟨b, o, none⟩) hb).trans X0.out
        clear h1 hM1 HR
        go_wp2
        go_ret
        exact ⟨ret_bool (by simp), HB1.out⟩
      rw [decide_eq_true g1, Bool.true_and]
      by_cases g2 : n ≤ 1
      case neg =>
        rw [decide_eq_false g2, Bool.false_and]
        go_enter Tryz.func57, Tryz.ntmps57
        go_wp2_with fail
        refine (HR.out).mono ?_
        rintro e w1 ⟨rfl, h1⟩
        have HB1 := hid (HBX.out.trans (h1.mono HBX.out.size))
        have hM1 := (h1.block _ (heap_lt HM.out)).trans HM.out
        have k0 : ∀ j, w1.cell? ⟨w.heap.size, j, none⟩ = #[Value.int .i64 k, .string lb, .string nm, .string bd, .int .i64 m, .int .i64 n, .slice (some ⟨b, o, none⟩) 1 c1, .slice A2 u.length c2][j]? := fun j => Lib.cell_of_heap hM1 j
        have hk1 : w.heap.size < w1.heap.size := heap_lt hM1
        have x1 := (HB1.out.cell (p := ⟨b, o, none⟩) hb).trans X0.out
        clear h1 hM1 HR
        go_wp2
        go_ret
        exact ⟨ret_bool (by simp), HB1.out⟩
      rw [decide_eq_true g2, Bool.true_and]
      have HC := hid (fun w1 => HO.out (E.useP ⟨#[]⟩ n [x]) (some ⟨b, o, none⟩) none c1 0 w1)
      unfold E.useP at HC ⊢
      generalize E.only ⟨k, lb, nm, bd, m, n, [x], u⟩ _ = r at *
      go_enter Tryz.func57, Tryz.ntmps57
      go_wp2_with fail
      refine (HR.out).mono ?_
      rintro e w1 ⟨rfl, h1⟩
      have HB1 := hid (HBX.out.trans (h1.mono HBX.out.size))
      have hM1 := (h1.block _ (heap_lt HM.out)).trans HM.out
      have k0 : ∀ j, w1.cell? ⟨w.heap.size, j, none⟩ = #[Value.int .i64 k, .string lb, .string nm, .string bd, .int .i64 m, .int .i64 n, .slice (some ⟨b, o, none⟩) 1 c1, .slice A2 u.length c2][j]? := fun j => Lib.cell_of_heap hM1 j
      have hk1 : w.heap.size < w1.heap.size := heap_lt hM1
      have x1 := (HB1.out.cell (p := ⟨b, o, none⟩) hb).trans X0.out
      clear h1 hM1 HR
      go_wp2_with fail
      refine (HC.out _).mono ?_
      rintro e w2 ⟨rfl, h2⟩
      have HB2 := hid (HB1.out.trans (h2.mono HB1.out.size))
      clear h2
      go_wp2
      go_ret
      exact ⟨ret_bool (by simp), HB2.out⟩
    rw [if_neg e2]
    by_cases e3 : xk = 3
    · subst e3
      clear e1 e2
      rw [if_pos rfl]
      have HC := hid (fun w1 => HO.out (E.useP nm 0 [x]) (some ⟨b, o, none⟩) none c1 0 w1)
      unfold E.useP at HC ⊢
      generalize E.only ⟨k, lb, nm, bd, m, n, [x], u⟩ _ = r at *
      go_enter Tryz.func57, Tryz.ntmps57
      go_wp2_with fail
      refine (HR.out).mono ?_
      rintro e w1 ⟨rfl, h1⟩
      have HB1 := hid (HBX.out.trans (h1.mono HBX.out.size))
      have hM1 := (h1.block _ (heap_lt HM.out)).trans HM.out
      have k0 : ∀ j, w1.cell? ⟨w.heap.size, j, none⟩ = #[Value.int .i64 k, .string lb, .string nm, .string bd, .int .i64 m, .int .i64 n, .slice (some ⟨b, o, none⟩) 1 c1, .slice A2 u.length c2][j]? := fun j => Lib.cell_of_heap hM1 j
      have hk1 : w.heap.size < w1.heap.size := heap_lt hM1
      have x1 := (HB1.out.cell (p := ⟨b, o, none⟩) hb).trans X0.out
      clear h1 hM1 HR
      go_wp2_with fail
      refine (HC.out _).mono ?_
      rintro e w2 ⟨rfl, h2⟩
      have HB2 := hid (HB1.out.trans (h2.mono HB1.out.size))
      clear h2
      go_wp2
      go_ret
      exact ⟨ret_bool (by simp), HB2.out⟩
    rw [if_neg e3]
    by_cases e4 : xk = 4
    · subst e4
      clear e1 e2 e3
      rw [if_pos rfl]
      have HC := hid (fun w1 => HO.out (E.useP ⟨#[]⟩ 0 [x]) (some ⟨b, o, none⟩) none c1 0 w1)
      unfold E.useP at HC ⊢
      generalize E.only ⟨k, lb, nm, bd, m, n, [x], u⟩ _ = r at *
      go_enter Tryz.func57, Tryz.ntmps57
      go_wp2_with fail
      refine (HR.out).mono ?_
      rintro e w1 ⟨rfl, h1⟩
      have HB1 := hid (HBX.out.trans (h1.mono HBX.out.size))
      have hM1 := (h1.block _ (heap_lt HM.out)).trans HM.out
      have k0 : ∀ j, w1.cell? ⟨w.heap.size, j, none⟩ = #[Value.int .i64 k, .string lb, .string nm, .string bd, .int .i64 m, .int .i64 n, .slice (some ⟨b, o, none⟩) 1 c1, .slice A2 u.length c2][j]? := fun j => Lib.cell_of_heap hM1 j
      have hk1 : w.heap.size < w1.heap.size := heap_lt hM1
      have x1 := (HB1.out.cell (p := ⟨b, o, none⟩) hb).trans X0.out
      clear h1 hM1 HR
      go_wp2_with fail
      refine (HC.out _).mono ?_
      rintro e w2 ⟨rfl, h2⟩
      have HB2 := hid (HB1.out.trans (h2.mono HB1.out.size))
      clear h2
      go_wp2
      go_ret
      exact ⟨ret_bool (by simp), HB2.out⟩
    rw [if_neg e4]
    have b1 : (xk == 1) = false := by simpa using e1
    have b2 : (xk == 2) = false := by simpa using e2
    have b3 : (xk == 3) = false := by simpa using e3
    have b4 : (xk == 4) = false := by simpa using e4
    clear e1 e2 e3 e4
    go_enter Tryz.func57, Tryz.ntmps57
    go_wp2_with fail
    refine (HR.out).mono ?_
    rintro e w1 ⟨rfl, h1⟩
    have HB1 := hid (HBX.out.trans (h1.mono HBX.out.size))
    have hM1 := (h1.block _ (heap_lt HM.out)).trans HM.out
    have k0 : ∀ j, w1.cell? ⟨w.heap.size, j, none⟩ = #[Value.int .i64 k, .string lb, .string nm, .string bd, .int .i64 m, .int .i64 n, .slice (some ⟨b, o, none⟩) 1 c1, .slice A2 u.length c2][j]? := fun j => Lib.cell_of_heap hM1 j
    have hk1 : w.heap.size < w1.heap.size := heap_lt hM1
    have x1 := (HB1.out.cell (p := ⟨b, o, none⟩) hb).trans X0.out
    clear h1 hM1 HR
    go_wp2
    go_ret
    exact ⟨ret_bool (by simp), HB1.out⟩

end Go.Proofs.YthbieinbpfjgkaaGreatDoor
end
