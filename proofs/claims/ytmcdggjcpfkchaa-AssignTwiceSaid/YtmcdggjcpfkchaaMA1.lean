/-
  The texts AsM, AsA, AsE, AsK, AsR, one behind the other. Conditions: those that each of them names.
-/
import Derived.Test.YtmcdggjcpfkchaaM1
import Derived.Test.YtmcdggjcpfkchaaM2
section
/-
  Plain lists of parts, no program: forests in pre-order, how many children a part has, where a tree ends, its children's places. No conditions but those that each lemma names.
-/
namespace Go.Proofs.Ytmcdggjcpfkchaa.E
open Go

/-- A part: its kind, its label, its name, what it binds, how many, a number, its types. -/
structure Pt where
  kind : Int
  label : ByteArray
  name : ByteArray
  bind : ByteArray
  many : Int
  num : Int
  t : List L.Nd
  u : List L.Nd
  deriving DecidableEq, Inhabited

/-- How many children a part of each kind has, but for those that it counts. -/
def kidsA : List Int := [0, 0, 1, 2, 2, 2, 3, 1, 1, 2, 0, 1, 1, 1, 1]
def base (k : Int) : Int := if 0 ≤ k then kidsA.getD k.toNat 0 else 0
/-- As the program counts them. -/
def many (p : Pt) : Int := if p.kind < 0 ∨ 15 ≤ p.kind then 0 else base p.kind + p.many
/-- As the document does. -/
def manyR (p : Pt) : Int :=
  if p.kind = 2 ∨ p.kind = 8 ∨ p.kind = 11 ∨ p.kind = 12 ∨ p.kind = 13 ∨ p.kind = 14 then 1
  else if p.kind = 3 ∨ p.kind = 4 ∨ p.kind = 5 ∨ p.kind = 9 then 2
  else if p.kind = 6 then 3
  else if p.kind = 7 then max p.many 0 + 1
  else if p.kind = 10 then max p.many 0
  else 0

theorem many_eq {p : Pt} (h0 : 0 ≤ p.kind ∧ p.kind < 15) (h1 : p.kind ≠ 7 → p.kind ≠ 10 → p.many = 0) (h2 : 0 ≤ p.many) : many p = manyR p := by
  unfold many manyR
  rw [if_neg (by omega)]
  obtain ⟨k, lb, nm, bd, m, n, t, u⟩ := p
  simp only at h0 h1 h2 ⊢
  rcases (by omega : k = 0 ∨ k = 1 ∨ k = 2 ∨ k = 3 ∨ k = 4 ∨ k = 5 ∨ k = 6 ∨ k = 7 ∨ k = 8 ∨ k = 9 ∨ k = 10 ∨ k = 11 ∨ k = 12 ∨ k = 13 ∨ k = 14) with rfl | rfl | rfl | rfl | rfl | rfl | rfl | rfl | rfl | rfl | rfl | rfl | rfl | rfl | rfl
  all_goals simp [base, kidsA] at h1 ⊢
  all_goals omega

/-- A row of trees: the first one's outermost part, its children, the others. -/
inductive Fo where
  | nil : Fo
  | cons : Pt → Fo → Fo → Fo

def Fo.flat : Fo → List Pt
  | .nil => []
  | .cons x ks r => x :: (ks.flat ++ r.flat)
def Fo.count : Fo → Nat
  | .nil => 0
  | .cons _ _ r => r.count + 1
def Fo.deep : Fo → Nat
  | .nil => 0
  | .cons _ ks r => max (ks.deep + 1) r.deep

/-- How many parts so many trees are, as far as there are parts. -/
def eat : Nat → List Pt → Nat
  | _, [] => 0
  | 0, _ => 0
  | c + 1, x :: r => 1 + eat (c + (many x).toNat) r

theorem eat_zero (l : List Pt) : eat 0 l = 0 := by cases l <;> rfl

theorem eat_le (c : Nat) (l : List Pt) : eat c l ≤ l.length := by
  induction l generalizing c with
  | nil => simp [eat]
  | cons x l ih =>
    cases c with
    | zero => simp [eat]
    | succ c =>
      rw [eat]
      have := ih (c + (many x).toNat)
      simp
      omega

theorem eat_pos {c : Nat} {l : List Pt} (hc : 0 < c) (hl : l ≠ []) : 0 < eat c l := by
  obtain ⟨c, rfl⟩ : ∃ d, c = d + 1 := ⟨c - 1, by omega⟩
  cases l with
  | nil => exact absurd rfl hl
  | cons x l => rw [eat]; omega

/-- Each part has as many children as it says. -/
def Fo.fit : Fo → Prop
  | .nil => True
  | .cons x ks r => many x = ks.count ∧ ks.fit ∧ r.fit

/-- The trees of a row are eaten one behind the other. -/
theorem eat_flat (f : Fo) (h : f.fit) (c : Nat) (r : List Pt) : eat (f.count + c) (f.flat ++ r) = f.flat.length + eat c r := by
  induction f generalizing c r with
  | nil => simp [Fo.count, Fo.flat]
  | cons x ks g ih1 ih2 =>
    obtain ⟨hm, hk, hg⟩ := h
    have e : (Fo.cons x ks g).count + c = (g.count + c) + 1 := by simp [Fo.count]; omega
    have e2 : g.count + c + (many x).toNat = ks.count + (g.count + c) := by omega
    rw [e]
    simp only [Fo.flat, List.cons_append, List.append_assoc]
    rw [eat, e2, ih1 hk, ih2 hg]
    simp
    omega

theorem eat_tree {x : Pt} {ks : Fo} (h : (Fo.cons x ks .nil).fit) (r : List Pt) : eat 1 (x :: (ks.flat ++ r)) = ks.flat.length + 1 := by
  have := eat_flat (Fo.cons x ks .nil) h 0 r
  simp only [Fo.count, Fo.flat, List.append_nil, List.cons_append, eat_zero, Nat.zero_add, Nat.add_zero] at this
  rw [this]
  simp

/-- The places of so many trees from place p on. -/
def kidsL (l : List Pt) : Nat → Nat → List Nat
  | 0, _ => []
  | c + 1, p => if p < l.length then p :: kidsL l c (p + eat 1 (l.drop p)) else []

theorem kidsL_length_le (l : List Pt) (c p : Nat) : (kidsL l c p).length ≤ c := by
  induction c generalizing p with
  | zero => simp [kidsL]
  | succ c ih =>
    rw [kidsL]
    split
    · have := ih (p + eat 1 (l.drop p)); simp; omega
    · simp

/-- A row of trees is one at most. -/
theorem Fo.flat_inj : ∀ (f g : Fo) (r s : List Pt), f.fit → g.fit → f.count = g.count → f.flat ++ r = g.flat ++ s → f = g ∧ r = s := by
  intro f
  induction f with
  | nil =>
    intro g r s _ _ hc h
    cases g with
    | nil => exact ⟨rfl, by simpa [Fo.flat] using h⟩
    | cons y ks q => simp [Fo.count] at hc
  | cons x ks q ihk ihq =>
    intro g r s hf hg hc h
    cases g with
    | nil => simp [Fo.count] at hc
    | cons y kt p =>
      simp only [Fo.flat, List.cons_append, List.append_assoc, List.cons.injEq] at h
      obtain ⟨rfl, h⟩ := h
      obtain ⟨h1, h2, h3⟩ := hf
      obtain ⟨g1, g2, g3⟩ := hg
      simp only [Fo.count] at hc
      obtain ⟨rfl, h4⟩ := ihk kt _ _ h2 g2 (by omega) h
      obtain ⟨rfl, h5⟩ := ihq p _ _ h3 g3 (by omega) h4
      exact ⟨rfl, h5⟩

end Go.Proofs.Ytmcdggjcpfkchaa.E
end

section
/-
  A slice of parts that reads; the table of how many children a part has; the walks of many, the program's and the reference's. Conditions: the table holds what the program's text says; a part counts at most 1000000.
-/
namespace Go.Proofs.Ytmcdggjcpfkchaa
open Go.RowKit

/-- The table holds what the program's text says. -/
def KTab (w : World) : Prop := ∃ t fr, w.heap[0]? = some (.cells (E.kidsA.map fun z => Value.int .i64 z).toArray t fr)

theorem KTab.size {w : World} (h : KTab w) : 1 ≤ w.heap.size := by
  obtain ⟨t, fr, h⟩ := h
  have := heap_lt h
  omega
theorem KTab.below {B : Nat} {w w' : World} (h : KTab w) (hb : Below B w w') (hB : 1 ≤ B) : KTab w' := by
  obtain ⟨t, fr, h⟩ := h
  exact ⟨t, fr, (hb.block 0 (by omega)).trans h⟩
theorem KTab.grows {w w' : World} (h : KTab w) (hb : Below w.heap.size w w') : KTab w' := h.below hb h.size
theorem KTab.cell {w : World} (h : KTab w) (j : Nat) : w.cell? ⟨0, j, none⟩ = (E.kidsA.map fun z => Value.int .i64 z)[j]? := by
  obtain ⟨t, fr, h⟩ := h
  have e : w.cell? ⟨0, j, none⟩ = (E.kidsA.map fun z => Value.int .i64 z).toArray[j]? := by simp [World.cell?, h]
  rw [e]
  simp

/-- A part's value. -/
def partV (p : E.Pt) (vt vu : Value) : Value := .agg #[.int .i64 p.kind, .string p.label, .string p.name, .string p.bind, .int .i64 p.many, .int .i64 p.num, vt, vu]

/-- A slice that reads as these parts, from blocks below B. -/
def RdP (w : World) (B : Nat) (v : Value) (l : List E.Pt) : Prop :=
  ∃ (A : Option Addr) (cap : Nat), v = .slice A l.length cap ∧ l.length ≤ cap ∧ cap ≤ maxLen ∧ (l ≠ [] → ∃ b o, A = some ⟨b, o, none⟩ ∧ b < B ∧ ∀ (i : Nat) (h : i < l.length), ∃ vt vu,
    w.cell? ⟨b, o + i * 8, none⟩ = some (.int .i64 l[i].kind) ∧ w.cell? ⟨b, o + i * 8 + 1, none⟩ = some (.string l[i].label) ∧ w.cell? ⟨b, o + i * 8 + 2, none⟩ = some (.string l[i].name) ∧ w.cell? ⟨b, o + i * 8 + 3, none⟩ = some (.string l[i].bind) ∧
    w.cell? ⟨b, o + i * 8 + 4, none⟩ = some (.int .i64 l[i].many) ∧ w.cell? ⟨b, o + i * 8 + 5, none⟩ = some (.int .i64 l[i].num) ∧ w.cell? ⟨b, o + i * 8 + 6, none⟩ = some vt ∧ w.cell? ⟨b, o + i * 8 + 7, none⟩ = some vu ∧ Rd w B vt l[i].t ∧ Rd w B vu l[i].u)

theorem RdP.low {w w' : World} {B : Nat} {v : Value} {l : List E.Pt} (h : RdP w B v l) (hb : Below B w w') (hr : ∀ {v l}, Rd w B v l → Rd w' B v l) : RdP w' B v l := by
  obtain ⟨A, cap, hv, h1, h2, hc⟩ := h
  refine ⟨A, cap, hv, h1, h2, fun hn => ?_⟩
  obtain ⟨b, o, ha, hlt, hx⟩ := hc hn
  refine ⟨b, o, ha, hlt, fun i hi => ?_⟩
  obtain ⟨vt, vu, c0, c1, c2, c3, c4, c5, c6, c7, ht, hu⟩ := hx i hi
  have e : ∀ j, w'.cell? ⟨b, j, none⟩ = w.cell? ⟨b, j, none⟩ := fun j => hb.cell (p := ⟨b, j, none⟩) hlt
  exact ⟨vt, vu, by rw [e]; exact c0, by rw [e]; exact c1, by rw [e]; exact c2, by rw [e]; exact c3, by rw [e]; exact c4, by rw [e]; exact c5, by rw [e]; exact c6, by rw [e]; exact c7, hr ht, hr hu⟩

end Go.Proofs.Ytmcdggjcpfkchaa
end

section
/-
  The walks of End and isPart. Conditions: at most 20000 parts, each of which has from 0 to 60 children and counts at most 1000000; the table holds what the program's text says.
-/
namespace Go.Proofs.Ytmcdggjcpfkchaa
open Go.RowKit

/-- Parts that have from 0 to 60 children, not too many. -/
def FewP (l : List E.Pt) : Prop := l.length ≤ 20000 ∧ ∀ x ∈ l, 0 ≤ E.many x ∧ E.many x ≤ 60 ∧ -1000000 ≤ x.many ∧ x.many ≤ 1000000

/-- A part of a slice that reads, as the call's own steps see it. -/
theorem RdP.at {w0 w : World} {A : Option Addr} {n cap : Nat} {l : List E.Pt} (h : RdP w0 w0.heap.size (.slice A n cap) l) (hb : Below w0.heap.size w0 w) {i : Nat} (hi : i < l.length) :
    ∃ b o vt vu, A = some ⟨b, o, none⟩ ∧ b < w0.heap.size ∧ w.cell? ⟨b, o + i * 8, none⟩ = some (.int .i64 l[i].kind) ∧ w.cell? ⟨b, o + i * 8 + 1, none⟩ = some (.string l[i].label) ∧ w.cell? ⟨b, o + i * 8 + 2, none⟩ = some (.string l[i].name) ∧ w.cell? ⟨b, o + i * 8 + 3, none⟩ = some (.string l[i].bind) ∧
    w.cell? ⟨b, o + i * 8 + 4, none⟩ = some (.int .i64 l[i].many) ∧ w.cell? ⟨b, o + i * 8 + 5, none⟩ = some (.int .i64 l[i].num) ∧ w.cell? ⟨b, o + i * 8 + 6, none⟩ = some vt ∧ w.cell? ⟨b, o + i * 8 + 7, none⟩ = some vu ∧ Rd w0 w0.heap.size vt l[i].t ∧ Rd w0 w0.heap.size vu l[i].u := by
  obtain ⟨A', cap', hv, -, -, hc⟩ := h
  simp only [Value.slice.injEq] at hv
  obtain ⟨rfl, -, -⟩ := hv
  obtain ⟨b, o, h1, h2, h3⟩ := hc (by rintro rfl; simp at hi)
  obtain ⟨vt, vu, c0, c1, c2, c3, c4, c5, c6, c7, ht, hu⟩ := h3 i hi
  have e : ∀ j, w.cell? ⟨b, j, none⟩ = w0.cell? ⟨b, j, none⟩ := fun j => hb.cell (p := ⟨b, j, none⟩) h2
  exact ⟨b, o, vt, vu, h1, h2, by rw [e]; exact c0, by rw [e]; exact c1, by rw [e]; exact c2, by rw [e]; exact c3, by rw [e]; exact c4, by rw [e]; exact c5, by rw [e]; exact c6, by rw [e]; exact c7, ht, hu⟩

theorem RdP.below {w w' : World} {v : Value} {l : List E.Pt} (h : RdP w w.heap.size v l) (hb : Below w.heap.size w w') : RdP w' w'.heap.size v l := by
  obtain ⟨A, cap, hv, h1, h2, hc⟩ := h
  refine ⟨A, cap, hv, h1, h2, fun hn => ?_⟩
  obtain ⟨b, o, ha, hlt, hx⟩ := hc hn
  refine ⟨b, o, ha, Nat.lt_of_lt_of_le hlt hb.size, fun i hi => ?_⟩
  obtain ⟨vt, vu, c0, c1, c2, c3, c4, c5, c6, c7, ht, hu⟩ := hx i hi
  have e : ∀ j, w'.cell? ⟨b, j, none⟩ = w.cell? ⟨b, j, none⟩ := fun j => hb.cell (p := ⟨b, j, none⟩) hlt
  exact ⟨vt, vu, by rw [e]; exact c0, by rw [e]; exact c1, by rw [e]; exact c2, by rw [e]; exact c3, by rw [e]; exact c4, by rw [e]; exact c5, by rw [e]; exact c6, by rw [e]; exact c7, (ht.below hb).mono hb.size, (hu.below hb).mono hb.size⟩

end Go.Proofs.Ytmcdggjcpfkchaa
end

section
/-
  The walks of Kids, the program's and the reference's, and of the reference's Many and End. Conditions: at most 20000 parts, each of which has from 0 to 60 children and counts at most 1000000, as many for the program as for the document; the table holds what the program's text says.
-/
namespace Go.Proofs.Ytmcdggjcpfkchaa
open Go.RowKit

end Go.Proofs.Ytmcdggjcpfkchaa
end

section
/-
  The walks of the reference's Many, End and Kids. Conditions: at most 20000 parts, each of which has from 0 to 60 children and counts at most 1000000, as many for the program as for the document; the table holds what the program's text says.
-/
namespace Go.Proofs.Ytmcdggjcpfkchaa
open Go.RowKit

set_option maxHeartbeats 4000000 in
set_option maxRecDepth 100000 in
theorem rmany_any (p : E.Pt) (vt vu : Value) (hR : E.many p = E.manyR p) (hm : -1000000 ≤ p.many ∧ p.many ≤ 1000000) (w : World) :
    Calls Try.prog 47 #[partV p vt vu] w fun e w' => e = .returned (.int .i64 (E.many p)) ∧ Below w.heap.size w w' := by
  rw [hR]
  obtain ⟨k, lb, nm, bd, m, n, t, u⟩ := p
  unfold partV
  simp only at hm ⊢
  clear hR
  by_cases hk : 0 ≤ k ∧ k < 15
  · rcases (by omega : k = 0 ∨ k = 1 ∨ k = 2 ∨ k = 3 ∨ k = 4 ∨ k = 5 ∨ k = 6 ∨ k = 7 ∨ k = 8 ∨ k = 9 ∨ k = 10 ∨ k = 11 ∨ k = 12 ∨ k = 13 ∨ k = 14) with rfl | rfl | rfl | rfl | rfl | rfl | rfl | rfl | rfl | rfl | rfl | rfl | rfl | rfl | rfl
    · rw [show E.manyR ⟨0, lb, nm, bd, m, n, t, u⟩ = 0 from rfl]
      clear hk
      go_enter Try.func47, Try.ntmps47
      go_wp2
      go_ret
      exact ⟨rfl, below_new _⟩
    · rw [show E.manyR ⟨1, lb, nm, bd, m, n, t, u⟩ = 0 from rfl]
      clear hk
      go_enter Try.func47, Try.ntmps47
      go_wp2
      go_ret
      exact ⟨rfl, below_new _⟩
    · rw [show E.manyR ⟨2, lb, nm, bd, m, n, t, u⟩ = 1 from rfl]
      clear hk
      go_enter Try.func47, Try.ntmps47
      go_wp2
      go_ret
      exact ⟨rfl, below_new _⟩
    · rw [show E.manyR ⟨3, lb, nm, bd, m, n, t, u⟩ = 2 from rfl]
      clear hk
      go_enter Try.func47, Try.ntmps47
      go_wp2
      go_ret
      exact ⟨rfl, below_new _⟩
    · rw [show E.manyR ⟨4, lb, nm, bd, m, n, t, u⟩ = 2 from rfl]
      clear hk
      go_enter Try.func47, Try.ntmps47
      go_wp2
      go_ret
      exact ⟨rfl, below_new _⟩
    · rw [show E.manyR ⟨5, lb, nm, bd, m, n, t, u⟩ = 2 from rfl]
      clear hk
      go_enter Try.func47, Try.ntmps47
      go_wp2
      go_ret
      exact ⟨rfl, below_new _⟩
    · rw [show E.manyR ⟨6, lb, nm, bd, m, n, t, u⟩ = 3 from rfl]
      clear hk
      go_enter Try.func47, Try.ntmps47
      go_wp2
      go_ret
      exact ⟨rfl, below_new _⟩
    · rw [show E.manyR ⟨7, lb, nm, bd, m, n, t, u⟩ = max m 0 + 1 from rfl]
      clear hk
      go_enter Try.func47, Try.ntmps47
      go_wp2
      all_goals go_ret
      all_goals exact ⟨ret_int (by first | rfl | omega), below_new _⟩
    · rw [show E.manyR ⟨8, lb, nm, bd, m, n, t, u⟩ = 1 from rfl]
      clear hk
      go_enter Try.func47, Try.ntmps47
      go_wp2
      go_ret
      exact ⟨rfl, below_new _⟩
    · rw [show E.manyR ⟨9, lb, nm, bd, m, n, t, u⟩ = 2 from rfl]
      clear hk
      go_enter Try.func47, Try.ntmps47
      go_wp2
      go_ret
      exact ⟨rfl, below_new _⟩
    · rw [show E.manyR ⟨10, lb, nm, bd, m, n, t, u⟩ = max m 0 from rfl]
      clear hk
      go_enter Try.func47, Try.ntmps47
      go_wp2
      all_goals go_ret
      all_goals exact ⟨ret_int (by first | rfl | omega), below_new _⟩
    · rw [show E.manyR ⟨11, lb, nm, bd, m, n, t, u⟩ = 1 from rfl]
      clear hk
      go_enter Try.func47, Try.ntmps47
      go_wp2
      go_ret
      exact ⟨rfl, below_new _⟩
    · rw [show E.manyR ⟨12, lb, nm, bd, m, n, t, u⟩ = 1 from rfl]
      clear hk
      go_enter Try.func47, Try.ntmps47
      go_wp2
      go_ret
      exact ⟨rfl, below_new _⟩
    · rw [show E.manyR ⟨13, lb, nm, bd, m, n, t, u⟩ = 1 from rfl]
      clear hk
      go_enter Try.func47, Try.ntmps47
      go_wp2
      go_ret
      exact ⟨rfl, below_new _⟩
    · rw [show E.manyR ⟨14, lb, nm, bd, m, n, t, u⟩ = 1 from rfl]
      clear hk
      go_enter Try.func47, Try.ntmps47
      go_wp2
      go_ret
      exact ⟨rfl, below_new _⟩
  · have e : E.manyR ⟨k, lb, nm, bd, m, n, t, u⟩ = 0 := by
      unfold E.manyR
      simp only
      rw [if_neg (by omega), if_neg (by omega), if_neg (by omega), if_neg (by omega), if_neg (by omega)]
    rw [e]
    have e2 : (k == 2) = false := by simp; omega
    have e3 : (k == 3) = false := by simp; omega
    have e4 : (k == 4) = false := by simp; omega
    have e5 : (k == 5) = false := by simp; omega
    have e6 : (k == 6) = false := by simp; omega
    have e7 : (k == 7) = false := by simp; omega
    have e8 : (k == 8) = false := by simp; omega
    have e9 : (k == 9) = false := by simp; omega
    have e10 : (k == 10) = false := by simp; omega
    have e11 : (k == 11) = false := by simp; omega
    have e12 : (k == 12) = false := by simp; omega
    have e13 : (k == 13) = false := by simp; omega
    have e14 : (k == 14) = false := by simp; omega
    clear hk e
    go_enter Try.func47, Try.ntmps47
    go_wp2
    go_ret
    exact ⟨rfl, below_new _⟩

set_option maxHeartbeats 4000000 in
set_option maxRecDepth 100000 in
theorem rend_any (l : List E.Pt) (hF : FewP l) (hR : ∀ x ∈ l, E.many x = E.manyR x) (v : Value) (p : Nat) (hp : p < l.length) (w : World) (hx : RdP w w.heap.size v l) :
    Calls Try.prog 27 #[v, .int .i64 p] w fun e w' => e = .returned (.int .i64 ((p + E.eat 1 (l.drop p) : Nat) : Int)) ∧ Below w.heap.size w w' := by
  have HX := hid hx
  have HR := hid hR
  obtain ⟨A, cap, rfl, hl1, hl2, -⟩ := hx
  unfold maxLen at hl2
  obtain ⟨hl, hM⟩ := hF
  have HM := hid hM
  clear hM hR
  have hd : decide (l.length ≤ p) = false := by simp; omega
  go_enter Try.func27, Try.ntmps27
  go_wp2
  go_loopw [5, 6] (fun vc vi wr => ∃ q c : Nat, vi = .int .i64 q ∧ vc = .int .i64 ((c + 1 : Nat) : Int) ∧ q ≤ l.length ∧ c ≤ 1 + 60 * q ∧ Below w.heap.size w wr ∧ Hid (q + E.eat (c + 1) (l.drop q) = p + E.eat 1 (l.drop p))) (fun _ vi _ => l.length - (intOf vi).toNat)
  case atStart => exact ⟨p, 0, rfl, rfl, by omega, by omega, Below.refl _ _, hid rfl⟩
  case round =>
    obtain ⟨q, c, rfl, rfl, hq, hc, hB, hE⟩ := hrel
    by_cases hlt : q < l.length
    · obtain ⟨b, o, vt, vu, rfl, hb, x0, x1, x2, x3, x4, x5, x6, x7, -, -⟩ := HX.out.at hB hlt
      have hm := HM.out _ (List.getElem_mem hlt)
      have hdr : Hid (l.drop q = l[q] :: l.drop (q + 1)) := hid (List.drop_eq_getElem_cons hlt)
      have hbw := hB.size
      have HMN := hid (rmany_any l[q] vt vu (HR.out _ (List.getElem_mem hlt)) ⟨hm.2.2.1, hm.2.2.2⟩ wr)
      generalize l[q] = X at *
      obtain ⟨mm, hmm⟩ : ∃ mm : Nat, E.many X = mm := ⟨(E.many X).toNat, by omega⟩
      have hE2 : Hid (q + (1 + E.eat (c + mm) (l.drop (q + 1))) = p + E.eat 1 (l.drop p)) := hid (by rw [← hE.out, hdr.out, E.eat, hmm]; rfl)
      rw [hmm] at HMN hm
      have hm60 : mm ≤ 60 := by omega
      obtain ⟨k1, s1, s2, s3, n1, n2, t1, t2⟩ := X
      unfold partV at HMN
      simp only at x0 x1 x2 x3 x4 x5
      clear hm hmm
      by_cases hz : c + mm = 0
      · obtain rfl : c = 0 := by omega
        obtain rfl : mm = 0 := by omega
        go_wp2_with fail
        refine (HMN.out).mono ?_
        rintro e w1 ⟨rfl, hb1⟩
        have hB1 : Below w.heap.size w w1 := hB.trans (hb1.mono hbw)
        go_wp2
        go_ret
        refine ⟨ret_int ?_, hB1⟩
        rw [← hE2.out, E.eat_zero]
        simp
      · go_wp2_with fail
        refine (HMN.out).mono ?_
        rintro e w1 ⟨rfl, hb1⟩
        have hB1 : Below w.heap.size w w1 := hB.trans (hb1.mono hbw)
        have hz2 : (((c : Int) + 1 - 1 + (mm : Int)) == 0) = false := by simp; omega
        have hz3 : (((c : Int) + (mm : Int)) == 0) = false := by simp; omega
        go_wp2
        go_roundw
        case rel => exact ⟨q + 1, c + mm - 1, by go_num, by go_num, by omega, by omega, hB1, hid (by rw [← hE2.out, show c + mm - 1 + 1 = c + mm by omega]; omega)⟩
        case measure => simp [intOf]; omega
    · go_wp2
      go_ret
      refine ⟨ret_int ?_, hB⟩
      rw [← hE.out, List.drop_eq_nil_of_le (by omega), E.eat]
      simp
      omega

theorem rend_out (l : List E.Pt) (v : Value) (i : Int) (hi : ¬ (0 ≤ i ∧ i < l.length)) (w : World) (hx : RdP w w.heap.size v l) :
    Calls Try.prog 27 #[v, .int .i64 i] w fun e w' => e = .returned (.int .i64 (-1)) ∧ w = w' := by
  obtain ⟨A, cap, rfl, _⟩ := hx
  by_cases h0 : i < 0
  · go_enter Try.func27, Try.ntmps27
    go_wp2
    go_ret
    exact ⟨rfl, rfl⟩
  · have h2 : (l.length : Int) ≤ i := by omega
    go_enter Try.func27, Try.ntmps27
    go_wp2
    go_ret
    exact ⟨rfl, rfl⟩

set_option maxHeartbeats 4000000 in
set_option maxRecDepth 100000 in
theorem rkids_any (l : List E.Pt) (hF : FewP l) (hR : ∀ x ∈ l, E.many x = E.manyR x) (v : Value) (p : Nat) (hp : p < l.length) (w : World) (hx : RdP w w.heap.size v l) :
    Calls Try.prog 48 #[v, .int .i64 p] w fun e w' => ∃ v', e = .returned v' ∧ OwnI w.heap.size v' (E.kidsL l (E.many l[p]).toNat (p + 1)) w' ∧ Below w.heap.size w w' := by
  obtain ⟨i0, hi, hz0, hz1, hz2⟩ := info_parts infoInt
  have HX := hid hx
  have HF := hid hF
  have HR := hid hR
  obtain ⟨A, cap, rfl, hl1, hl2, -⟩ := hx
  unfold maxLen at hl2
  obtain ⟨hl, hM⟩ := hF
  have hm := hM _ (List.getElem_mem hp)
  have HAT := hid (fun wr (hB : Below w.heap.size w wr) => HX.out.at hB hp)
  have HMA := hid (fun vt vu wr => rmany_any l[p] vt vu (hR _ (List.getElem_mem hp)) ⟨hm.2.2.1, hm.2.2.2⟩ wr)
  clear hM hR
  generalize l[p] = X at *
  obtain ⟨c, hc⟩ : ∃ c : Nat, E.many X = c := ⟨(E.many X).toNat, by omega⟩
  rw [hc] at hm HMA ⊢
  rw [Int.toNat_natCast]
  have hc60 : c ≤ 60 := by omega
  obtain ⟨k1, s1, s2, s3, n1, n2, t1, t2⟩ := X
  unfold partV at HMA
  simp only at HAT HMA
  clear hm hc
  have hd : decide (l.length ≤ p) = false := by simp; omega
  go_enter Try.func48, Try.ntmps48
  go_wp2
  go_loopw [5, 6, 7] (fun vl va vk wr => ∃ (k q : Nat) (acc : List Nat), va = .int .i64 q ∧ vk = .int .i64 k ∧ k ≤ c ∧ q ≤ l.length ∧ acc.length = k ∧ OwnI w.heap.size vl acc wr ∧ Below w.heap.size w wr ∧ Hid (acc ++ E.kidsL l (c - k) q = E.kidsL l c (p + 1))) (fun _ _ vk _ => c - (intOf vk).toNat)
  case atStart => exact ⟨0, p + 1, [], by go_num, rfl, by omega, by omega, rfl, World.ownsRow_made w #[] 0 (Nat.le_refl _) (Nat.zero_le _) (by simp), below_new _, hid rfl⟩
  case round =>
    obtain ⟨k, q, acc, rfl, rfl, hk, hq, hal, hO, hB, hE⟩ := hrel
    obtain ⟨b, o, vt, vu, rfl, hb, x0, x1, x2, x3, x4, x5, x6, x7, -, -⟩ := HAT.out wr hB
    have HMN := hid (HMA.out vt vu wr)
    have hbw := hB.size
    by_cases hkc : k < c
    · by_cases hlt : q < l.length
      · go_wp2_with fail
        refine (HMN.out).mono ?_
        rintro e w1 ⟨rfl, hb1⟩
        have hB1 : Below w.heap.size w w1 := hB.trans (hb1.mono hbw)
        have hO1 : w1.ownsRow w.heap.size 3 1 u5 acc.length (cellsI acc) := OwnI.below hO hb1
        have hE2 : Hid (acc ++ [q] ++ E.kidsL l (c - (k + 1)) (q + E.eat 1 (l.drop q)) = E.kidsL l c (p + 1)) := hid (by
          rw [← hE.out, show c - k = (c - (k + 1)) + 1 by omega, E.kidsL, if_pos hlt]
          simp)
        clear x0 x1 x2 x3 x4 x5 x6 x7 hO hb1
        go_wp2_with (at_builtin; refine wpList_append_own _ rfl _ _ 60 rfl w.heap.size 3 i0 (.int .i64 0) 1 8 Try.underlying60 hi hz0 hz1 hz2 rfl (by decide) _ _ _ rfl (World.ownsRow.alloc hO1 _) ⟨w1.heap.size, 0, none⟩ 1 1 [.int .i64 q] rfl rfl ?c1 ?c2 ?c3 ?c4 ?c5 ?_)
        case c1 => intro j u hj; match j, hj with | 0, hj => simp at hj; subst hj; simp [Addr.add]
        case c2 => intro u hu; simp at hu; subst hu; rfl
        case c3 => unfold maxLen; omega
        case c4 => omega
        case c5 => have := hB1.size; simp; omega
        intro v' w2 hown hgrow _
        have hB2 : Below w.heap.size w w2 := (hB1.alloc hB1.size _).grown hgrow (by have := hB1.size; simp; omega) (fun k hk => (World.ownsRow.lt hO1 k hk).1)
        rw [← hal] at hown
        have hO2 := OwnI.snoc q hown
        have HEnd := hid (rend_any l HF.out HR.out _ q hlt w2 (HX.out.below hB2))
        clear hown hgrow hO1 hB1
        go_wp2_with fail
        refine (HEnd.out).mono ?_
        rintro e w3 ⟨rfl, hb3⟩
        have he := E.eat_le 1 (l.drop q)
        rw [List.length_drop] at he
        go_wp2
        go_roundw
        case rel => exact ⟨k + 1, q + E.eat 1 (l.drop q), acc ++ [q], rfl, by go_num, by omega, by omega, by simp [hal], hO2.below hb3, hB2.trans (hb3.mono hB2.size), hE2⟩
        case measure => simp [intOf]; omega
      · obtain rfl : q = l.length := by omega
        go_wp2_with fail
        refine (HMN.out).mono ?_
        rintro e w1 ⟨rfl, hb1⟩
        go_wp2
        go_ret
        refine ⟨_, rfl, ?_, hB.trans (hb1.mono hbw)⟩
        rw [← hE.out, show c - k = (c - (k + 1)) + 1 by omega, E.kidsL, if_neg (by omega), List.append_nil]
        exact OwnI.below hO hb1
    · obtain rfl : k = c := by omega
      go_wp2_with fail
      refine (HMN.out).mono ?_
      rintro e w1 ⟨rfl, hb1⟩
      go_wp2
      go_ret
      refine ⟨_, rfl, ?_, hB.trans (hb1.mono hbw)⟩
      rw [← hE.out, Nat.sub_self, E.kidsL, List.append_nil]
      exact OwnI.below hO hb1

end Go.Proofs.Ytmcdggjcpfkchaa
end
