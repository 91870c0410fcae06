/-
  The texts AsQ4, AsQ5, AsQ6, one behind the other. Conditions: those that each of them names.
-/
import Derived.Test.YthbieinbpfjgkaaGreatDoorMA10
import Derived.Test.YthbieinbpfjgkaaGreatDoorMA9
import Derived.Test.YthbieinbpfjgkaaGreatDoorMA6
import Derived.Test.YthbieinbpfjgkaaGreatDoorMX1
import Derived.Deep.CutRange
section
/-
  What the closure of ast.Print stands on: the boxes, the builder; what it leaves as it was. No conditions but those that each lemma names.
-/
namespace Go.Proofs.YthbieinbpfjgkaaGreatDoor.Q
open Go.RowKit

/-- The builder of the call's own, in block P, holds these bytes. -/
def Bd (P : Nat) (acc : List UInt8) (w : World) : Prop := Lib.IsBuilderF 54 5 P P (Lib.byteCells acc) w
/-- What the builder's writers leave as it was. -/
def Kp (P : Nat) (w w' : World) : Prop := Below P w w' ∧ Lib.OthersKept 5 (some P) w w'

theorem Kp.refl (P : Nat) (w : World) : Kp P w w := ⟨Below.refl _ _, Lib.OthersKept.refl _ _ _⟩
theorem Kp.trans {P : Nat} {a b c : World} (h : Kp P a b) (k : Kp P b c) : Kp P a c := ⟨h.1.trans k.1, h.2.trans k.2⟩
theorem Bd.lt {P : Nat} {acc : List UInt8} {w : World} (h : Bd P acc w) : P < w.heap.size := by
  rcases h with h | h
  · exact h.lt
  · exact h.lt

theorem Bd.below {P : Nat} {acc : List UInt8} {w w' : World} (h : Bd P acc w) (hb : Below w.heap.size w w') : Bd P acc w' := by
  have key : ∀ p, Lib.BuilderAtF 54 5 P P p (Lib.byteCells acc) w → Lib.BuilderAtF 54 5 P P p (Lib.byteCells acc) w' := fun p ⟨hB, v, hbk, hown, hne⟩ => by
    refine ⟨hB, v, (hb.block _ (heap_lt hbk)).trans hbk, ⟨hown.1, ?_⟩, hne⟩
    rcases hown.2 with h0 | ⟨g, cap, cur, fz, h1, h2, h3, h4⟩
    · exact Or.inl h0
    · exact Or.inr ⟨g, cap, cur, fz, h1, h2, (hb.block _ (heap_lt h3)).trans h3, h4⟩
  rcases h with h | h
  · exact Or.inl (key _ h)
  · exact Or.inr (key _ h)

theorem Kp.of_below {P : Nat} {w w' : World} (h : Below w.heap.size w w') (hP : P ≤ w.heap.size) : Kp P w w' := ⟨h.mono hP, fun k _ hk _ _ => (h.block k (heap_lt hk)).trans hk⟩

theorem write_any {P : Nat} {acc : List UInt8} {w : World} (h : Bd P acc w) (s : ByteArray) (hl : acc.length + s.size ≤ 9000200) :
    Calls Tryz.prog 43 #[.pointer (some ⟨P, 0, none⟩), .string s] w fun e w' => e = .returned (.tuple #[.int .i64 s.size, .nilIface]) ∧ Bd P (acc ++ s.data.toList) w' ∧ Kp P w w' := by
  refine (X.writeString P P _ s w h (by rw [Lib.byteCells_length]; omega) (Nat.le_of_lt h.lt)).mono ?_
  rintro e w' ⟨rfl, h2, b2, k2⟩
  refine ⟨rfl, ?_, b2, k2⟩
  unfold Bd
  rw [Lib.byteCells_append, ← Lib.strCells_eq]
  exact Or.inr h2

theorem Bd.setA {P A : Nat} {acc : List UInt8} {w : World} (h : Bd P acc w) {cs : Array Value} (ha : w.heap[A]? = some (.cells cs 3 (0, 0))) (hne : P ≠ A) (v : Value) : Bd P acc (w.setCell ⟨A, 0, none⟩ v) := by
  have key : ∀ p, Lib.BuilderAtF 54 5 P P p (Lib.byteCells acc) w → Lib.BuilderAtF 54 5 P P p (Lib.byteCells acc) (w.setCell ⟨A, 0, none⟩ v) := fun p ⟨hB, u, hbk, hown, hn⟩ => by
    refine ⟨hB, u, (heap_setCell_other w ⟨A, 0, none⟩ P v hne).trans hbk, ⟨hown.1, ?_⟩, hn⟩
    rcases hown.2 with h0 | ⟨g, cap, cur, fz, h1, h2, h3, h4⟩
    · exact Or.inl h0
    · refine Or.inr ⟨g, cap, cur, fz, h1, h2, (heap_setCell_other w ⟨A, 0, none⟩ g v ?_).trans h3, h4⟩
      rintro rfl
      rw [ha] at h3
      injection h3 with h3
      injection h3 with _ h5
      exact absurd h5 (by decide)
  rcases h with h | h
  · exact Or.inl (key _ h)
  · exact Or.inr (key _ h)

/-- What the closure and all that it calls leave as it was: but for the builder, the place, and rows of bytes. -/
def KA (P A : Nat) (w w' : World) : Prop := Below P w w' ∧ ∀ k o, w.heap[k]? = some o → k ≠ P → k ≠ A → (∀ c fz, o ≠ .cells c 5 fz) → w'.heap[k]? = some o

theorem KA.refl (P A : Nat) (w : World) : KA P A w w := ⟨Below.refl _ _, fun _ _ h _ _ _ => h⟩
theorem KA.trans {P A : Nat} {a b c : World} (h : KA P A a b) (k : KA P A b c) : KA P A a c :=
  ⟨h.1.trans k.1, fun i o hi h1 h2 h3 => k.2 i o (h.2 i o hi h1 h2 h3) h1 h2 h3⟩
theorem KA.of_kp {P A : Nat} {w w' : World} (h : Kp P w w') : KA P A w w' := ⟨h.1, fun k o hk h1 _ h3 => h.2 k o hk (by simpa using h1) h3⟩
theorem KA.of_below {P A : Nat} {w w' : World} (h : Below w.heap.size w w') (hP : P ≤ w.heap.size) : KA P A w w' := .of_kp (Kp.of_below h hP)
theorem KA.set {P A : Nat} {w : World} (hPA : P ≤ A) (v : Value) : KA P A w (w.setCell ⟨A, 0, none⟩ v) :=
  ⟨(Below.refl _ _).setCell (p := ⟨A, 0, none⟩) hPA v, fun k _ hk _ h2 _ => (heap_setCell_other w ⟨A, 0, none⟩ k v h2).trans hk⟩

/-- What the closure stands on. -/
structure QSt (l : List E.Pt) (v : Value) (T p : Nat) (acc : List UInt8) (w : World) : Prop where
  t : w.heap[T]? = some (.cells #[v] 23 (0, 0))
  bd : Bd (T + 1) acc w
  a : w.heap[T + 2]? = some (.cells #[.int .i64 p] 3 (0, 0))
  f : w.heap[T + 3]? = some (.cells #[.func (.func 42) #[] #[.pointer (some ⟨T, 0, none⟩), .pointer (some ⟨T + 2, 0, none⟩), .pointer (some ⟨T + 1, 0, none⟩), .pointer (some ⟨T + 3, 0, none⟩)]] 1 (0, 0))
  rd : RdP w T v l
  tab : Tab w
  kt : KTab w
  two : 2 < T

theorem QSt.keep {l : List E.Pt} {v : Value} {T p q : Nat} {acc acc' : List UInt8} {w w' : World} (h : QSt l v T p acc w) (hk : KA (T + 1) (T + 2) w w') (ha : w'.heap[T + 2]? = some (.cells #[.int .i64 q] 3 (0, 0))) (hb : Bd (T + 1) acc' w') : QSt l v T q acc' w' :=
  have h2 := h.two
  ⟨(hk.1.block T (by omega)).trans h.t, hb, ha, hk.2 _ _ h.f (by omega) (by omega) (by intro c fz he; injection he with _ h2; exact absurd h2 (by decide)),
    h.rd.low (hk.1.mono (by omega)) (fun hr => hr.low (hk.1.mono (by omega))), h.tab.below hk.1 (by omega), h.kt.below hk.1 (by omega), h.two⟩

/-- Where the place is left alone. -/
theorem QSt.stay {l : List E.Pt} {v : Value} {T p : Nat} {acc acc' : List UInt8} {w w' : World} (h : QSt l v T p acc w) (hk : Kp (T + 1) w w') (hb : Bd (T + 1) acc' w') : QSt l v T p acc' w' :=
  h.keep (.of_kp hk) (hk.2 _ _ h.a (by simp) (by intro c fz he; injection he with _ h2; exact absurd h2 (by decide))) hb

theorem QSt.low {l : List E.Pt} {v : Value} {T p : Nat} {acc : List UInt8} {w w' : World} (h : QSt l v T p acc w) (hb : Below w.heap.size w w') : QSt l v T p acc w' :=
  h.stay (Kp.of_below hb (Nat.le_of_lt h.bd.lt)) (h.bd.below hb)

theorem QSt.place {l : List E.Pt} {v : Value} {T p : Nat} {acc : List UInt8} {w : World} (h : QSt l v T p acc w) (q : Nat) (z : Value) (hz : z = .int .i64 q) : QSt l v T q acc (w.setCell ⟨T + 2, 0, none⟩ z) := by
  subst hz
  exact h.keep (KA.set (by omega) _) (heap_setCell_same w (T + 2) 0 _ _ _ h.a) (h.bd.setA h.a (by omega) _)

theorem QSt.nest {l : List E.Pt} {v : Value} {T p : Nat} {acc : List UInt8} {w : World} (h : QSt l v T p acc w) : T < w.heap.size ∧ T + 1 < w.heap.size ∧ T + 2 < w.heap.size ∧ T + 3 < w.heap.size := ⟨heap_lt h.t, h.bd.lt, heap_lt h.a, heap_lt h.f⟩

theorem KA.part {T : Nat} {w w' : World} (hk : KA (T + 1) (T + 2) w w') {N : Nat} {cs : Array Value} (h : w.heap[N]? = some (.cells cs 39 (0, 0))) (hN : T + 3 < N) : w'.heap[N]? = some (.cells cs 39 (0, 0)) :=
  hk.2 N _ h (by omega) (by omega) (by intro c fz he; injection he with _ h3; exact absurd h3 (by decide))

end Go.Proofs.YthbieinbpfjgkaaGreatDoor.Q
end

section
/-
  The walk of the closure of ast.Print. Conditions: a row of trees of sound parts, each with as many children as it says, at most 10000 parts; the print has at most 9000000 bytes; names of at most 200 bytes, types of at most 60 nodes.
-/
namespace Go.Proofs.YthbieinbpfjgkaaGreatDoor.Q
open Go.RowKit Go.Sort

set_option maxHeartbeats 8000000 in
set_option maxRecDepth 100000 in
theorem pvisit_any (l : List E.Pt) (hpr : ∀ x ∈ l, E.Pr1 x) (hln : l.length ≤ 10000) (v : Value) (T : Nat) (M : Nat) :
    ∀ (x : E.Pt) (ks : E.Fo), ks.flat.length < M → (E.Fo.cons x ks .nil).fit → ∀ (rest : List E.Pt) (p : Nat) (acc : List UInt8) (w : World), l.drop p = x :: (ks.flat ++ rest) → QSt l v T p acc w →
    acc.length + (E.prT x ks).length ≤ 9000000 →
    Calls Tryz.prog 42 #[.pointer (some ⟨T, 0, none⟩), .pointer (some ⟨T + 2, 0, none⟩), .pointer (some ⟨T + 1, 0, none⟩), .pointer (some ⟨T + 3, 0, none⟩)] w fun e w' =>
      e = .returned (.tuple #[]) ∧ QSt l v T (p + 1 + ks.flat.length) (acc ++ E.prT x ks) w' ∧ KA (T + 1) (T + 2) w w' := by
  induction M with
  | zero => intro x ks h; omega
  | succ M ih =>
    intro x ks hM hfit rest p acc w hdr hS hac
    have hp : p < l.length := by
      rcases Nat.lt_or_ge p l.length with h | h
      · exact h
      · rw [List.drop_eq_nil_of_le h] at hdr; cases hdr
    have hxp : l[p] = x := by
      have := List.drop_eq_getElem_cons hp
      rw [hdr] at this
      injection this with h1 _
      exact h1.symm
    have hdr1 : l.drop (p + 1) = ks.flat ++ rest := by
      have := List.drop_eq_getElem_cons hp
      rw [hdr] at this
      injection this with _ h2
      exact h2.symm
    obtain ⟨hmany, hfk, -⟩ := hfit
    have hlen : p + 1 + ks.flat.length ≤ l.length := by
      have := congrArg List.length hdr
      simp at this
      omega
    have hx := hpr _ (List.getElem_mem hp)
    rw [hxp] at hx
    have IH := hid ih
    have HS := hid hS
    have HPR := hid hpr
    have HDR := hid hdr1
    have HFK := hid hfk
    obtain ⟨A0, cap, rfl, hl1, hl2, hcx⟩ := hS.rd
    obtain ⟨b, o, rfl, hb, hcy⟩ := hcx (by rintro rfl; simp at hp)
    clear hcx
    have hcx := hcy
    clear hcy
    obtain ⟨vt, vu, x0, x1, x2, x3, x4, x5, x6, x7, ht, hu⟩ := hcx p hp
    obtain ⟨A1, c1, rfl⟩ : ∃ A1 c1, vt = .slice A1 x.t.length c1 := by obtain ⟨A1, c1, h, -⟩ := ht; exact ⟨A1, c1, by rw [h, hxp]⟩
    obtain ⟨A2, c2, rfl⟩ : ∃ A2 c2, vu = .slice A2 x.u.length c2 := by obtain ⟨A2, c2, h, -⟩ := hu; exact ⟨A2, c2, by rw [h, hxp]⟩
    rw [hxp] at ht hu
    have hmx : -1000000 ≤ x.many ∧ x.many ≤ 1000000 := E.many_bound hx.so
    have cT := Lib.cell_of_heap hS.t 0
    have cA := Lib.cell_of_heap hS.a 0
    unfold maxLen at hl2
    obtain ⟨y0, y1, y2, y3⟩ := hS.nest
    have fA : w.frozen? ⟨T + 2, 0, none⟩ = false := Lib.frozen_of_heap hS.a 0
    rw [hxp] at x0 x1 x2 x3 x4 x5
    -- what the helpers tell, in every later world
    have HF := hid (fun (W : World) (hW : Below (T + 1) w W) (hT : Tab W) => first_any x hx A1 A2 c1 c2 W hT (ht.low (hW.mono (by omega))).size (hu.low (hW.mono (by omega))).size)
    have HLa := hid (fun (W : World) (hW : Below (T + 1) w W) (hT : Tab W) => last_any x hx A1 A2 c1 c2 W hT (ht.low (hW.mono (by omega))).size (hu.low (hW.mono (by omega))).size)
    have HBt := hid (fun (k : Nat) (hk : 0 < k ∧ k ≤ 1000) (W : World) => between_any x (E.kind_bound hx.so) hx.nm k hk (.slice A1 x.t.length c1) (.slice A2 x.u.length c2) W)
    have HM := hid (fun (w1 : World) (hT : KTab w1) => amany_any x (.slice A1 x.t.length c1) (.slice A2 x.u.length c2) hmx w1 hT)
    have hc60 := (E.many_of_sound hx.so).2
    clear hS hcx ht hu hpr ih hdr hdr1 hxp hfk hx hmx
    obtain ⟨c, hc⟩ : ∃ c : Nat, ks.count = c := ⟨_, rfl⟩
    rw [hmany, hc] at HM
    rw [hmany, hc] at hc60
    have HC := hid hc
    have HX : Hid (E.prT x ks = E.firstP x ++ (ks.pr x 0 ++ E.lastP x)) := hid rfl
    have hlT : (E.prT x ks).length = (E.firstP x).length + ((ks.pr x 0).length + (E.lastP x).length) := by rw [HX.out, List.length_append, List.length_append]
    clear hc hmany
    obtain ⟨k1, s1, s2, s3, n1, n2, t1, t2⟩ := x
    unfold partV at HF HLa HBt HM
    simp only at *
    obtain ⟨fP, hfP⟩ : ∃ fP, fP = E.firstP ⟨k1, s1, s2, s3, n1, n2, t1, t2⟩ := ⟨_, rfl⟩
    obtain ⟨lP, hlP⟩ : ∃ lP, lP = E.lastP ⟨k1, s1, s2, s3, n1, n2, t1, t2⟩ := ⟨_, rfl⟩
    rw [← hfP] at HF HX hlT
    rw [← hlP] at HLa HX hlT
    obtain ⟨tP, htP⟩ : ∃ tP, tP = E.prT ⟨k1, s1, s2, s3, n1, n2, t1, t2⟩ ks := ⟨_, rfl⟩
    rw [← htP] at hac HX hlT ⊢
    have HTP := hid htP
    clear hfP hlP htP
    obtain ⟨O, hO⟩ : ∃ O : Array Value, O = #[.int .i64 k1, .string s1, .string s2, .string s3, .int .i64 n1, .int .i64 n2, .slice A1 t1.length c1, .slice A2 t2.length c2] := ⟨_, rfl⟩
    obtain ⟨w1, hw1⟩ : ∃ w1, w1 = (w.setCell ⟨T + 2, 0, none⟩ (.int .i64 ((p : Int) + 1))).alloc (.cells O 39) := ⟨_, rfl⟩
    have S1 : Hid (QSt l (.slice (some ⟨b, o, none⟩) l.length cap) T (p + 1) acc w1) := hid (by rw [hw1]; exact (HS.out.place (p + 1) _ (by push_cast; rfl)).low (below_new _))
    have K1 : Hid (KA (T + 1) (T + 2) w w1) := hid (by rw [hw1]; exact (KA.set (by omega) _).trans (KA.of_below (below_new _) (by simp; omega)))
    have N1 : Hid (w1.heap[w.heap.size]? = some (.cells O 39 (0, 0))) := hid (by rw [hw1]; have := heap_alloc_new (w.setCell ⟨T + 2, 0, none⟩ (.int .i64 ((p : Int) + 1))) (.cells O 39); simpa using this)
    have z1 : w1.heap.size = w.heap.size + 1 := by rw [hw1]; simp
    subst hO
    have hne : w.heap.size ≠ T + 2 := by omega
    have hne2 : T + 2 ≠ w.heap.size := by omega
    go_enter Tryz.func42, Tryz.ntmps42
    go_upto_region 2 with fail
    rw [← hw1]
    clear hw1 hne hne2 fA cA cT x0 x1 x2 x3 x4 x5 x6 x7
    have cN0 := Lib.cell_of_heap N1.out 0
    have cN1 := Lib.cell_of_heap N1.out 1
    have cN2 := Lib.cell_of_heap N1.out 2
    have cN3 := Lib.cell_of_heap N1.out 3
    have cN4 := Lib.cell_of_heap N1.out 4
    have cN5 := Lib.cell_of_heap N1.out 5
    have cN6 := Lib.cell_of_heap N1.out 6
    have cN7 := Lib.cell_of_heap N1.out 7
    simp only [List.getElem?_toArray] at cN0 cN1 cN2 cN3 cN4 cN5 cN6 cN7

    have HF1 := hid (HF.out w1 K1.out.1 S1.out.tab)
    go_wp2_with fail
    refine (HF1.out).mono ?_
    rintro e w2 ⟨rfl, hb2⟩
    have S2 := hid (S1.out.low hb2)
    have K2 := hid (K1.out.trans (KA.of_below (P := T + 1) (A := T + 2) hb2 (by omega)))
    have N2 := hid ((hb2.block _ (heap_lt N1.out)).trans N1.out)
    have hfs : (⟨fP.toArray⟩ : ByteArray).size = fP.length := by show fP.toArray.size = fP.length; simp
    have HW2 := hid (write_any S2.out.bd ⟨fP.toArray⟩ (by omega))
    have z2 := hb2.size
    clear hb2 cN0 cN1 cN2 cN3 cN4 cN5 cN6 cN7
    go_wp2_with fail
    refine (HW2.out).mono ?_
    rintro e w3 ⟨rfl, bd3, k3⟩
    have S3 : Hid (QSt l (.slice (some ⟨b, o, none⟩) l.length cap) T (p + 1) (acc ++ fP) w3) := hid (S2.out.stay k3 (by simpa using bd3))
    have K3 := hid (K2.out.trans (KA.of_kp (A := T + 2) k3))
    have N3 := hid ((KA.of_kp (A := T + 2) k3).part N2.out (by omega))
    have z3 := k3.1.size
    clear bd3 k3 HW2 hfs
    go_wp2
    go_loopw [5] (fun v5 wr => ∃ (k : Nat) (g : E.Fo) (q : Nat) (ac : List UInt8), v5 = .int .i64 k ∧ k + g.count = c ∧ q + g.flat.length = p + 1 + ks.flat.length ∧ g.flat.length ≤ ks.flat.length ∧ ac.length + ((g.pr ⟨k1, s1, s2, s3, n1, n2, t1, t2⟩ k).length + lP.length) ≤ 9000000 ∧ Hid (QSt l (.slice (some ⟨b, o, none⟩) l.length cap) T q ac wr) ∧ Hid (KA (T + 1) (T + 2) w wr) ∧
      Hid (wr.heap[w.heap.size]? = some (.cells #[.int .i64 k1, .string s1, .string s2, .string s3, .int .i64 n1, .int .i64 n2, .slice A1 t1.length c1, .slice A2 t2.length c2] 39 (0, 0))) ∧ Hid (l.drop q = g.flat ++ rest) ∧ Hid g.fit ∧ Hid (ac ++ (g.pr ⟨k1, s1, s2, s3, n1, n2, t1, t2⟩ k ++ lP) = acc ++ tP)) (fun v5 _ => c - (intOf v5).toNat)
    case atStart => exact ⟨0, ks, p + 1, _, rfl, by rw [HC.out]; omega, by omega, by omega, by rw [List.length_append]; omega, S3, K3, N3, HDR, HFK, hid (by rw [HX.out, List.append_assoc])⟩
    case round =>
      obtain ⟨k, g, q, ac, rfl, hkc, hqg, hgl, hal, S4, K4, N4, D4, F4, E4⟩ := hrel
      obtain ⟨z0', z1', z2', z3'⟩ := S4.out.nest
      have hw4 := K4.out.1.size
      have cT := Lib.cell_of_heap S4.out.t 0
      have cA := Lib.cell_of_heap S4.out.a 0
      have cN0 := Lib.cell_of_heap N4.out 0
      have cN1 := Lib.cell_of_heap N4.out 1
      have cN2 := Lib.cell_of_heap N4.out 2
      have cN3 := Lib.cell_of_heap N4.out 3
      have cN4 := Lib.cell_of_heap N4.out 4
      have cN5 := Lib.cell_of_heap N4.out 5
      have cN6 := Lib.cell_of_heap N4.out 6
      have cN7 := Lib.cell_of_heap N4.out 7
      simp only [List.getElem?_toArray] at cN0 cN1 cN2 cN3 cN4 cN5 cN6 cN7
      simp only [List.getElem?_toArray] at cT cA
      have hKT := hid (HM.out wr S4.out.kt)
      cases g with
      | nil =>
        obtain rfl : k = c := by simpa [E.Fo.count] using hkc
        have hq : q = p + 1 + ks.flat.length := by simpa [E.Fo.flat] using hqg
        have HQ := hid hq
        have hal2 : ac.length + lP.length ≤ 9000000 := by simpa [E.Fo.pr] using hal
        have HE5 : Hid (ac ++ lP = acc ++ tP) := hid (by have := E4.out; simpa [E.Fo.pr] using this)
        clear hq hqg hal hkc
        go_wp2_with fail
        refine (hKT.out).mono ?_
        rintro e w5 ⟨rfl, hb5⟩
        have S5 := hid (S4.out.low hb5)
        have K5 := hid (K4.out.trans (KA.of_below (P := T + 1) (A := T + 2) hb5 (by omega)))
        have N5 := hid ((hb5.block _ (heap_lt N4.out)).trans N4.out)
        clear hb5 cN0 cN1 cN2 cN3 cN4 cN5 cN6 cN7 cT cA
        have cN0 := Lib.cell_of_heap N5.out 0
        have cN1 := Lib.cell_of_heap N5.out 1
        have cN2 := Lib.cell_of_heap N5.out 2
        have cN3 := Lib.cell_of_heap N5.out 3
        have cN4 := Lib.cell_of_heap N5.out 4
        have cN5 := Lib.cell_of_heap N5.out 5
        have cN6 := Lib.cell_of_heap N5.out 6
        have cN7 := Lib.cell_of_heap N5.out 7
        simp only [List.getElem?_toArray] at cN0 cN1 cN2 cN3 cN4 cN5 cN6 cN7

        have HL5 := hid (HLa.out w5 K5.out.1 S5.out.tab)
        go_wp2_with fail
        refine (HL5.out).mono ?_
        rintro e w6 ⟨rfl, hb6⟩
        have S6 := hid (S5.out.low hb6)
        have hz5 := S5.out.nest
        have K6 := hid (K5.out.trans (KA.of_below (P := T + 1) (A := T + 2) hb6 (by omega)))
        have hls : (⟨lP.toArray⟩ : ByteArray).size = lP.length := by show lP.toArray.size = lP.length; simp
        have HW6 := hid (write_any S6.out.bd ⟨lP.toArray⟩ (by omega))
        clear hb6 cN0 cN1 cN2 cN3 cN4 cN5 cN6 cN7
        go_wp2_with fail
        refine (HW6.out).mono ?_
        rintro e w7 ⟨rfl, bd7, k7⟩
        go_wp2
        go_end0
        refine ⟨rfl, ?_, K6.out.trans (KA.of_kp k7)⟩
        rw [← HE5.out, ← HQ.out]
        exact S6.out.stay k7 (by simpa using bd7)
      | cons y kk r =>
        have hkc2 : k + (r.count + 1) = c := hkc
        have hflat : (E.Fo.cons y kk r).flat.length = kk.flat.length + r.flat.length + 1 := by simp [E.Fo.flat]
        rw [hflat] at hqg hgl
        have hql : q < l.length := by omega
        have hkk : (k : Int) < (c : Int) := by omega
        clear hkc hflat
        -- what stands ahead of the child
        obtain ⟨bP, hbP⟩ : ∃ bP, bP = if 0 < k then E.betwP ⟨k1, s1, s2, s3, n1, n2, t1, t2⟩ k else [] := ⟨_, rfl⟩
        obtain ⟨rP, hrP⟩ : ∃ rP, rP = if k1 = 10 then y.label.data.toList ++ [32, 61, 32] else [] := ⟨_, rfl⟩
        have hpe : (E.Fo.cons y kk r).pr ⟨k1, s1, s2, s3, n1, n2, t1, t2⟩ k = (bP ++ rP) ++ (E.prT y kk ++ r.pr ⟨k1, s1, s2, s3, n1, n2, t1, t2⟩ (k + 1)) := by rw [E.Fo.pr_cons, hbP, hrP]
        have hal2 : ac.length + (bP.length + rP.length + ((E.prT y kk).length + (r.pr ⟨k1, s1, s2, s3, n1, n2, t1, t2⟩ (k + 1)).length) + lP.length) ≤ 9000000 := by
          have := congrArg List.length hpe
          simp only [List.length_append] at this
          omega
        have HE5 : Hid ((((ac ++ bP) ++ rP) ++ E.prT y kk) ++ (r.pr ⟨k1, s1, s2, s3, n1, n2, t1, t2⟩ (k + 1) ++ lP) = acc ++ tP) := hid (by rw [← E4.out, hpe]; simp only [List.append_assoc])
        have HBP := hid hbP
        have HRP := hid hrP
        clear hbP hrP hpe hal E4
        go_wp2_with fail
        refine (hKT.out).mono ?_
        rintro e w5 ⟨rfl, hb5⟩
        have S5 := hid (S4.out.low hb5)
        have K5 := hid (K4.out.trans (KA.of_below (P := T + 1) (A := T + 2) hb5 (by omega)))
        have N5 := hid ((hb5.block _ (heap_lt N4.out)).trans N4.out)
        have hz5 := hb5.size
        have hn5 := heap_lt N5.out
        clear hb5 cN0 cN1 cN2 cN3 cN4 cN5 cN6 cN7 cT cA S4 K4 N4 hKT
        have cN0 := Lib.cell_of_heap N5.out 0
        have cN1 := Lib.cell_of_heap N5.out 1
        have cN2 := Lib.cell_of_heap N5.out 2
        have cN3 := Lib.cell_of_heap N5.out 3
        have cN4 := Lib.cell_of_heap N5.out 4
        have cN5 := Lib.cell_of_heap N5.out 5
        have cN6 := Lib.cell_of_heap N5.out 6
        have cN7 := Lib.cell_of_heap N5.out 7
        simp only [List.getElem?_toArray] at cN0 cN1 cN2 cN3 cN4 cN5 cN6 cN7
        have dT := Lib.cell_of_heap S5.out.t 0
        have dA := Lib.cell_of_heap S5.out.a 0
        simp only [List.getElem?_toArray] at dT dA
        go_upto_if 28 with fail
        go_cut [] from 15 to 44 (fun wx => Hid (QSt l (.slice (some ⟨b, o, none⟩) l.length cap) T q (ac ++ bP) wx) ∧ Hid (KA (T + 1) (T + 2) w wx) ∧ Hid (wx.heap[w.heap.size]? = some (.cells #[.int .i64 k1, .string s1, .string s2, .string s3, .int .i64 n1, .int .i64 n2, .slice A1 t1.length c1, .slice A2 t2.length c2] 39 (0, 0))) ∧ w.heap.size < wx.heap.size)
        case first =>
          by_cases hk0 : 0 < k
          · have hkp : (0 : Int) < (k : Int) := by omega
            have hbq : bP = E.betwP ⟨k1, s1, s2, s3, n1, n2, t1, t2⟩ k := by rw [HBP.out, if_pos hk0]
            have HB6 := hid (HBt.out k ⟨hk0, by omega⟩ w5)
            rw [← hbq] at HB6
            clear hbq hk0
            go_wp2_with fail
            refine (HB6.out).mono ?_
            rintro e w6 ⟨rfl, hb6⟩
            have S6 := hid (S5.out.low hb6)
            have K6 := hid (K5.out.trans (KA.of_below (P := T + 1) (A := T + 2) hb6 (by omega)))
            have N6 := hid ((hb6.block _ (heap_lt N5.out)).trans N5.out)
            have hbs : (⟨bP.toArray⟩ : ByteArray).size = bP.length := by show bP.toArray.size = bP.length; simp
            have HW6 := hid (write_any S6.out.bd ⟨bP.toArray⟩ (by omega))
            have z6 := hb6.size
            clear hb6 cN0 cN1 cN2 cN3 cN4 cN5 cN6 cN7 dT dA
            go_wp2_with fail
            refine (HW6.out).mono ?_
            rintro e w7 ⟨rfl, bd7, k7⟩
            have S7 : Hid (QSt l (.slice (some ⟨b, o, none⟩) l.length cap) T q (ac ++ bP) w7) := hid (S6.out.stay k7 (by simpa using bd7))
            have K7 := hid (K6.out.trans (KA.of_kp (A := T + 2) k7))
            have N7 := hid ((KA.of_kp (A := T + 2) k7).part N6.out (by omega))
            have z7 := k7.1.size
            clear bd7 k7
            go_wp2
            go_meet
            exact ⟨S7, K7, N7, by omega⟩
          · have hbq : bP = [] := by rw [HBP.out, if_neg hk0]
            have hk00 : k = 0 := by omega
            have hkp : ¬ (0 : Int) < (k : Int) := by omega
            have S7 : Hid (QSt l (.slice (some ⟨b, o, none⟩) l.length cap) T q (ac ++ bP) w5) := hid (by rw [hbq, List.append_nil]; exact S5.out)
            clear hbq hk0 hk00
            go_wp2
            go_meet
            exact ⟨S7, K5, N5, by omega⟩
        case rest =>
        obtain ⟨S6, K6, N6, z6⟩ := hcut
        clear cN0 cN1 cN2 cN3 cN4 cN5 cN6 cN7 dT dA S5 K5 N5
        have cN0 := Lib.cell_of_heap N6.out 0
        have dT := Lib.cell_of_heap S6.out.t 0
        have dA := Lib.cell_of_heap S6.out.a 0
        simp only [List.getElem?_toArray] at cN0 dT dA
        go_upto_if 35 with fail
        go_cut [] from 15 to 44 (fun wx => Hid (QSt l (.slice (some ⟨b, o, none⟩) l.length cap) T q ((ac ++ bP) ++ rP) wx) ∧ Hid (KA (T + 1) (T + 2) w wx) ∧ w.heap.size < wx.heap.size ∧ Hid (wx.heap[w.heap.size]? = some (.cells #[.int .i64 k1, .string s1, .string s2, .string s3, .int .i64 n1, .int .i64 n2, .slice A1 t1.length c1, .slice A2 t2.length c2] 39 (0, 0))))
        case first =>
          by_cases h10 : k1 = 10
          · have hrq : rP = y.label.data.toList ++ [32, 61, 32] := by rw [HRP.out, if_pos h10]
            have h10b : (k1 == 10) = true := by simpa using h10
            have hyq : l[q] = y := by
              have h := List.drop_eq_getElem_cons hql
              rw [D4.out] at h
              simp only [E.Fo.flat, List.cons_append, List.cons.injEq] at h
              exact h.1.symm
            have hyl : y.label.size ≤ 200 := by rw [← hyq]; exact (HPR.out _ (List.getElem_mem hql)).lb
            obtain ⟨A', cp', hv', -, -, hcz⟩ := S6.out.rd
            simp only [Value.slice.injEq, true_and] at hv'
            obtain ⟨rfl, rfl⟩ := hv'
            obtain ⟨b', o', hbo, hb', hcz⟩ := hcz (by rintro rfl; simp at hql)
            simp only [Option.some.injEq, Addr.mk.injEq, and_true] at hbo
            obtain ⟨rfl, rfl⟩ := hbo
            obtain ⟨wt, wu, -, u1, -⟩ := hcz q hql
            rw [hyq] at u1
            have hys : (y.label ++ (⟨#[32, 61, 32]⟩ : ByteArray)).size = rP.length := by rw [hrq]; simp; rfl
            have HW6 := hid (write_any S6.out.bd (y.label ++ ⟨#[32, 61, 32]⟩) (by rw [hys, List.length_append]; omega))
            have HYE : Hid ((y.label ++ (⟨#[32, 61, 32]⟩ : ByteArray)).data.toList = rP) := hid (by rw [hrq]; simp)
            clear hcz hyq hrq h10 hys
            go_wp2_with fail
            refine (HW6.out).mono ?_
            rintro e w7 ⟨rfl, bd7, k7⟩
            have S7 : Hid (QSt l (.slice (some ⟨b, o, none⟩) l.length cap) T q ((ac ++ bP) ++ rP) w7) := hid (S6.out.stay k7 (by rw [HYE.out] at bd7; exact bd7))
            have K7 := hid (K6.out.trans (KA.of_kp (A := T + 2) k7))
            have N7 := hid ((KA.of_kp (A := T + 2) k7).part N6.out (by omega))
            have z7 := k7.1.size
            clear bd7 k7
            go_wp2
            go_meet
            exact ⟨S7, K7, by omega, N7⟩
          · have hrq : rP = [] := by rw [HRP.out, if_neg h10]
            have h10b : (k1 == 10) = false := beq_eq_false_iff_ne.2 h10
            have S7 : Hid (QSt l (.slice (some ⟨b, o, none⟩) l.length cap) T q ((ac ++ bP) ++ rP) wc) := hid (by rw [hrq, List.append_nil]; exact S6.out)
            clear hrq h10
            go_wp2
            go_meet
            exact ⟨S7, K6, by omega, N6⟩
        case rest =>
          obtain ⟨S8, K8, z8, N8⟩ := hcut
          clear cN0 dT dA S6 K6 N6
          have dV := Lib.cell_of_heap S8.out.f 0
          simp only [List.getElem?_toArray] at dV
          have hdq : l.drop q = y :: (kk.flat ++ (r.flat ++ rest)) := by rw [D4.out]; simp [E.Fo.flat]
          have hI := hid (IH.out y kk (by omega) ⟨F4.out.1, F4.out.2.1, trivial⟩ (r.flat ++ rest) q ((ac ++ bP) ++ rP) wc hdq S8.out (by rw [List.length_append, List.length_append]; omega))
          have HR : Hid (l.drop (q + 1 + kk.flat.length) = r.flat ++ rest) := hid (by
            have h := congrArg (List.drop (1 + kk.flat.length)) hdq
            rw [List.drop_drop] at h
            rw [show q + 1 + kk.flat.length = q + (1 + kk.flat.length) by omega, h, Nat.add_comm 1, List.drop_succ_cons, List.drop_left])
          have HFR : Hid r.fit := hid F4.out.2.2
          have hfl2 : Hid ((((ac ++ bP) ++ rP) ++ E.prT y kk).length + ((r.pr ⟨k1, s1, s2, s3, n1, n2, t1, t2⟩ (k + 1)).length + lP.length) ≤ 9000000) := hid (by rw [List.length_append, List.length_append, List.length_append]; omega)
          clear hdq
          go_wp2_with fail
          refine (hI.out).mono ?_
          rintro e w9 ⟨rfl, S9, K9⟩
          have hS9 := hid S9
          have hK9 := hid (K8.out.trans K9)
          have hN9 := hid (K9.part N8.out (by omega))
          clear S9 K9 dV
          go_wp2
          go_roundw
          case rel => exact ⟨k + 1, r, q + 1 + kk.flat.length, _, by go_num, by omega, by omega, by omega, hfl2.out, hS9, hK9, hN9, HR, HFR, HE5⟩
          case measure => simp [intOf]; omega

end Go.Proofs.YthbieinbpfjgkaaGreatDoor.Q
end

section
/-
  The walk of ast.Print. Conditions: a row of trees of sound parts, each with as many children as it says, at most 10000 parts; the print has at most 9000000 bytes; names of at most 200 bytes, types of at most 60 nodes; the tables.
-/
namespace Go.Proofs.YthbieinbpfjgkaaGreatDoor
open Go.RowKit Go.Sort

theorem four_new (w : World) (a b c d : Obj) : let W := (((w.alloc a).alloc b).alloc c).alloc d
    W.heap[w.heap.size]? = some a ∧ W.heap[w.heap.size + 1]? = some b ∧ W.heap[w.heap.size + 2]? = some c ∧ W.heap[w.heap.size + 3]? = some d ∧ Below w.heap.size w W ∧ W.heap.size = w.heap.size + 4 := by
  have h0 := heap_alloc_new w a
  have h1 := heap_alloc_new (w.alloc a) b
  have h2 := heap_alloc_new ((w.alloc a).alloc b) c
  have h3 := heap_alloc_new (((w.alloc a).alloc b).alloc c) d
  have s1 : (w.alloc a).heap.size = w.heap.size + 1 := by simp
  have s2 : ((w.alloc a).alloc b).heap.size = w.heap.size + 2 := by simp
  have s3 : (((w.alloc a).alloc b).alloc c).heap.size = w.heap.size + 3 := by simp
  rw [s1] at h1
  rw [s2] at h2
  rw [s3] at h3
  refine ⟨?_, ?_, ?_, h3, ?_, by simp⟩
  · rw [Lib.alloc_old _ _ _ (by omega), Lib.alloc_old _ _ _ (by omega), Lib.alloc_old _ _ _ (by omega)]; exact h0
  · rw [Lib.alloc_old _ _ _ (by omega), Lib.alloc_old _ _ _ (by omega)]; exact h1
  · rw [Lib.alloc_old _ _ _ (by omega)]; exact h2
  · exact ((((Below.refl w.heap.size w).alloc (Nat.le_refl _) a).alloc (by omega) b).alloc (by omega) c).alloc (by omega) d

set_option maxHeartbeats 8000000 in
set_option maxRecDepth 100000 in
theorem aprint_any (x : E.Pt) (ks : E.Fo) (hfit : (E.Fo.cons x ks .nil).fit) (hpr : ∀ y ∈ x :: ks.flat, E.Pr1 y) (hln : ks.flat.length + 1 ≤ 10000) (hac : (E.prT x ks).length ≤ 9000000) (v : Value) (w : World) (hx : RdP w w.heap.size v (x :: ks.flat)) (hK : KTab w) (hT : Tab w) :
    Calls Tryz.prog 21 #[v] w fun e w' => e = .returned (.string ⟨(E.prT x ks).toArray⟩) ∧ Below w.heap.size w w' := by
  have HX := hid hx
  have HK := hid hK
  have HT := hid hT
  have h2 := hT.size
  obtain ⟨l, hl⟩ : ∃ l, l = x :: ks.flat := ⟨_, rfl⟩
  rw [← hl] at hx HX hpr
  have hlen : l.length = ks.flat.length + 1 := by rw [hl]; rfl
  obtain ⟨A, cap, rfl, hl1, hl2, -⟩ := hx
  unfold maxLen at hl2
  have hfv := Q.pvisit_any l hpr (by omega) (.slice A l.length cap) w.heap.size (ks.flat.length + 1) x ks (by omega) hfit [] 0 []
  have HFV := hid hfv
  have HL := hid hl
  have hpos : 0 < l.length := by omega
  obtain ⟨F, hFe⟩ : ∃ F, F = E.prT x ks := ⟨_, rfl⟩
  rw [← hFe] at hac HFV ⊢
  clear hFe
  have HAC := hid hac
  obtain ⟨FN, hFN⟩ : ∃ FN, FN = Value.func (.func 42) #[] #[.pointer (some ⟨w.heap.size, 0, none⟩), .pointer (some ⟨w.heap.size + 2, 0, none⟩), .pointer (some ⟨w.heap.size + 1, 0, none⟩), .pointer (some ⟨w.heap.size + 3, 0, none⟩)] := ⟨_, rfl⟩
  have FOUR := four_new w (.cells #[.slice A l.length cap] 23) (.cells #[.pointer none, .slice none 0 0] 54) (.cells #[.int .i64 ((0 : Nat) : Int)] 3) (.cells #[FN] 1)
  obtain ⟨W, hW⟩ : ∃ W, W = (((w.alloc (.cells #[.slice A l.length cap] 23)).alloc (.cells #[.pointer none, .slice none 0 0] 54)).alloc (.cells #[.int .i64 ((0 : Nat) : Int)] 3)).alloc (.cells #[FN] 1) := ⟨_, rfl⟩
  simp only at FOUR
  rw [← hW] at FOUR
  obtain ⟨g0, g1, g2, g3, gB, gs⟩ := FOUR
  have HS : Hid (Q.QSt l (.slice A l.length cap) w.heap.size 0 [] W) := hid
    ⟨g0, Or.inl ⟨Nat.le_refl _, .slice none 0 0, g1, ⟨rfl, Or.inl ⟨rfl, rfl⟩⟩, by simp [Value.ownBlock]⟩, g2, by rw [g3, hFN], HX.out.low gB (fun h => h.low gB), HT.out.grows gB, HK.out.grows gB, h2⟩
  have HB := hid gB
  subst hFN
  subst hW
  clear g0 g1 g2 g3 gB hfv hpr hl hfit hlen hac hT hK
  go_enter Tryz.func21, Tryz.ntmps21
  go_wp2_with fail
  refine (HFV.out _ (by rw [HL.out, List.drop_zero, List.append_nil]) HS.out (by simpa using HAC.out)).mono ?_
  rintro e w6 ⟨rfl, S6, K6⟩
  rw [List.nil_append] at S6
  have hz6 := S6.nest
  have hz0 := K6.1.size
  have HST := hid (Tryz.Builder_String_any_f (w.heap.size + 1) (w.heap.size + 1) F w6 S6.bd (by omega))
  have HB6 : Hid (Below w.heap.size w w6) := hid (HB.out.trans (K6.1.mono (by omega)))
  clear S6 K6 HS HFV
  go_wp2_with fail
  refine (HST.out).mono ?_
  rintro e w7 ⟨rfl, -, hb7⟩
  go_wp2
  go_ret
  exact ⟨rfl, HB6.out.trans (hb7.mono (by omega))⟩

end Go.Proofs.YthbieinbpfjgkaaGreatDoor
end
