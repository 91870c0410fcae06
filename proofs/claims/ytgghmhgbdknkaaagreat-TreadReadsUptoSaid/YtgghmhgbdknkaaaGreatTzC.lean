/-
  What the reference's rows stand on: the boxed state, the result's variable, rows of labels and of types. No conditions but those that each lemma names.
-/
import Derived.Test.YtgghmhgbdknkaaaGreatTzB
import Derived.Test.YtgghmhgbdknkaaaGreatMR2
namespace Go.Proofs.YtgghmhgbdknkaaaGreat
open Go.RowKit

/-- The types of a row's items, with their values. -/
def itT (its : List It) : List (Value × List L.Nd) := its.map fun x => (x.1, x.2.2.flat)
theorem itT_len (its : List It) : (itT its).length = its.length := by simp [itT]

abbrev z4 : Array Value := #[.int .i64 0, .int .i64 0, .slice none 0 0, .int .i64 0]
abbrev st4 (p : Nat) (site : Int) (A : Option Addr) (n c : Nat) (er : Int) : Array Value := #[.int .i64 (p : Int), .int .i64 site, .slice A n c, .int .i64 er]

/-- The boxed state and the result's variable of a step that began in w0. -/
structure ZB (w0 : World) (p : Nat) (site : Int) (A : Option Addr) (n c : Nat) (er : Int) (w : World) : Prop where
  bel : Below w0.heap.size w0 w
  box : w.heap[w0.heap.size]? = some (.cells (st4 p site A n c er) 49 (0, 0))
  out : w.heap[w0.heap.size + 1]? = some (.cells z4 49 (0, 0))

theorem ZB.first (w0 : World) (p : Nat) (site : Int) (A : Option Addr) (n c : Nat) (er : Int) : ZB w0 p site A n c er ((w0.alloc (.cells (st4 p site A n c er) 49)).alloc (.cells z4 49)) := by
  refine ⟨(below_new _).trans ((below_new _).mono (by simp)), (heap_alloc_old _ _ (by simp)).trans (heap_alloc_new w0 _), ?_⟩
  have := heap_alloc_new (w0.alloc (.cells (st4 p site A n c er) 49)) (.cells z4 49)
  rw [show (w0.alloc (.cells (st4 p site A n c er) 49)).heap.size = w0.heap.size + 1 by simp] at this
  exact this

theorem ZB.below {w0 w w' : World} {p : Nat} {site : Int} {A : Option Addr} {n c : Nat} {er : Int} (h : ZB w0 p site A n c er w) (hb : Below w.heap.size w w') : ZB w0 p site A n c er w' :=
  ⟨h.bel.trans (hb.mono h.bel.size), (hb.block _ (heap_lt h.box)).trans h.box, (hb.block _ (heap_lt h.out)).trans h.out⟩

theorem ZB.grown {w0 w w' : World} {p : Nat} {site : Int} {A : Option Addr} {n c : Nat} {er : Int} {T2 : TypeId} {z k : Nat} {v : Value} {cs : List Value} (h : ZB w0 p site A n c er w) (ho : w.ownsRow (w0.heap.size + 2) T2 z v k cs) (hg : w.grownBy w' v.ownBlock) : ZB w0 p site A n c er w' := by
  have hb : ∀ k, v.ownBlock = some k → w0.heap.size + 2 ≤ k ∧ k < w.heap.size := ho.lt
  refine ⟨h.bel.grown hg h.bel.size (fun k hk => by have := (hb k hk).1; omega), (hg.block _ (heap_lt h.box) (fun e => by have := (hb _ e.symm).1; omega)).trans h.box, (hg.block _ (heap_lt h.out) (fun e => by have := (hb _ e.symm).1; omega)).trans h.out⟩

theorem ZB.cells {w0 w : World} {p : Nat} {site : Int} {A : Option Addr} {n c : Nat} {er : Int} (h : ZB w0 p site A n c er w) :
    (∀ j, w.cell? ⟨w0.heap.size, j, none⟩ = (st4 p site A n c er)[j]?) ∧ (∀ j, w.frozen? ⟨w0.heap.size, j, none⟩ = false) ∧ (∀ j, w.cell? ⟨w0.heap.size + 1, j, none⟩ = z4[j]?) ∧ (∀ j, w.frozen? ⟨w0.heap.size + 1, j, none⟩ = false) ∧ w0.heap.size + 1 < w.heap.size :=
  ⟨fun j => Lib.cell_of_heap h.box j, fun j => Lib.frozen_of_heap h.box j, fun j => Lib.cell_of_heap h.out j, fun j => Lib.frozen_of_heap h.out j, heap_lt h.out⟩

theorem ZB.next {w0 w : World} {p : Nat} {site : Int} {A : Option Addr} {n c : Nat} {er : Int} (h : ZB w0 p site A n c er w) (q : Nat) (x : Int) (hq : x = (q : Int)) :
    ZB w0 q site A n c er (w.setCell ⟨w0.heap.size, 0, none⟩ (.int .i64 x)) := by
  subst hq
  refine ⟨h.bel.setCell (p := ⟨w0.heap.size, 0, none⟩) (Nat.le_refl _) _, ?_, (heap_setCell_other w ⟨w0.heap.size, 0, none⟩ _ _ (by simp)).trans h.out⟩
  rw [heap_setCell_same w w0.heap.size 0 _ _ _ h.box]
  simp

/-- Four cells of one block are laid. -/
def put4 (w : World) (N : Nat) (a b c d : Value) : World := (((w.setCell ⟨N, 0, none⟩ a).setCell ⟨N, 1, none⟩ b).setCell ⟨N, 2, none⟩ c).setCell ⟨N, 3, none⟩ d
theorem put4_grown (w : World) (N : Nat) (a b c d : Value) : w.grownBy (put4 w N a b c d) (some N) :=
  grown_trans (grown_trans (grown_trans (grownBy_cell _ N 0 a) (grownBy_cell _ N 1 b)) (grownBy_cell _ N 2 c)) (grownBy_cell _ N 3 d)
theorem put4_heap {w : World} {N : Nat} {x0 x1 x2 x3 a b c d : Value} {T : TypeId} (h : w.heap[N]? = some (.cells #[x0, x1, x2, x3] T (0, 0))) : (put4 w N a b c d).heap[N]? = some (.cells #[a, b, c, d] T (0, 0)) := by
  unfold put4
  rw [heap_setCell_same _ N 3 _ _ _ (heap_setCell_same _ N 2 _ _ _ (heap_setCell_same _ N 1 _ _ _ (heap_setCell_same w N 0 _ _ _ h)))]
  simp

theorem ZB.put {w0 w : World} {p q : Nat} {site site2 : Int} {A A2 : Option Addr} {n c n2 c2 : Nat} {er er2 : Int} (h : ZB w0 p site A n c er w) :
    ZB w0 q site2 A2 n2 c2 er2 (put4 w w0.heap.size (.int .i64 (q : Int)) (.int .i64 site2) (.slice A2 n2 c2) (.int .i64 er2)) :=
  ⟨h.bel.grown (put4_grown _ _ _ _ _ _) h.bel.size (fun k hk => by injection hk with hk; omega), put4_heap h.box, ((put4_grown w w0.heap.size _ _ _ _).block _ (heap_lt h.out) (by simp)).trans h.out⟩

theorem OwnT.put {B N : Nat} {v : Value} {ts : List (Value × List L.Nd)} {w w' : World} {c2 : Array Value} {fr : Nat × Nat} (h : OwnT B v ts w) (hN : w.heap[N]? = some (.cells c2 49 fr)) (hg : w.grownBy w' (some N)) : OwnT B v ts w' :=
  ⟨row_put h.1 hN (by decide) hg, fun t ht => row_put (show w.ownsRow B 54 3 t.1 t.2.length (cellsN t.2) from h.2 t ht) hN (by decide) hg⟩
theorem OwnS.put {B N : Nat} {v : Value} {ss : List ByteArray} {w w' : World} {c2 : Array Value} {fr : Nat × Nat} (h : OwnS B v ss w) (hN : w.heap[N]? = some (.cells c2 49 fr)) (hg : w.grownBy w' (some N)) : OwnS B v ss w' := row_put h hN (by decide) hg

/-- What rows stands on between two labels. -/
structure ZR (w0 : World) (its : List It) (s : T.S) (A : Option Addr) (c : Nat) (v1 v2 : Value) (w : World) : Prop where
  zb : ZB w0 s.pl s.site A s.sites.length c 0 w
  si : RdSt w (.slice A s.sites.length c) s.sites
  ls : OwnS (w0.heap.size + 2) v1 (itS its) w
  ts : OwnT (w0.heap.size + 2) v2 (itT its) w

/-- What rows has read of a row so far, and what is to come. -/
structure ZI (l : List T.Tk) (kind : Int) (B : T.P) (res : T.R T.Tr) (its : List It) (s : T.S) : Prop where
  ok : T.Items kind (itP its)
  len : its.length ≤ 50
  fits : ∀ x ∈ its, x.2.2.nodes ≤ 20000 ∧ x.2.1.size ≤ 2000000
  sum : (its.map fun x => x.2.2.nodes).sum ≤ s.pl
  pl : s.pl ≤ l.length
  sl : s.sites.length ≤ s.pl
  s0 : 0 ≤ s.site
  s1 : s.site + l.length ≤ 4000000000000000000 + s.pl
  eq : T.rowF l B kind (50 - its.length) (itP its) s = res

theorem ZR.below {w0 w w' : World} {its : List It} {s : T.S} {A : Option Addr} {c : Nat} {v1 v2 : Value} (h : ZR w0 its s A c v1 v2 w) (hb : Below w.heap.size w w') : ZR w0 its s A c v1 v2 w' :=
  ⟨h.zb.below hb, h.si.below hb, h.ls.below hb, h.ts.below hb⟩

/-- The loop over the labels. -/
def InZ (its : List It) (x : ByteArray) (w0 : World) (vj : Value) (w : World) : Prop := ∃ j : Nat, vj = .int .i64 j ∧ j ≤ its.length ∧ Hid (∀ i, i < j → ∀ h : i < (itS its).length, (itS its)[i] ≠ x) ∧ Below w0.heap.size w0 w
theorem InZ.mk {its : List It} {x : ByteArray} {w0 : World} {vj : Value} {w : World} (j : Nat) (h1 : vj = .int .i64 j) (h2 : j ≤ its.length) (h3 : Hid (∀ i, i < j → ∀ h : i < (itS its).length, (itS its)[i] ≠ x)) (h4 : Below w0.heap.size w0 w) : InZ its x w0 vj w := ⟨j, h1, h2, h3, h4⟩

/-- The loop over the row. -/
def OutZ (l : List T.Tk) (kind : Int) (B : T.P) (res : T.R T.Tr) (w0 : World) (v1 v2 : Value) (w : World) : Prop := ∃ its s A c, ZI l kind B res its s ∧ ZR w0 its s A c v1 v2 w
theorem OutZ.mk {l : List T.Tk} {kind : Int} {B : T.P} {res : T.R T.Tr} {w0 : World} {v1 v2 : Value} {w : World} (its : List It) (s : T.S) (A : Option Addr) (c : Nat) (h1 : ZI l kind B res its s) (h2 : ZR w0 its s A c v1 v2 w) : OutZ l kind B res w0 v1 v2 w := ⟨its, s, A, c, h1, h2⟩

end Go.Proofs.YtgghmhgbdknkaaaGreat
