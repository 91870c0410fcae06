/-
  The texts AsLq, AsAl, one behind the other. Conditions: those that each of them names.
-/
import Derived.Test.YthbieinbpfjgkaaGreatDoorRows
import Derived.Test.YthbieinbpfjgkaaGreatDoorMB1
import Derived.Test.YthbieinbpfjgkaaGreatDoorMA2
import Derived.Test.YthbieinbpfjgkaaGreatDoorMA1
import Derived.ProofKit
import Derived.LaidMore
import Derived.OpenShut
import Derived.Lib.LaidTab
import Derived.Stop.Joined
import Derived.Deep.Slices
import Derived.Deep.Fields
import Derived.ChangeSame
import Derived.Carry
import Derived.Shelf.Vars
import Derived.SizedLaws
import Derived.Handed
import Derived.Test.YthbieinbpfjgkaaGreatDoorMA6
import Derived.Test.YthbieinbpfjgkaaGreatDoorMA11
import Derived.Test.YthbieinbpfjgkaaGreatDoorMA12
section
/-
  From a row's condition on the listed tables, and from the world's shape, to what the walks ask of them; a slice of parts that comes in, read as parts. No other conditions.
-/
namespace Go.Proofs.YthbieinbpfjgkaaGreatDoor
open Go.ChangeShapes Go.WideShapes Go.ChangeAt Go.RowKit Go.Deep

def laidAll : List (String × DataW Unit) := [("math/bits.deBruijn32tab", Rows.laid_math_bits_deBruijn32tab), ("math/bits.deBruijn64tab", Rows.laid_math_bits_deBruijn64tab), ("internal/strconv.uint64pow10", Rows.laid_internal_strconv_uint64pow10), ("leaven/ast.kids", Rows.laid_leaven_ast_kids)]

theorem tPow : (Tryz.prog.globals[2]?).map (·.type) = some 148 := by kernel_rfl
theorem uPow : Tryz.prog.underlying 148 = some (.array 20 111) := by kernel_rfl
theorem cPow : Tryz.prog.cellsOf 148 = 20 := by kernel_rfl
theorem cU64 : Tryz.prog.cellsOf 111 = 1 := by kernel_rfl
theorem dPow : (Rows.laid_internal_strconv_uint64pow10 : DataW Unit) = Lib.tabData .u64 Lib.pow10Tab := rfl
theorem gKids : Tryz.prog.globalNamed "leaven/ast.kids" = some 0 := by kernel_rfl
theorem tKids : (Tryz.prog.globals[0]?).map (·.type) = some 70 := by kernel_rfl
theorem uKids : Tryz.prog.underlying 70 = some (.array 15 3) := by kernel_rfl
theorem cKids : Tryz.prog.cellsOf 70 = 15 := by kernel_rfl
theorem cInt1 : Tryz.prog.cellsOf 3 = 1 := by kernel_rfl
theorem dKids : (Rows.laid_leaven_ast_kids : DataW Unit) = Lib.tabData .i64 E.kidsA := rfl

theorem tabs_of_laid {W : World} (h : laidMetH Tryz.prog laidAll W) : Tab W ∧ KTab W := by
  rw [MakeChecks.laidMetH_plain _ _ _ (by kernel_rfl)] at h
  obtain ⟨ps, ⟨g0, t0, cs0, f0, p0, q0, -, -, -, -, ⟨g1, t1, cs1, f1, p1, q1, -, -, -, -, ⟨g2, t2, cs2, f2, p2, q2, hg2, ht2, hv2, hd2, ⟨g3, t3, cs3, f3, p3, q3, hg3, ht3, hv3, hd3, _, _⟩, _⟩, _⟩, _⟩, _, _⟩ := h
  constructor
  · obtain rfl := Option.some.inj (gPow.symm.trans hg2)
    obtain rfl := Option.some.inj (tPow.symm.trans ht2)
    unfold Tab Lib.TabIs
    rw [dPow] at hd2
    rw [hv2, ← Lib.cells_of_tab uPow Tryz.underlying111 cU64 cPow hd2]
  · obtain rfl := Option.some.inj (gKids.symm.trans hg3)
    obtain rfl := Option.some.inj (tKids.symm.trans ht3)
    rw [dKids] at hd3
    have hv : W.var? Tryz.prog "leaven/ast.kids" = some (E.kidsA.map fun z => Value.int .i64 z).toArray := by
      rw [hv3, ← Lib.cells_of_tab uKids Tryz.underlying3 cInt1 cKids hd3]
    simp only [World.var?, gKids, Option.bind_some] at hv
    unfold KTab
    split at hv
    · rename_i c t fr hh
      rw [Option.some.inj hv] at hh
      exact ⟨t, fr, hh⟩
    · cases hv

theorem mcell_of_shaped {W : World} (h : W.ShapedOpen Tryz.prog) (h2 : 2 ≤ W.heap.size) : MCell W := by
  obtain ⟨m, hm⟩ := Go.Proofs.cell_of_shapedOpen_int (g := 1) (zero := #[.int .i64 0]) (t := 3) h (of_decide_eq_true (by kernel_rfl)) (by kernel_rfl) rfl (by kernel_rfl) (by kernel_rfl) Tryz.underlying3
  exact ⟨m, hm, h2⟩

/-- The door's own heap meets the condition. -/
theorem door_met (os : Os) (args : Array Value) : laidMetH Tryz.prog laidAll ((World.doorLaid Tryz.prog 400 os).forCall (fun _ _ => 0) ⟨#[], args, []⟩).memory :=
  laidMetH_of_parts3 (fuel := 8) (laidMet_of_run' 8 (by kernel_rfl) (by kernel_rfl)) (by kernel_rfl) (by kernel_rfl)

/-- The wrap of a row, with the world's shape. -/
theorem wrap_shaped {H : Type} {enc : TypeId × Value → H} {C : Checked} {os : Os} {f : FuncId} {fn : Func} {s : ChangeSpec} {X : World → Array Value → Prop}
    (hX : ∀ (w w' : World) (args : Array Value), w.heap = w'.heap → X w args → X w' args)
    (own : ownKnob C.prog.godebug = none) (started : os.Started) (noInit : C.prog.inits.idxOf? f = none) (hfn : C.prog.funcs[f]? = some fn)
    (witness : ∃ (w : World) (tape : Tape) (i : Input), w.os = os ∧ (w.forCall tape i).Shaped C.prog ∧ i.vars = [] ∧ Input.okWide C.prog (w.forCall tape i) .any w.heap.size f i ∧
      ((s.pre enc C.prog fn [] false (w.forCall tape i).memory i.args ∧ X (w.forCall tape i).memory i.args) ∧ sizedMet enc C.prog fn (OpenSpec.ofChange s) false (w.forCall tape i).memory i.args) ∧ ({} : Assume).holds C.prog (lone (Frame.enter C.prog f i.args .normal) [] (w.forCall tape i)))
    (contract : ∀ (W : World) (base : Nat) (args : Array Value) (ds gs : List (DataW H)) (before : List MemPlace),
      (∀ (j : Nat) t v, fn.params[j]? = some t → args[j]? = some v → Value.okWide C.prog W .any base t v) →
      DataW.Whole enc C.prog fn.params.toList s.vars false W args.toList ds gs before → W.ShapedOpen C.prog → X W args →
      Calls C.prog f args W fun e W' => ∃ v, e = .returned v ∧ s.post enc C.prog fn false true false false W args v W') :
    ReturnsInHanded {} C os f .any (fun w args => (s.pre enc C.prog fn [] false w args ∧ X w args) ∧ sizedMet enc C.prog fn (OpenSpec.ofChange s) false w args) (s.post enc C.prog fn false true false false) := by
  refine returnsInHanded_of_calls own started noInit witness ?_
  intro w tape i _ hsh _ hok hpre _
  obtain ⟨_, _, _, fn', hfn', _, _, _, _, hval⟩ := hok
  obtain rfl : fn' = fn := Option.some.inj (hfn'.symm.trans hfn)
  obtain ⟨⟨⟨ds, gs, before, hw, _⟩, hx⟩, _⟩ := hpre
  refine (contract (w.forCall tape i) w.heap.size i.args ds gs before hval (DataW.Whole.of_heap (by rfl) hw) hsh (hX _ _ _ (by rfl) hx)).mono fun e W' ⟨v, he, hp⟩ => ?_
  subst he
  exact ChangeSpec.post_blind hp

theorem oneNode : ∃ fs, Tryz.prog.underlying 41 = some (.struct fs) ∧ oneCellFields Tryz.prog fs = true ∧ fs.size = 3 ∧ (fs[0]?).map (·.type) = some 3 ∧ (fs[1]?).map (·.type) = some 9 ∧ (fs[2]?).map (·.type) = some 3 :=
  ⟨_, Tryz.underlying41, by kernel_rfl, by kernel_rfl, by kernel_rfl, by kernel_rfl, by kernel_rfl⟩

theorem cellsNode : Tryz.prog.cellsOf 41 = 3 := by kernel_rfl

theorem onePart : ∃ fs, Tryz.prog.underlying 39 = some (.struct fs) ∧ oneCellFields Tryz.prog fs = true ∧ fs.size = 8 ∧ (fs[0]?).map (·.type) = some 3 ∧ (fs[1]?).map (·.type) = some 9 ∧ (fs[2]?).map (·.type) = some 9 ∧ (fs[3]?).map (·.type) = some 9 ∧ (fs[4]?).map (·.type) = some 3 ∧ (fs[5]?).map (·.type) = some 2 ∧ (fs[6]?).map (·.type) = some 37 ∧ (fs[7]?).map (·.type) = some 37 :=
  ⟨_, Tryz.underlying39, by kernel_rfl, by kernel_rfl, by kernel_rfl, by kernel_rfl, by kernel_rfl, by kernel_rfl, by kernel_rfl, by kernel_rfl, by kernel_rfl, by kernel_rfl⟩

theorem cellsPart : Tryz.prog.cellsOf 39 = 8 := by kernel_rfl

theorem int_le {z : Int} (h : (Lit.int .i64 z).wf = true) : z ≤ 9223372036854775807 := by
  simp only [Lit.wf, Bool.and_eq_true, decide_eq_true_eq] at h
  exact h.2

set_option maxRecDepth 100000 in
theorem rd_of_trod {H : Type} {enc : TypeId × Value → H} {W : World} {fuel : Nat} {cs : List Value} {x : DataW H × List MemPlace} (h : DataW.trod enc Tryz.prog W 0 (fun _ => true) true fuel 37 cs = some x) :
    ∃ v l, cs = [v] ∧ Rd W W.heap.size v l ∧ ∀ y ∈ l, y.n ≤ 9223372036854775807 := by
  rcases open_slice Tryz.underlying37 h with ⟨h0, _⟩ | ⟨a, len, cap, m, n, D, Pl, hcs, _, hl, hm, hmm, _, hi⟩
  · exact ⟨_, [], h0, ⟨none, 0, rfl, by simp, Nat.zero_le _, fun _ => rfl, fun h => absurd rfl h⟩, by simp⟩
  · have hmc : m = cap := by rw [hmm]; simp
    obtain ⟨fs, hu, hone, hsz, ht0, ht1, ht2⟩ := oneNode
    have hel : ∀ i, ∃ y : L.Nd, i < len → a.spot = none ∧ W.cell? ⟨a.block, a.off + i * 3, none⟩ = some (.int .i64 y.kind) ∧ W.cell? ⟨a.block, a.off + i * 3 + 1, none⟩ = some (.string y.name) ∧ W.cell? ⟨a.block, a.off + i * 3 + 2, none⟩ = some (.int .i64 y.n) ∧ y.n ≤ 9223372036854775807 := by
      intro i
      by_cases hlt : i < len
      · have hsp : a.spot = none := by
          obtain ⟨c4, hc, -⟩ := hi 0 (by omega)
          rw [cellsNode] at hc
          obtain ⟨_, hcl, hat⟩ := World.cells?_some hc
          have e := hat 0 (by omega)
          have e2 : c4[0]? = some c4[0] := List.getElem?_eq_getElem (by omega)
          rw [e2] at e
          simpa [Addr.add] using World.cell?_spot e
        have had : ∀ k, a.add k = ⟨a.block, a.off + k, none⟩ := fun k => by
          obtain ⟨b, o, s⟩ := a
          simp only at hsp
          subst hsp
          simp [Addr.add]
        have hadd : ∀ (b o k : Nat), (⟨b, o, none⟩ : Addr).add k = ⟨b, o + k, none⟩ := fun b o k => by simp [Addr.add]
        obtain ⟨c4, hc, hd⟩ := hi i (by omega)
        rw [cellsNode, had] at hc
        obtain ⟨_, hcl, hat⟩ := World.cells?_some hc
        simp only [hadd] at hat
        obtain ⟨ys, n', _, _, _, hyl, hf⟩ := DataW.trod_struct hu hd
        obtain ⟨f0, hf0, he0⟩ := Option.map_eq_some_iff.1 ht0
        obtain ⟨f1, hf1, he1⟩ := Option.map_eq_some_iff.1 ht1
        obtain ⟨f2, hf2, he2⟩ := Option.map_eq_some_iff.1 ht2
        have g0 := hf 0 f0 hf0
        have g1 := hf 1 f1 hf1
        have g2 := hf 2 f2 hf2
        obtain ⟨o0, k0⟩ := hone_of hone 0 f0 hf0
        obtain ⟨o1, k1⟩ := hone_of hone 1 f1 hf1
        obtain ⟨o2, k2⟩ := hone_of hone 2 f2 hf2
        rw [o0, k0, he0, List.getElem?_eq_getElem (by omega : 0 < ys.length)] at g0
        rw [o1, k1, he1, List.getElem?_eq_getElem (by omega : 1 < ys.length)] at g1
        rw [o2, k2, he2, List.getElem?_eq_getElem (by omega : 2 < ys.length)] at g2
        obtain ⟨z, hz, _, _⟩ := DataW.trod_int Tryz.underlying3 g0
        obtain ⟨t, hs, _, _⟩ := DataW.trod_string Tryz.underlying9 g1
        obtain ⟨u, hu2, _, hw⟩ := DataW.trod_int Tryz.underlying3 g2
        refine ⟨⟨z, t, u⟩, fun _ => ⟨hsp, ?_, ?_, ?_, int_le hw⟩⟩
        · have e := hat 0 (by omega)
          have e2 : c4[0]? = some (.int .i64 z) := by
            have := congrArg (·[0]?) hz
            simpa [List.getElem?_take, List.getElem?_drop] using this
          rw [e2] at e
          exact e
        · have e := hat 1 (by omega)
          have e2 : c4[1]? = some (.string t) := by
            have := congrArg (·[0]?) hs
            simpa [List.getElem?_take, List.getElem?_drop] using this
          rw [e2] at e
          exact e
        · have e := hat 2 (by omega)
          have e2 : c4[2]? = some (.int .i64 u) := by
            have := congrArg (·[0]?) hu2
            simpa [List.getElem?_take, List.getElem?_drop] using this
          rw [e2] at e
          exact e
      · exact ⟨⟨0, ⟨#[]⟩, 0⟩, fun hh => absurd hh hlt⟩
    obtain ⟨F, hF⟩ := Classical.axiomOfChoice hel
    refine ⟨_, (List.range len).map F, hcs, ⟨some a, cap, by simp, by simpa using hl, hm, fun h => by simp at h, fun hn => ?_⟩, ?_⟩
    · have h0 : 0 < len := by simp at hn; omega
      obtain ⟨hsp, -⟩ := hF 0 h0
      obtain ⟨b, o, s⟩ := a
      simp only at hsp hF
      subst hsp
      refine ⟨b, o, rfl, cell_lt (hF 0 h0).2.1, fun i hi2 => ?_⟩
      have hi3 : i < len := by simpa using hi2
      have := hF i hi3
      simpa using ⟨this.2.1, this.2.2.1, this.2.2.2.1⟩
    · intro y hy
      obtain ⟨i, hi2, rfl⟩ := List.mem_map.1 hy
      exact (hF i (List.mem_range.1 hi2)).2.2.2.2

/-- The types' numbers are numbers of the machine's. -/
def NumP (y : E.Pt) : Prop := (∀ z ∈ y.t, z.n ≤ 9223372036854775807) ∧ ∀ z ∈ y.u, z.n ≤ 9223372036854775807

set_option maxRecDepth 100000 in
theorem rdp_of_trod {H : Type} {enc : TypeId × Value → H} {W : World} {fuel : Nat} {cs : List Value} {x : DataW H × List MemPlace} (h : DataW.trod enc Tryz.prog W 0 (fun _ => true) true fuel 23 cs = some x) :
    ∃ v l, cs = [v] ∧ RdP W W.heap.size v l ∧ ∀ y ∈ l, NumP y := by
  rcases open_slice Tryz.underlying23 h with ⟨h0, _⟩ | ⟨a, len, cap, m, n, D, Pl, hcs, _, hl, hm, hmm, _, hi⟩
  · exact ⟨_, [], h0, ⟨none, 0, rfl, by simp, Nat.zero_le _, fun h => absurd rfl h⟩, by simp⟩
  · have hmc : m = cap := by rw [hmm]; simp
    obtain ⟨fs, hu, hone, hsz, ht0, ht1, ht2, ht3, ht4, ht5, ht6, ht7⟩ := onePart
    have hel : ∀ i, ∃ y : E.Pt × Value × Value, i < len → a.spot = none ∧ W.cell? ⟨a.block, a.off + i * 8, none⟩ = some (.int .i64 y.1.kind) ∧ W.cell? ⟨a.block, a.off + i * 8 + 1, none⟩ = some (.string y.1.label) ∧ W.cell? ⟨a.block, a.off + i * 8 + 2, none⟩ = some (.string y.1.name) ∧ W.cell? ⟨a.block, a.off + i * 8 + 3, none⟩ = some (.string y.1.bind) ∧
        W.cell? ⟨a.block, a.off + i * 8 + 4, none⟩ = some (.int .i64 y.1.many) ∧ W.cell? ⟨a.block, a.off + i * 8 + 5, none⟩ = some (.int .i64 y.1.num) ∧ W.cell? ⟨a.block, a.off + i * 8 + 6, none⟩ = some y.2.1 ∧ W.cell? ⟨a.block, a.off + i * 8 + 7, none⟩ = some y.2.2 ∧ Rd W W.heap.size y.2.1 y.1.t ∧ Rd W W.heap.size y.2.2 y.1.u ∧ NumP y.1 := by
      intro i
      by_cases hlt : i < len
      · have hsp : a.spot = none := by
          obtain ⟨c4, hc, -⟩ := hi 0 (by omega)
          rw [cellsPart] at hc
          obtain ⟨_, hcl, hat⟩ := World.cells?_some hc
          have e := hat 0 (by omega)
          have e2 : c4[0]? = some c4[0] := List.getElem?_eq_getElem (by omega)
          rw [e2] at e
          simpa [Addr.add] using World.cell?_spot e
        have had : ∀ k, a.add k = ⟨a.block, a.off + k, none⟩ := fun k => by
          obtain ⟨b, o, s⟩ := a
          simp only at hsp
          subst hsp
          simp [Addr.add]
        have hadd : ∀ (b o k : Nat), (⟨b, o, none⟩ : Addr).add k = ⟨b, o + k, none⟩ := fun b o k => by simp [Addr.add]
        obtain ⟨c4, hc, hd⟩ := hi i (by omega)
        rw [cellsPart, had] at hc
        obtain ⟨_, hcl, hat⟩ := World.cells?_some hc
        simp only [hadd] at hat
        obtain ⟨ys, n', _, _, _, hyl, hf⟩ := DataW.trod_struct hu hd
        obtain ⟨f0, hf0, he0⟩ := Option.map_eq_some_iff.1 ht0
        obtain ⟨f1, hf1, he1⟩ := Option.map_eq_some_iff.1 ht1
        obtain ⟨f2, hf2, he2⟩ := Option.map_eq_some_iff.1 ht2
        obtain ⟨f3, hf3, he3⟩ := Option.map_eq_some_iff.1 ht3
        obtain ⟨f4, hf4, he4⟩ := Option.map_eq_some_iff.1 ht4
        obtain ⟨f5, hf5, he5⟩ := Option.map_eq_some_iff.1 ht5
        obtain ⟨f6, hf6, he6⟩ := Option.map_eq_some_iff.1 ht6
        obtain ⟨f7, hf7, he7⟩ := Option.map_eq_some_iff.1 ht7
        have g0 := hf 0 f0 hf0
        have g1 := hf 1 f1 hf1
        have g2 := hf 2 f2 hf2
        have g3 := hf 3 f3 hf3
        have g4 := hf 4 f4 hf4
        have g5 := hf 5 f5 hf5
        have g6 := hf 6 f6 hf6
        have g7 := hf 7 f7 hf7
        obtain ⟨o0, k0⟩ := hone_of hone 0 f0 hf0
        obtain ⟨o1, k1⟩ := hone_of hone 1 f1 hf1
        obtain ⟨o2, k2⟩ := hone_of hone 2 f2 hf2
        obtain ⟨o3, k3⟩ := hone_of hone 3 f3 hf3
        obtain ⟨o4, k4⟩ := hone_of hone 4 f4 hf4
        obtain ⟨o5, k5⟩ := hone_of hone 5 f5 hf5
        obtain ⟨o6, k6⟩ := hone_of hone 6 f6 hf6
        obtain ⟨o7, k7⟩ := hone_of hone 7 f7 hf7
        rw [o0, k0, he0, List.getElem?_eq_getElem (by omega : 0 < ys.length)] at g0
        rw [o1, k1, he1, List.getElem?_eq_getElem (by omega : 1 < ys.length)] at g1
        rw [o2, k2, he2, List.getElem?_eq_getElem (by omega : 2 < ys.length)] at g2
        rw [o3, k3, he3, List.getElem?_eq_getElem (by omega : 3 < ys.length)] at g3
        rw [o4, k4, he4, List.getElem?_eq_getElem (by omega : 4 < ys.length)] at g4
        rw [o5, k5, he5, List.getElem?_eq_getElem (by omega : 5 < ys.length)] at g5
        rw [o6, k6, he6, List.getElem?_eq_getElem (by omega : 6 < ys.length)] at g6
        rw [o7, k7, he7, List.getElem?_eq_getElem (by omega : 7 < ys.length)] at g7
        obtain ⟨z0, e0, _, _⟩ := DataW.trod_int Tryz.underlying3 g0
        obtain ⟨z1, e1, _, _⟩ := DataW.trod_string Tryz.underlying9 g1
        obtain ⟨z2, e2, _, _⟩ := DataW.trod_string Tryz.underlying9 g2
        obtain ⟨z3, e3, _, _⟩ := DataW.trod_string Tryz.underlying9 g3
        obtain ⟨z4, e4, _, _⟩ := DataW.trod_int Tryz.underlying3 g4
        obtain ⟨z5, e5, _, _⟩ := DataW.trod_int Tryz.underlying2 g5
        obtain ⟨v6, l6, e6, R6, N6⟩ := rd_of_trod g6
        obtain ⟨v7, l7, e7, R7, N7⟩ := rd_of_trod g7
        refine ⟨(⟨z0, z1, z2, z3, z4, z5, l6, l7⟩, v6, v7), fun _ => ⟨hsp, ?_, ?_, ?_, ?_, ?_, ?_, ?_, ?_, R6, R7, N6, N7⟩⟩
        · have e := hat 0 (by omega)
          have e2 : c4[0]? = some (.int .i64 z0) := by
            have := congrArg (·[0]?) e0
            simpa [List.getElem?_take, List.getElem?_drop] using this
          rw [e2] at e
          exact e
        · have e := hat 1 (by omega)
          have e2 : c4[1]? = some (.string z1) := by
            have := congrArg (·[0]?) e1
            simpa [List.getElem?_take, List.getElem?_drop] using this
          rw [e2] at e
          exact e
        · have e := hat 2 (by omega)
          have e2 : c4[2]? = some (.string z2) := by
            have := congrArg (·[0]?) e2
            simpa [List.getElem?_take, List.getElem?_drop] using this
          rw [e2] at e
          exact e
        · have e := hat 3 (by omega)
          have e2 : c4[3]? = some (.string z3) := by
            have := congrArg (·[0]?) e3
            simpa [List.getElem?_take, List.getElem?_drop] using this
          rw [e2] at e
          exact e
        · have e := hat 4 (by omega)
          have e2 : c4[4]? = some (.int .i64 z4) := by
            have := congrArg (·[0]?) e4
            simpa [List.getElem?_take, List.getElem?_drop] using this
          rw [e2] at e
          exact e
        · have e := hat 5 (by omega)
          have e2 : c4[5]? = some (.int .i64 z5) := by
            have := congrArg (·[0]?) e5
            simpa [List.getElem?_take, List.getElem?_drop] using this
          rw [e2] at e
          exact e
        · have e := hat 6 (by omega)
          have e2 : c4[6]? = some v6 := by
            have := congrArg (·[0]?) e6
            simpa [List.getElem?_take, List.getElem?_drop] using this
          rw [e2] at e
          exact e
        · have e := hat 7 (by omega)
          have e2 : c4[7]? = some v7 := by
            have := congrArg (·[0]?) e7
            simpa [List.getElem?_take, List.getElem?_drop] using this
          rw [e2] at e
          exact e
      · exact ⟨(⟨0, ⟨#[]⟩, ⟨#[]⟩, ⟨#[]⟩, 0, 0, [], []⟩, .nilFunc, .nilFunc), fun hh => absurd hh hlt⟩
    obtain ⟨F, hF⟩ := Classical.axiomOfChoice hel
    refine ⟨_, (List.range len).map (fun i => (F i).1), hcs, ⟨some a, cap, by simp, by simpa using hl, hm, fun hn => ?_⟩, ?_⟩
    · have h0 : 0 < len := by simp at hn; omega
      obtain ⟨hsp, -⟩ := hF 0 h0
      obtain ⟨b, o, s⟩ := a
      simp only at hsp hF
      subst hsp
      refine ⟨b, o, rfl, cell_lt (hF 0 h0).2.1, fun i hi2 => ?_⟩
      have hi3 : i < len := by simpa using hi2
      obtain ⟨-, c0, c1, c2, c3, c4, c5, c6, c7, r6, r7, -⟩ := hF i hi3
      exact ⟨(F i).2.1, (F i).2.2, by simpa using c0, by simpa using c1, by simpa using c2, by simpa using c3, by simpa using c4, by simpa using c5, c6, c7, by simpa using r6, by simpa using r7⟩
    · intro y hy
      obtain ⟨i, hi2, rfl⟩ := List.mem_map.1 hy
      exact (hF i (List.mem_range.1 hi2)).2.2.2.2.2.2.2.2.2.2.2

end Go.Proofs.YthbieinbpfjgkaaGreatDoor
end

section
/-
  The walk of leavenlaw05.alive: it is true. Conditions: the tables, the number that Cut asks for.
-/
namespace Go.Proofs.YthbieinbpfjgkaaGreatDoor
open Go.RowKit Go.Sort

def alF : E.Pt := ⟨2, ⟨#[]⟩, ⟨#[]⟩, ⟨#[120]⟩, 0, 0, [⟨0, ⟨#[]⟩, 0⟩], []⟩
def alO : E.Pt := ⟨9, ⟨#[]⟩, ⟨#[43]⟩, ⟨#[]⟩, 0, 0, [], []⟩
def alX : E.Pt := ⟨1, ⟨#[]⟩, ⟨#[120]⟩, ⟨#[]⟩, 0, 0, [], []⟩
def alY : E.Pt := ⟨1, ⟨#[]⟩, ⟨#[121]⟩, ⟨#[]⟩, 0, 0, [], []⟩
def alK : E.Fo := .cons alO (.cons alX .nil (.cons alY .nil .nil)) .nil
def alE : List E.Pt := [alF, alO, alX, alY]

theorem alE_eq : alE = alF :: alK.flat := rfl
theorem al_fit : (E.Fo.cons alF alK .nil).fit := ⟨rfl, ⟨rfl, ⟨rfl, trivial, ⟨rfl, trivial, trivial⟩⟩, trivial⟩, trivial⟩
theorem al_right : E.rightL alE = true := by kernel_rfl
theorem al_small : ∀ x ∈ alE, Small x := by
  intro x hx
  simp only [alE, List.mem_cons, List.mem_nil_iff, or_false] at hx
  rcases hx with rfl | rfl | rfl | rfl
  · exact ⟨by decide, by decide, by decide, by intro z hz; simp [alF] at hz; subst hz; decide, by intro z hz; simp [alF] at hz⟩
  · exact ⟨by decide, by decide, by decide, by intro z hz; simp [alO] at hz, by intro z hz; simp [alO] at hz⟩
  · exact ⟨by decide, by decide, by decide, by intro z hz; simp [alX] at hz, by intro z hz; simp [alX] at hz⟩
  · exact ⟨by decide, by decide, by decide, by intro z hz; simp [alY] at hz, by intro z hz; simp [alY] at hz⟩
theorem al_few : FewP alE := ⟨by decide, by
  intro x hx
  simp only [alE, List.mem_cons, List.mem_nil_iff, or_false] at hx
  rcases hx with rfl | rfl | rfl | rfl <;> decide⟩
theorem al_many : ∀ y ∈ alF :: alK.flat, -1000000 ≤ y.many ∧ y.many ≤ 1000000 := by
  intro x hx
  have hx2 : x ∈ alE := hx
  exact ⟨(al_few.2 x hx2).2.2.1, (al_few.2 x hx2).2.2.2⟩
theorem short_nil : Short [] := by intro x hx; cases hx
theorem al_pr : ∀ y ∈ alF :: alK.flat, E.Pr1 y := by
  intro x hx
  have hx2 : x ∈ alE := hx
  simp only [alE, List.mem_cons, List.mem_nil_iff, or_false] at hx2
  rcases hx2 with rfl | rfl | rfl | rfl
  · exact ⟨by kernel_rfl, by decide, by decide, by decide, by intro z hz; simp [alF] at hz; subst hz; decide, short_nil, by decide, by decide⟩
  · exact ⟨by kernel_rfl, by decide, by decide, by decide, short_nil, short_nil, by decide, by decide⟩
  · exact ⟨by kernel_rfl, by decide, by decide, by decide, short_nil, short_nil, by decide, by decide⟩
  · exact ⟨by kernel_rfl, by decide, by decide, by decide, short_nil, short_nil, by decide, by decide⟩
theorem al_ty : L.tyP [⟨0, ⟨#[]⟩, 0⟩] = [63] := by
  have h := L.tyP_eq (x := ⟨0, ⟨#[]⟩, 0⟩) (ks := .nil) (by kernel_rfl)
  exact h
theorem al_print : E.prT alF alK = [40, 102, 117, 110, 32, 40, 120, 58, 32, 63, 41, 32, 45, 62, 32, 40, 120, 32, 43, 32, 121, 41, 41] := by
  have e1 : E.firstP alF = [40, 102, 117, 110, 32, 40, 120, 58, 32, 63, 41, 32, 45, 62, 32] := by
    show [40, 102, 117, 110, 32, 40] ++ (([120] : List UInt8) ++ ([58, 32] ++ L.tyP [⟨0, ⟨#[]⟩, 0⟩]) ++ [41, 32, 45, 62, 32]) = _
    rw [al_ty]
    rfl
  have e2 : E.lastP alF = [41] := rfl
  have e3 : alK.pr alF 0 = [40, 120, 32, 43, 32, 121, 41] := rfl
  unfold E.prT
  rw [e1, e2, e3]
  rfl
theorem al_free : freeS (E.freeT alF alK []) = [⟨#[121]⟩] := by
  have e : E.freeT alF alK [] = [⟨#[121]⟩] := by kernel_rfl
  rw [e]
  exact E.Asc.one (freeS_asc _) (by simp [E.Asc]) (fun s => freeS_mem _ s)

theorem rd_nil (w : World) (B : Nat) : Rd w B (.slice none 0 0) [] := ⟨none, 0, rfl, by simp, Nat.zero_le _, fun _ => rfl, fun h => absurd rfl h⟩

theorem al_rd (w : World) : RdP ((w.alloc (.cells #[.int .i64 0, .string ⟨#[]⟩, .int .i64 0] 41)).alloc (.cells #[.int .i64 2, .string ⟨#[]⟩, .string ⟨#[]⟩, .string ⟨#[120]⟩, .int .i64 0, .int .i64 0, .slice (some ⟨w.heap.size, 0, none⟩) 1 1, .slice none 0 0, .int .i64 9, .string ⟨#[]⟩, .string ⟨#[43]⟩, .string ⟨#[]⟩, .int .i64 0, .int .i64 0, .slice none 0 0, .slice none 0 0, .int .i64 1, .string ⟨#[]⟩, .string ⟨#[120]⟩, .string ⟨#[]⟩, .int .i64 0, .int .i64 0, .slice none 0 0, .slice none 0 0, .int .i64 1, .string ⟨#[]⟩, .string ⟨#[121]⟩, .string ⟨#[]⟩, .int .i64 0, .int .i64 0, .slice none 0 0, .slice none 0 0] 39)) (w.heap.size + 2) (.slice (some ⟨w.heap.size + 1, 0, none⟩) 4 4) alE := by
  generalize hW : (w.alloc (.cells #[.int .i64 0, .string ⟨#[]⟩, .int .i64 0] 41)).alloc _ = W
  have hN : W.heap[w.heap.size]? = some (.cells #[.int .i64 0, .string ⟨#[]⟩, .int .i64 0] 41 (0, 0)) := by
    rw [← hW, Lib.alloc_old _ _ _ (by simp)]; exact heap_alloc_new w _
  have hE := heap_alloc_new (w.alloc (.cells #[.int .i64 0, .string ⟨#[]⟩, .int .i64 0] 41)) (.cells #[.int .i64 2, .string ⟨#[]⟩, .string ⟨#[]⟩, .string ⟨#[120]⟩, .int .i64 0, .int .i64 0, .slice (some ⟨w.heap.size, 0, none⟩) 1 1, .slice none 0 0, .int .i64 9, .string ⟨#[]⟩, .string ⟨#[43]⟩, .string ⟨#[]⟩, .int .i64 0, .int .i64 0, .slice none 0 0, .slice none 0 0, .int .i64 1, .string ⟨#[]⟩, .string ⟨#[120]⟩, .string ⟨#[]⟩, .int .i64 0, .int .i64 0, .slice none 0 0, .slice none 0 0, .int .i64 1, .string ⟨#[]⟩, .string ⟨#[121]⟩, .string ⟨#[]⟩, .int .i64 0, .int .i64 0, .slice none 0 0, .slice none 0 0] 39)
  rw [hW, show (w.alloc (.cells #[.int .i64 0, .string ⟨#[]⟩, .int .i64 0] 41)).heap.size = w.heap.size + 1 by simp] at hE
  have c := fun j => Lib.cell_of_heap hE j
  have cn := fun j => Lib.cell_of_heap hN j
  have rt : Rd W (w.heap.size + 2) (.slice (some ⟨w.heap.size, 0, none⟩) 1 1) [⟨0, ⟨#[]⟩, 0⟩] := ⟨_, 1, rfl, by simp, by decide, fun h => (by cases h), fun _ => ⟨w.heap.size, 0, rfl, by omega, fun i hi => by
    have : i = 0 := by simpa using hi
    subst this
    exact ⟨cn 0, cn 1, cn 2⟩⟩⟩
  refine ⟨_, 4, rfl, by decide, by decide, fun _ => ⟨_, 0, rfl, by omega, fun i hi => ?_⟩⟩
  have hi4 : i < 4 := hi
  rcases (by omega : i = 0 ∨ i = 1 ∨ i = 2 ∨ i = 3) with rfl | rfl | rfl | rfl
  · exact ⟨_, _, c 0, c 1, c 2, c 3, c 4, c 5, c 6, c 7, rt, rd_nil _ _⟩
  · exact ⟨_, _, c 8, c 9, c 10, c 11, c 12, c 13, c 14, c 15, rd_nil _ _, rd_nil _ _⟩
  · exact ⟨_, _, c 16, c 17, c 18, c 19, c 20, c 21, c 22, c 23, rd_nil _ _, rd_nil _ _⟩
  · exact ⟨_, _, c 24, c 25, c 26, c 27, c 28, c 29, c 30, c 31, rd_nil _ _, rd_nil _ _⟩

theorem OwnS.firstCell {B : Nat} {A : Option Addr} {cap : Nat} {s : ByteArray} {w : World} (h : OwnS B (.slice A 1 cap) [s] w) : ∃ g, A = some ⟨g, 0, none⟩ ∧ w.cell? ⟨g, 0, none⟩ = some (.string s) ∧ g < w.heap.size := by
  rcases h.2 with ⟨hv, h0⟩ | ⟨g, c2, cur, hv, hg, hh, hn, hcap, hsz, htake⟩
  · cases h0
  · simp only [List.length_cons, List.length_nil, Value.slice.injEq] at hv
    obtain ⟨rfl, -, rfl⟩ := hv
    refine ⟨g, rfl, ?_, heap_lt hh⟩
    rw [World.ownsRow.cellAt h 0 (by simp)]
    rfl

set_option maxHeartbeats 8000000 in
set_option maxRecDepth 100000 in
theorem aalive_any (w : World) (hT : Tab w) (hK : KTab w) (hM : MCell w) :
    Calls Tryz.prog 11 #[] w fun e w' => e = .returned (.bool true) ∧ Below w.heap.size w w' := by
  have h2 := hM.choose_spec.2
  have hrd := al_rd w
  obtain ⟨W0, hW0⟩ : ∃ W0, W0 = (w.alloc (.cells #[.int .i64 0, .string ⟨#[]⟩, .int .i64 0] 41)).alloc (.cells #[.int .i64 2, .string ⟨#[]⟩, .string ⟨#[]⟩, .string ⟨#[120]⟩, .int .i64 0, .int .i64 0, .slice (some ⟨w.heap.size, 0, none⟩) 1 1, .slice none 0 0, .int .i64 9, .string ⟨#[]⟩, .string ⟨#[43]⟩, .string ⟨#[]⟩, .int .i64 0, .int .i64 0, .slice none 0 0, .slice none 0 0, .int .i64 1, .string ⟨#[]⟩, .string ⟨#[120]⟩, .string ⟨#[]⟩, .int .i64 0, .int .i64 0, .slice none 0 0, .slice none 0 0, .int .i64 1, .string ⟨#[]⟩, .string ⟨#[121]⟩, .string ⟨#[]⟩, .int .i64 0, .int .i64 0, .slice none 0 0, .slice none 0 0] 39) := ⟨_, rfl⟩
  rw [← hW0] at hrd
  have hz0 : W0.heap.size = w.heap.size + 2 := by rw [hW0]; simp
  rw [← hz0] at hrd
  have hB0 : Below w.heap.size w W0 := by rw [hW0]; exact (below_new _).trans ((below_new _).mono (by simp))
  have B0 := hid hB0
  have HF := hid (afree_any alF alK al_fit al_many (by decide) (.slice (some ⟨w.heap.size + 1, 0, none⟩) 4 4) W0 hrd (hK.grows hB0) (by omega))
  rw [al_free] at HF
  have HR := hid (fun (W : World) (hW : Below W0.heap.size W0 W) => aright_all alE al_small (.slice (some ⟨w.heap.size + 1, 0, none⟩) 4 4) W (hrd.below hW) ((hK.grows hB0).grows hW) ((hM.grows hB0).grows hW))
  rw [al_right] at HR
  have HP := hid (fun (W : World) (hW : Below W0.heap.size W0 W) => aprint_any alF alK al_fit al_pr (by decide) (by rw [al_print]; decide) (.slice (some ⟨w.heap.size + 1, 0, none⟩) 4 4) W (hrd.below hW) ((hK.grows hB0).grows hW) ((hT.grows hB0).grows hW))
  rw [al_print] at HP
  have HE := hid (fun (W : World) (hW : Below W0.heap.size W0 W) => aend_any alE al_few (.slice (some ⟨w.heap.size + 1, 0, none⟩) 4 4) 2 (by decide) W (hrd.below hW) ((hK.grows hB0).grows hW))
  have HKd := hid (fun (W : World) (hW : Below W0.heap.size W0 W) => akids_any alE al_few (.slice (some ⟨w.heap.size + 1, 0, none⟩) 4 4) 1 (by decide) W (hrd.below hW) ((hK.grows hB0).grows hW))
  obtain ⟨S, hS⟩ : ∃ S : ByteArray, S = ⟨([40, 102, 117, 110, 32, 40, 120, 58, 32, 63, 41, 32, 45, 62, 32, 40, 120, 32, 43, 32, 121, 41, 41] : List UInt8).toArray⟩ := ⟨_, rfl⟩
  rw [← hS] at HP
  obtain ⟨Y, hY⟩ : ∃ Y : ByteArray, Y = ⟨#[121]⟩ := ⟨_, rfl⟩
  rw [← hY] at HF
  have eS : (S.toList == [40, 102, 117, 110, 32, 40, 120, 58, 32, 63, 41, 32, 45, 62, 32, 40, 120, 32, 43, 32, 121, 41, 41]) = true := by rw [hS]; decide +kernel
  have eY : (Y.toList == [121]) = true := by rw [hY]; decide +kernel
  clear hS hY hB0 hrd hT hK hM
  go_enter Tryz.func11, Tryz.ntmps11
  go_wp2_with fail
  rw [← hW0]
  clear hW0
  refine (HF.out).mono ?_
  rintro e w1 ⟨v1, rfl, o1, hb1⟩
  obtain ⟨A1, c1, rfl⟩ := o1.val
  obtain ⟨g1, rfl, cY, hg1⟩ := OwnS.firstCell o1
  have B1 := hid hb1
  clear o1 hb1
  go_wp2_with fail
  refine (HR.out _ B1.out).mono ?_
  rintro e w2 ⟨rfl, hb2⟩
  have B2 := hid (B1.out.trans (hb2.mono B1.out.size))
  have cY2 := (hb2.cell (p := ⟨g1, 0, none⟩) hg1).trans cY
  have hg2 := Nat.lt_of_lt_of_le hg1 hb2.size
  clear hb2 cY
  go_wp2_with fail
  refine (HP.out _ B2.out).mono ?_
  rintro e w3 ⟨rfl, hb3⟩
  have B3 := hid (B2.out.trans (hb3.mono B2.out.size))
  have cY3 := (hb3.cell (p := ⟨g1, 0, none⟩) hg2).trans cY2
  clear hb3 cY2
  go_wp2_with fail
  refine (HE.out _ B3.out).mono ?_
  rintro e w4 ⟨rfl, hb4⟩
  have B4 := hid (B3.out.trans (hb4.mono B3.out.size))
  clear hb4 cY3
  have e3 : ((2 + E.eat 1 (alE.drop 2) : Nat) : Int) = 3 := by kernel_rfl
  rw [e3]
  go_wp2_with fail
  refine (HKd.out _ B4.out).mono ?_
  rintro e w5 ⟨v5, rfl, o5, hb5⟩
  have B5 := hid (B4.out.trans (hb5.mono B4.out.size))
  obtain ⟨A5, c5, hv5, -⟩ := o5.rd
  have e5 : (E.kidsL alE (E.many alE[1]).toNat (1 + 1)).length = 2 := by kernel_rfl
  rw [e5] at hv5
  subst hv5
  clear hb5 o5
  go_wp2
  go_ret
  exact ⟨rfl, B0.out.trans (B5.out.mono B0.out.size)⟩

end Go.Proofs.YthbieinbpfjgkaaGreatDoor
end
