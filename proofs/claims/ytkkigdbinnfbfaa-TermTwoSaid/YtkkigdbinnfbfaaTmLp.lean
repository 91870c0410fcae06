/-
  Slices of nodes and of types that come in, read as such; what their numbers and texts can be; arrays of two types. No conditions.
-/
import Derived.Test.YtkkigdbinnfbfaaRows
import Derived.Test.YtkkigdbinnfbfaaM1
import Derived.Test.YtkkigdbinnfbfaaTmC
import Derived.ProofKit
import Derived.LaidMore
import Derived.OpenShut
import Derived.Stop.Joined
import Derived.Deep.Slices
import Derived.Deep.Fields
import Derived.ChangeSame
import Derived.Carry
namespace Go.Proofs.Ytkkigdbinnfbfaa
open Go.ChangeShapes Go.WideShapes Go.ChangeAt Go.RowKit Go.Deep

theorem oneNode : ∃ fs, Try.prog.underlying 39 = some (.struct fs) ∧ oneCellFields Try.prog fs = true ∧ fs.size = 3 ∧ (fs[0]?).map (·.type) = some 3 ∧ (fs[1]?).map (·.type) = some 9 ∧ (fs[2]?).map (·.type) = some 3 :=
  ⟨_, Try.underlying39, by kernel_rfl, by kernel_rfl, by kernel_rfl, by kernel_rfl, by kernel_rfl⟩

theorem cellsNode : Try.prog.cellsOf 39 = 3 := by kernel_rfl

theorem int_ge {z : Int} (h : (Lit.int .i64 z).wf = true) : -9223372036854775808 ≤ z := by
  simp only [Lit.wf, Bool.and_eq_true, decide_eq_true_eq] at h
  exact h.1

theorem int_le {z : Int} (h : (Lit.int .i64 z).wf = true) : z ≤ 9223372036854775807 := by
  simp only [Lit.wf, Bool.and_eq_true, decide_eq_true_eq] at h
  exact h.2

set_option maxRecDepth 100000 in
theorem rd3_of_trod {H : Type} {enc : TypeId × Value → H} {W : World} {fuel : Nat} {cs : List Value} {x : DataW H × List MemPlace} (h : DataW.trod enc Try.prog W 0 (fun _ => true) true fuel 23 cs = some x) :
    ∃ v l, cs = [v] ∧ Rd W W.heap.size v l ∧ ∀ y ∈ l, y.n ≤ 9223372036854775807 ∧ y.name.size ≤ 9223372036854775807 ∧ -9223372036854775808 ≤ y.n := by
  rcases open_slice Try.underlying23 h with ⟨h0, _⟩ | ⟨a, len, cap, m, n, D, Pl, hcs, _, hl, hm, hmm, _, hi⟩
  · exact ⟨_, [], h0, ⟨none, 0, rfl, by simp, Nat.zero_le _, fun _ => rfl, fun h => absurd rfl h⟩, by simp⟩
  · have hmc : m = cap := by rw [hmm]; simp
    obtain ⟨fs, hu, hone, hsz, ht0, ht1, ht2⟩ := oneNode
    have hel : ∀ i, ∃ y : L.Nd, i < len → a.spot = none ∧ W.cell? ⟨a.block, a.off + i * 3, none⟩ = some (.int .i64 y.kind) ∧ W.cell? ⟨a.block, a.off + i * 3 + 1, none⟩ = some (.string y.name) ∧ W.cell? ⟨a.block, a.off + i * 3 + 2, none⟩ = some (.int .i64 y.n) ∧ y.n ≤ 9223372036854775807 ∧ y.name.size ≤ 9223372036854775807 ∧ -9223372036854775808 ≤ y.n := by
      intro i
      by_cases hlt : i < len
      · have hsp : a.spot = none := by
          obtain ⟨c4, hc, -⟩ := hi 0 (by omega)
          rw [cellsNode] at hc
          obtain ⟨_, hcl, hat⟩ := World.cells?_some hc
          have e := hat 0 (by omega)
          have e2 : c4[0]? = some c4[0] := List.getElem?_eq_getElem (by omega)
          rw [e2] at e
          simpa [Addr.add] using World.cell?_spot e
        have had : ∀ k, a.add k = ⟨a.block, a.off + k, none⟩ := fun k => by
          obtain ⟨b, o, s⟩ := a
          simp only at hsp
          subst hsp
          simp [Addr.add]
        have hadd : ∀ (b o k : Nat), (⟨b, o, none⟩ : Addr).add k = ⟨b, o + k, none⟩ := fun b o k => by simp [Addr.add]
        obtain ⟨c4, hc, hd⟩ := hi i (by omega)
        rw [cellsNode, had] at hc
        obtain ⟨_, hcl, hat⟩ := World.cells?_some hc
        simp only [hadd] at hat
        obtain ⟨ys, n', _, _, _, hyl, hf⟩ := DataW.trod_struct hu hd
        obtain ⟨f0, hf0, he0⟩ := Option.map_eq_some_iff.1 ht0
        obtain ⟨f1, hf1, he1⟩ := Option.map_eq_some_iff.1 ht1
        obtain ⟨f2, hf2, he2⟩ := Option.map_eq_some_iff.1 ht2
        have g0 := hf 0 f0 hf0
        have g1 := hf 1 f1 hf1
        have g2 := hf 2 f2 hf2
        obtain ⟨o0, k0⟩ := hone_of hone 0 f0 hf0
        obtain ⟨o1, k1⟩ := hone_of hone 1 f1 hf1
        obtain ⟨o2, k2⟩ := hone_of hone 2 f2 hf2
        rw [o0, k0, he0, List.getElem?_eq_getElem (by omega : 0 < ys.length)] at g0
        rw [o1, k1, he1, List.getElem?_eq_getElem (by omega : 1 < ys.length)] at g1
        rw [o2, k2, he2, List.getElem?_eq_getElem (by omega : 2 < ys.length)] at g2
        obtain ⟨z, hz, _, _⟩ := DataW.trod_int Try.underlying3 g0
        obtain ⟨t, hs, _, hsl⟩ := DataW.trod_string Try.underlying9 g1
        obtain ⟨u, hu2, _, hw⟩ := DataW.trod_int Try.underlying3 g2
        refine ⟨⟨z, t, u⟩, fun _ => ⟨hsp, ?_, ?_, ?_, int_le hw, by unfold maxLen at hsl; exact hsl, int_ge hw⟩⟩
        · have e := hat 0 (by omega)
          have e2 : c4[0]? = some (.int .i64 z) := by
            have := congrArg (·[0]?) hz
            simpa [List.getElem?_take, List.getElem?_drop] using this
          rw [e2] at e
          exact e
        · have e := hat 1 (by omega)
          have e2 : c4[1]? = some (.string t) := by
            have := congrArg (·[0]?) hs
            simpa [List.getElem?_take, List.getElem?_drop] using this
          rw [e2] at e
          exact e
        · have e := hat 2 (by omega)
          have e2 : c4[2]? = some (.int .i64 u) := by
            have := congrArg (·[0]?) hu2
            simpa [List.getElem?_take, List.getElem?_drop] using this
          rw [e2] at e
          exact e
      · exact ⟨⟨0, ⟨#[]⟩, 0⟩, fun hh => absurd hh hlt⟩
    obtain ⟨F, hF⟩ := Classical.axiomOfChoice hel
    refine ⟨_, (List.range len).map F, hcs, ⟨some a, cap, by simp, by simpa using hl, hm, fun h => by simp at h, fun hn => ?_⟩, ?_⟩
    · have h0 : 0 < len := by simp at hn; omega
      obtain ⟨hsp, -⟩ := hF 0 h0
      obtain ⟨b, o, s⟩ := a
      simp only at hsp hF
      subst hsp
      refine ⟨b, o, rfl, cell_lt (hF 0 h0).2.1, fun i hi2 => ?_⟩
      have hi3 : i < len := by simpa using hi2
      have := hF i hi3
      simpa using ⟨this.2.1, this.2.2.1, this.2.2.2.1⟩
    · intro y hy
      obtain ⟨i, hi2, rfl⟩ := List.mem_map.1 hy
      exact (hF i (List.mem_range.1 hi2)).2.2.2.2

theorem rd_of_trod {H : Type} {enc : TypeId × Value → H} {W : World} {fuel : Nat} {cs : List Value} {x : DataW H × List MemPlace} (h : DataW.trod enc Try.prog W 0 (fun _ => true) true fuel 23 cs = some x) :
    ∃ v l, cs = [v] ∧ Rd W W.heap.size v l ∧ ∀ y ∈ l, y.n ≤ 9223372036854775807 ∧ y.name.size ≤ 9223372036854775807 := by
  obtain ⟨v, l, h1, h2, h3⟩ := rd3_of_trod h
  exact ⟨v, l, h1, h2, fun y hy => ⟨(h3 y hy).1, (h3 y hy).2.1⟩⟩

/-- What comes in at a node. -/
def InN (y : L.Nd) : Prop := y.n ≤ 9223372036854775807 ∧ y.name.size ≤ 9223372036854775807 ∧ -9223372036854775808 ≤ y.n

theorem cellsTyp : Try.prog.cellsOf 23 = 1 := by kernel_rfl

set_option maxRecDepth 100000 in
theorem rdr_of_trod {H : Type} {enc : TypeId × Value → H} {W : World} {fuel : Nat} {cs : List Value} {x : DataW H × List MemPlace} (h : DataW.trod enc Try.prog W 0 (fun _ => true) true fuel 27 cs = some x) :
    ∃ v ts, cs = [v] ∧ RdR W W.heap.size v ts ∧ ∀ t ∈ ts, ∀ y ∈ t.2, InN y := by
  rcases open_slice Try.underlying27 h with ⟨h0, _⟩ | ⟨a, len, cap, m, n, D, Pl, hcs, _, hl, hm, hmm, _, hi⟩
  · exact ⟨_, [], h0, ⟨⟨none, 0, rfl, by simp, Nat.zero_le _, fun _ => rfl, fun h => absurd rfl h⟩, by simp⟩, by simp⟩
  · have hmc : m = cap := by rw [hmm]; simp
    have hel : ∀ i, ∃ y : VT, i < len → a.spot = none ∧ W.cell? ⟨a.block, a.off + i, none⟩ = some y.1 ∧ Rd W W.heap.size y.1 y.2 ∧ ∀ z ∈ y.2, InN z := by
      intro i
      by_cases hlt : i < len
      · have hsp : a.spot = none := by
          obtain ⟨c4, hc, hd⟩ := hi 0 (by omega)
          rw [cellsTyp] at hc
          obtain ⟨_, hcl, hat⟩ := World.cells?_some hc
          have e := hat 0 (by omega)
          have e2 : c4[0]? = some c4[0] := List.getElem?_eq_getElem (by omega)
          rw [e2] at e
          simpa [Addr.add] using World.cell?_spot e
        have had : ∀ k, a.add k = ⟨a.block, a.off + k, none⟩ := fun k => by
          obtain ⟨b, o, s⟩ := a
          simp only at hsp
          subst hsp
          simp [Addr.add]
        have hadd : ∀ (b o k : Nat), (⟨b, o, none⟩ : Addr).add k = ⟨b, o + k, none⟩ := fun b o k => by simp [Addr.add]
        obtain ⟨c4, hc, hd⟩ := hi i (by omega)
        rw [cellsTyp, had] at hc
        obtain ⟨_, hcl, hat⟩ := World.cells?_some hc
        simp only [hadd] at hat
        obtain ⟨v1, l1, e1, R1, hn1⟩ := rd3_of_trod hd
        have e := hat 0 (by omega)
        rw [e1] at e
        exact ⟨(v1, l1), fun _ => ⟨hsp, by simpa using e, R1, hn1⟩⟩
      · exact ⟨(.nilFunc, []), fun hh => absurd hh hlt⟩
    obtain ⟨F, hF⟩ := Classical.axiomOfChoice hel
    refine ⟨_, (List.range len).map F, hcs, ⟨⟨some a, cap, by simp, by simpa using hl, hm, by simp, fun hn => ?_⟩, ?_⟩, ?_⟩
    · have h0 : 0 < len := by simp at hn; omega
      obtain ⟨hsp, hc0, -⟩ := hF 0 h0
      obtain ⟨b, o, s⟩ := a
      simp only at hsp hF hc0
      subst hsp
      refine ⟨b, o, rfl, cell_lt hc0, fun i hi2 => ?_⟩
      have hi3 : i < len := by simpa using hi2
      have := hF i hi3
      simpa using this.2.1
    · intro t ht
      obtain ⟨i, hi2, rfl⟩ := List.mem_map.1 ht
      exact (hF i (List.mem_range.1 hi2)).2.2.1
    · intro t ht
      obtain ⟨i, hi2, rfl⟩ := List.mem_map.1 ht
      exact (hF i (List.mem_range.1 hi2)).2.2.2

set_option maxRecDepth 100000 in
theorem two_of_trod {H : Type} {enc : TypeId × Value → H} {W : World} {fuel : Nat} {v1 : Value} {cs1 : Array Value} {x : DataW H × List MemPlace} (hv1 : v1 = .agg cs1) (hf1 : DataW.trod enc Try.prog W 0 (fun _ => true) true fuel 25 v1.cells.toList = some x) :
    ∃ va vb la lb, v1 = .agg #[va, vb] ∧ Rd W W.heap.size va la ∧ Rd W W.heap.size vb lb ∧ (∀ y ∈ la, InN y) ∧ ∀ y ∈ lb, InN y := by
  obtain ⟨xs, m, -, -, hcl, hxl, hx⟩ := DataW.trod_array Try.underlying25 hf1
  have c1 : Try.prog.cellsOf 23 = 1 := by kernel_rfl
  have c2 : Try.prog.cellsOf 25 = 2 := by kernel_rfl
  rw [c2] at hcl
  subst hv1
  obtain ⟨cl⟩ := cs1
  have hcl2 : cl.length = 2 := by simpa [Value.cells] using hcl
  match cl, hcl2 with
  | [x0, x1], _ =>
    have g0 := hx 0 (by omega)
    have g1 := hx 1 (by omega)
    rw [c1, List.getElem?_eq_getElem (by omega : 0 < xs.length)] at g0
    rw [c1, List.getElem?_eq_getElem (by omega : 1 < xs.length)] at g1
    obtain ⟨v0, l0, h0, r0, n0⟩ := rd3_of_trod g0
    obtain ⟨v1, l1, h1, r1, n1⟩ := rd3_of_trod g1
    simp [Value.cells] at h0 h1
    subst h0 h1
    exact ⟨x0, x1, l0, l1, rfl, r0, r1, n0, n1⟩

set_option maxRecDepth 100000 in
theorem ints_of_trod {H : Type} {enc : TypeId × Value → H} {W : World} {fuel : Nat} {v1 : Value} {cs1 : Array Value} {x : DataW H × List MemPlace} (hv1 : v1 = .agg cs1) (hf1 : DataW.trod enc Try.prog W 0 (fun _ => true) true fuel 24 v1.cells.toList = some x) :
    ∃ a b : Int, v1 = .agg #[.int .i64 a, .int .i64 b] := by
  obtain ⟨xs, m, -, -, hcl, hxl, hx⟩ := DataW.trod_array Try.underlying24 hf1
  have c1 : Try.prog.cellsOf 3 = 1 := by kernel_rfl
  have c2 : Try.prog.cellsOf 24 = 2 := by kernel_rfl
  rw [c2] at hcl
  subst hv1
  obtain ⟨cl⟩ := cs1
  have hcl2 : cl.length = 2 := by simpa [Value.cells] using hcl
  match cl, hcl2 with
  | [x0, x1], _ =>
    have g0 := hx 0 (by omega)
    have g1 := hx 1 (by omega)
    rw [c1, List.getElem?_eq_getElem (by omega : 0 < xs.length)] at g0
    rw [c1, List.getElem?_eq_getElem (by omega : 1 < xs.length)] at g1
    obtain ⟨z0, h0, -, -⟩ := DataW.trod_int Try.underlying3 g0
    obtain ⟨z1, h1, -, -⟩ := DataW.trod_int Try.underlying3 g1
    simp [Value.cells] at h0 h1
    exact ⟨z0, z1, by rw [h0, h1]⟩

end Go.Proofs.Ytkkigdbinnfbfaa
