/-
  A slice of parts that comes in, read as parts. No conditions.
-/
import Derived.Test.YtmcdggjcpfkchaaAgLp
import Derived.Test.YtmcdggjcpfkchaaMA1
namespace Go.Proofs.Ytmcdggjcpfkchaa
open Go.ChangeShapes Go.WideShapes Go.ChangeAt Go.RowKit Go.Deep

/-- The types' numbers are numbers of the machine's. -/
def NumP (y : E.Pt) : Prop := (∀ z ∈ y.t, -9223372036854775808 ≤ z.n ∧ z.n ≤ 9223372036854775807) ∧ ∀ z ∈ y.u, -9223372036854775808 ≤ z.n ∧ z.n ≤ 9223372036854775807

theorem onePart : ∃ fs, Try.prog.underlying 49 = some (.struct fs) ∧ oneCellFields Try.prog fs = true ∧ fs.size = 8 ∧ (fs[0]?).map (·.type) = some 3 ∧ (fs[1]?).map (·.type) = some 9 ∧ (fs[2]?).map (·.type) = some 9 ∧ (fs[3]?).map (·.type) = some 9 ∧ (fs[4]?).map (·.type) = some 3 ∧ (fs[5]?).map (·.type) = some 2 ∧ (fs[6]?).map (·.type) = some 25 ∧ (fs[7]?).map (·.type) = some 25 :=
  ⟨_, Try.underlying49, by kernel_rfl, by kernel_rfl, by kernel_rfl, by kernel_rfl, by kernel_rfl, by kernel_rfl, by kernel_rfl, by kernel_rfl, by kernel_rfl, by kernel_rfl⟩

theorem cellsPart : Try.prog.cellsOf 49 = 8 := by kernel_rfl

set_option maxRecDepth 100000 in
theorem rdp_of_trod {H : Type} {enc : TypeId × Value → H} {W : World} {fuel : Nat} {cs : List Value} {x : DataW H × List MemPlace} (h : DataW.trod enc Try.prog W 0 (fun _ => true) true fuel 32 cs = some x) :
    ∃ v l, cs = [v] ∧ RdP W W.heap.size v l ∧ ∀ y ∈ l, NumP y := by
  rcases open_slice Try.underlying32 h with ⟨h0, _⟩ | ⟨a, len, cap, m, n, D, Pl, hcs, _, hl, hm, hmm, _, hi⟩
  · exact ⟨_, [], h0, ⟨none, 0, rfl, by simp, Nat.zero_le _, fun h => absurd rfl h⟩, by simp⟩
  · have hmc : m = cap := by rw [hmm]; simp
    obtain ⟨fs, hu, hone, hsz, ht0, ht1, ht2, ht3, ht4, ht5, ht6, ht7⟩ := onePart
    have hel : ∀ i, ∃ y : E.Pt × Value × Value, i < len → a.spot = none ∧ W.cell? ⟨a.block, a.off + i * 8, none⟩ = some (.int .i64 y.1.kind) ∧ W.cell? ⟨a.block, a.off + i * 8 + 1, none⟩ = some (.string y.1.label) ∧ W.cell? ⟨a.block, a.off + i * 8 + 2, none⟩ = some (.string y.1.name) ∧ W.cell? ⟨a.block, a.off + i * 8 + 3, none⟩ = some (.string y.1.bind) ∧
        W.cell? ⟨a.block, a.off + i * 8 + 4, none⟩ = some (.int .i64 y.1.many) ∧ W.cell? ⟨a.block, a.off + i * 8 + 5, none⟩ = some (.int .i64 y.1.num) ∧ W.cell? ⟨a.block, a.off + i * 8 + 6, none⟩ = some y.2.1 ∧ W.cell? ⟨a.block, a.off + i * 8 + 7, none⟩ = some y.2.2 ∧ Rd W W.heap.size y.2.1 y.1.t ∧ Rd W W.heap.size y.2.2 y.1.u ∧ NumP y.1 := by
      intro i
      by_cases hlt : i < len
      · have hsp : a.spot = none := by
          obtain ⟨c4, hc, -⟩ := hi 0 (by omega)
          rw [cellsPart] at hc
          obtain ⟨_, hcl, hat⟩ := World.cells?_some hc
          have e := hat 0 (by omega)
          have e2 : c4[0]? = some c4[0] := List.getElem?_eq_getElem (by omega)
          rw [e2] at e
          simpa [Addr.add] using World.cell?_spot e
        have had : ∀ k, a.add k = ⟨a.block, a.off + k, none⟩ := fun k => by
          obtain ⟨b, o, s⟩ := a
          simp only at hsp
          subst hsp
          simp [Addr.add]
        have hadd : ∀ (b o k : Nat), (⟨b, o, none⟩ : Addr).add k = ⟨b, o + k, none⟩ := fun b o k => by simp [Addr.add]
        obtain ⟨c4, hc, hd⟩ := hi i (by omega)
        rw [cellsPart, had] at hc
        obtain ⟨_, hcl, hat⟩ := World.cells?_some hc
        simp only [hadd] at hat
        obtain ⟨ys, n', _, _, _, hyl, hf⟩ := DataW.trod_struct hu hd
        obtain ⟨f0, hf0, he0⟩ := Option.map_eq_some_iff.1 ht0
        obtain ⟨f1, hf1, he1⟩ := Option.map_eq_some_iff.1 ht1
        obtain ⟨f2, hf2, he2⟩ := Option.map_eq_some_iff.1 ht2
        obtain ⟨f3, hf3, he3⟩ := Option.map_eq_some_iff.1 ht3
        obtain ⟨f4, hf4, he4⟩ := Option.map_eq_some_iff.1 ht4
        obtain ⟨f5, hf5, he5⟩ := Option.map_eq_some_iff.1 ht5
        obtain ⟨f6, hf6, he6⟩ := Option.map_eq_some_iff.1 ht6
        obtain ⟨f7, hf7, he7⟩ := Option.map_eq_some_iff.1 ht7
        have g0 := hf 0 f0 hf0
        have g1 := hf 1 f1 hf1
        have g2 := hf 2 f2 hf2
        have g3 := hf 3 f3 hf3
        have g4 := hf 4 f4 hf4
        have g5 := hf 5 f5 hf5
        have g6 := hf 6 f6 hf6
        have g7 := hf 7 f7 hf7
        obtain ⟨o0, k0⟩ := hone_of hone 0 f0 hf0
        obtain ⟨o1, k1⟩ := hone_of hone 1 f1 hf1
        obtain ⟨o2, k2⟩ := hone_of hone 2 f2 hf2
        obtain ⟨o3, k3⟩ := hone_of hone 3 f3 hf3
        obtain ⟨o4, k4⟩ := hone_of hone 4 f4 hf4
        obtain ⟨o5, k5⟩ := hone_of hone 5 f5 hf5
        obtain ⟨o6, k6⟩ := hone_of hone 6 f6 hf6
        obtain ⟨o7, k7⟩ := hone_of hone 7 f7 hf7
        rw [o0, k0, he0, List.getElem?_eq_getElem (by omega : 0 < ys.length)] at g0
        rw [o1, k1, he1, List.getElem?_eq_getElem (by omega : 1 < ys.length)] at g1
        rw [o2, k2, he2, List.getElem?_eq_getElem (by omega : 2 < ys.length)] at g2
        rw [o3, k3, he3, List.getElem?_eq_getElem (by omega : 3 < ys.length)] at g3
        rw [o4, k4, he4, List.getElem?_eq_getElem (by omega : 4 < ys.length)] at g4
        rw [o5, k5, he5, List.getElem?_eq_getElem (by omega : 5 < ys.length)] at g5
        rw [o6, k6, he6, List.getElem?_eq_getElem (by omega : 6 < ys.length)] at g6
        rw [o7, k7, he7, List.getElem?_eq_getElem (by omega : 7 < ys.length)] at g7
        obtain ⟨z0, e0, _, _⟩ := DataW.trod_int Try.underlying3 g0
        obtain ⟨z1, e1, _, _⟩ := DataW.trod_string Try.underlying9 g1
        obtain ⟨z2, e2, _, _⟩ := DataW.trod_string Try.underlying9 g2
        obtain ⟨z3, e3, _, _⟩ := DataW.trod_string Try.underlying9 g3
        obtain ⟨z4, e4, _, _⟩ := DataW.trod_int Try.underlying3 g4
        obtain ⟨z5, e5, _, _⟩ := DataW.trod_int Try.underlying2 g5
        obtain ⟨v6, l6, e6, R6, N6⟩ := rd3_of_trod g6
        have N6 : ∀ z ∈ l6, -9223372036854775808 ≤ z.n ∧ z.n ≤ 9223372036854775807 := fun x hx => ⟨(N6 x hx).2.2, (N6 x hx).1⟩
        obtain ⟨v7, l7, e7, R7, N7⟩ := rd3_of_trod g7
        have N7 : ∀ z ∈ l7, -9223372036854775808 ≤ z.n ∧ z.n ≤ 9223372036854775807 := fun x hx => ⟨(N7 x hx).2.2, (N7 x hx).1⟩
        refine ⟨(⟨z0, z1, z2, z3, z4, z5, l6, l7⟩, v6, v7), fun _ => ⟨hsp, ?_, ?_, ?_, ?_, ?_, ?_, ?_, ?_, R6, R7, N6, N7⟩⟩
        · have e := hat 0 (by omega)
          have e2 : c4[0]? = some (.int .i64 z0) := by
            have := congrArg (·[0]?) e0
            simpa [List.getElem?_take, List.getElem?_drop] using this
          rw [e2] at e
          exact e
        · have e := hat 1 (by omega)
          have e2 : c4[1]? = some (.string z1) := by
            have := congrArg (·[0]?) e1
            simpa [List.getElem?_take, List.getElem?_drop] using this
          rw [e2] at e
          exact e
        · have e := hat 2 (by omega)
          have e2 : c4[2]? = some (.string z2) := by
            have := congrArg (·[0]?) e2
            simpa [List.getElem?_take, List.getElem?_drop] using this
          rw [e2] at e
          exact e
        · have e := hat 3 (by omega)
          have e2 : c4[3]? = some (.string z3) := by
            have := congrArg (·[0]?) e3
            simpa [List.getElem?_take, List.getElem?_drop] using this
          rw [e2] at e
          exact e
        · have e := hat 4 (by omega)
          have e2 : c4[4]? = some (.int .i64 z4) := by
            have := congrArg (·[0]?) e4
            simpa [List.getElem?_take, List.getElem?_drop] using this
          rw [e2] at e
          exact e
        · have e := hat 5 (by omega)
          have e2 : c4[5]? = some (.int .i64 z5) := by
            have := congrArg (·[0]?) e5
            simpa [List.getElem?_take, List.getElem?_drop] using this
          rw [e2] at e
          exact e
        · have e := hat 6 (by omega)
          have e2 : c4[6]? = some v6 := by
            have := congrArg (·[0]?) e6
            simpa [List.getElem?_take, List.getElem?_drop] using this
          rw [e2] at e
          exact e
        · have e := hat 7 (by omega)
          have e2 : c4[7]? = some v7 := by
            have := congrArg (·[0]?) e7
            simpa [List.getElem?_take, List.getElem?_drop] using this
          rw [e2] at e
          exact e
      · exact ⟨(⟨0, ⟨#[]⟩, ⟨#[]⟩, ⟨#[]⟩, 0, 0, [], []⟩, .nilFunc, .nilFunc), fun hh => absurd hh hlt⟩
    obtain ⟨F, hF⟩ := Classical.axiomOfChoice hel
    refine ⟨_, (List.range len).map (fun i => (F i).1), hcs, ⟨some a, cap, by simp, by simpa using hl, hm, fun hn => ?_⟩, ?_⟩
    · have h0 : 0 < len := by simp at hn; omega
      obtain ⟨hsp, -⟩ := hF 0 h0
      obtain ⟨b, o, s⟩ := a
      simp only at hsp hF
      subst hsp
      refine ⟨b, o, rfl, cell_lt (hF 0 h0).2.1, fun i hi2 => ?_⟩
      have hi3 : i < len := by simpa using hi2
      obtain ⟨-, c0, c1, c2, c3, c4, c5, c6, c7, r6, r7, -⟩ := hF i hi3
      exact ⟨(F i).2.1, (F i).2.2, by simpa using c0, by simpa using c1, by simpa using c2, by simpa using c3, by simpa using c4, by simpa using c5, c6, c7, by simpa using r6, by simpa using r7⟩
    · intro y hy
      obtain ⟨i, hi2, rfl⟩ := List.mem_map.1 hy
      exact (hF i (List.mem_range.1 hi2)).2.2.2.2.2.2.2.2.2.2.2

end Go.Proofs.Ytmcdggjcpfkchaa
