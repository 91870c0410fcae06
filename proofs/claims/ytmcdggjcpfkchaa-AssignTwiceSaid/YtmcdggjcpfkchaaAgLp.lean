/-
  A slice of nodes that comes in, read as nodes; what its numbers and texts can be. No conditions.
-/
import Derived.Test.YtmcdggjcpfkchaaRows
import Derived.Test.YtmcdggjcpfkchaaM1
import Derived.ProofKit
import Derived.LaidMore
import Derived.OpenShut
import Derived.Stop.Joined
import Derived.Deep.Slices
import Derived.Deep.Fields
import Derived.ChangeSame
import Derived.Carry
namespace Go.Proofs.Ytmcdggjcpfkchaa
open Go.ChangeShapes Go.WideShapes Go.ChangeAt Go.RowKit Go.Deep

theorem oneNode : ∃ fs, Try.prog.underlying 29 = some (.struct fs) ∧ oneCellFields Try.prog fs = true ∧ fs.size = 3 ∧ (fs[0]?).map (·.type) = some 3 ∧ (fs[1]?).map (·.type) = some 9 ∧ (fs[2]?).map (·.type) = some 3 :=
  ⟨_, Try.underlying29, by kernel_rfl, by kernel_rfl, by kernel_rfl, by kernel_rfl, by kernel_rfl⟩

theorem cellsNode : Try.prog.cellsOf 29 = 3 := by kernel_rfl

theorem int_ge {z : Int} (h : (Lit.int .i64 z).wf = true) : -9223372036854775808 ≤ z := by
  simp only [Lit.wf, Bool.and_eq_true, decide_eq_true_eq] at h
  exact h.1

theorem int_le {z : Int} (h : (Lit.int .i64 z).wf = true) : z ≤ 9223372036854775807 := by
  simp only [Lit.wf, Bool.and_eq_true, decide_eq_true_eq] at h
  exact h.2

set_option maxRecDepth 100000 in
theorem rd3_of_trod {H : Type} {enc : TypeId × Value → H} {W : World} {fuel : Nat} {cs : List Value} {x : DataW H × List MemPlace} (h : DataW.trod enc Try.prog W 0 (fun _ => true) true fuel 25 cs = some x) :
    ∃ v l, cs = [v] ∧ Rd W W.heap.size v l ∧ ∀ y ∈ l, y.n ≤ 9223372036854775807 ∧ y.name.size ≤ 9223372036854775807 ∧ -9223372036854775808 ≤ y.n := by
  rcases open_slice Try.underlying25 h with ⟨h0, _⟩ | ⟨a, len, cap, m, n, D, Pl, hcs, _, hl, hm, hmm, _, hi⟩
  · exact ⟨_, [], h0, ⟨none, 0, rfl, by simp, Nat.zero_le _, fun _ => rfl, fun h => absurd rfl h⟩, by simp⟩
  · have hmc : m = cap := by rw [hmm]; simp
    obtain ⟨fs, hu, hone, hsz, ht0, ht1, ht2⟩ := oneNode
    have hel : ∀ i, ∃ y : L.Nd, i < len → a.spot = none ∧ W.cell? ⟨a.block, a.off + i * 3, none⟩ = some (.int .i64 y.kind) ∧ W.cell? ⟨a.block, a.off + i * 3 + 1, none⟩ = some (.string y.name) ∧ W.cell? ⟨a.block, a.off + i * 3 + 2, none⟩ = some (.int .i64 y.n) ∧ y.n ≤ 9223372036854775807 ∧ y.name.size ≤ 9223372036854775807 ∧ -9223372036854775808 ≤ y.n := by
      intro i
      by_cases hlt : i < len
      · have hsp : a.spot = none := by
          obtain ⟨c4, hc, -⟩ := hi 0 (by omega)
          rw [cellsNode] at hc
          obtain ⟨_, hcl, hat⟩ := World.cells?_some hc
          have e := hat 0 (by omega)
          have e2 : c4[0]? = some c4[0] := List.getElem?_eq_getElem (by omega)
          rw [e2] at e
          simpa [Addr.add] using World.cell?_spot e
        have had : ∀ k, a.add k = ⟨a.block, a.off + k, none⟩ := fun k => by
          obtain ⟨b, o, s⟩ := a
          simp only at hsp
          subst hsp
          simp [Addr.add]
        have hadd : ∀ (b o k : Nat), (⟨b, o, none⟩ : Addr).add k = ⟨b, o + k, none⟩ := fun b o k => by simp [Addr.add]
        obtain ⟨c4, hc, hd⟩ := hi i (by omega)
        rw [cellsNode, had] at hc
        obtain ⟨_, hcl, hat⟩ := World.cells?_some hc
        simp only [hadd] at hat
        obtain ⟨ys, n', _, _, _, hyl, hf⟩ := DataW.trod_struct hu hd
        obtain ⟨f0, hf0, he0⟩ := Option.map_eq_some_iff.1 ht0
        obtain ⟨f1, hf1, he1⟩ := Option.map_eq_some_iff.1 ht1
        obtain ⟨f2, hf2, he2⟩ := Option.map_eq_some_iff.1 ht2
        have g0 := hf 0 f0 hf0
        have g1 := hf 1 f1 hf1
        have g2 := hf 2 f2 hf2
        obtain ⟨o0, k0⟩ := hone_of hone 0 f0 hf0
        obtain ⟨o1, k1⟩ := hone_of hone 1 f1 hf1
        obtain ⟨o2, k2⟩ := hone_of hone 2 f2 hf2
        rw [o0, k0, he0, List.getElem?_eq_getElem (by omega : 0 < ys.length)] at g0
        rw [o1, k1, he1, List.getElem?_eq_getElem (by omega : 1 < ys.length)] at g1
        rw [o2, k2, he2, List.getElem?_eq_getElem (by omega : 2 < ys.length)] at g2
        obtain ⟨z, hz, _, _⟩ := DataW.trod_int Try.underlying3 g0
        obtain ⟨t, hs, _, hsl⟩ := DataW.trod_string Try.underlying9 g1
        obtain ⟨u, hu2, _, hw⟩ := DataW.trod_int Try.underlying3 g2
        refine ⟨⟨z, t, u⟩, fun _ => ⟨hsp, ?_, ?_, ?_, int_le hw, by unfold maxLen at hsl; exact hsl, int_ge hw⟩⟩
        · have e := hat 0 (by omega)
          have e2 : c4[0]? = some (.int .i64 z) := by
            have := congrArg (·[0]?) hz
            simpa [List.getElem?_take, List.getElem?_drop] using this
          rw [e2] at e
          exact e
        · have e := hat 1 (by omega)
          have e2 : c4[1]? = some (.string t) := by
            have := congrArg (·[0]?) hs
            simpa [List.getElem?_take, List.getElem?_drop] using this
          rw [e2] at e
          exact e
        · have e := hat 2 (by omega)
          have e2 : c4[2]? = some (.int .i64 u) := by
            have := congrArg (·[0]?) hu2
            simpa [List.getElem?_take, List.getElem?_drop] using this
          rw [e2] at e
          exact e
      · exact ⟨⟨0, ⟨#[]⟩, 0⟩, fun hh => absurd hh hlt⟩
    obtain ⟨F, hF⟩ := Classical.axiomOfChoice hel
    refine ⟨_, (List.range len).map F, hcs, ⟨some a, cap, by simp, by simpa using hl, hm, fun h => by simp at h, fun hn => ?_⟩, ?_⟩
    · have h0 : 0 < len := by simp at hn; omega
      obtain ⟨hsp, -⟩ := hF 0 h0
      obtain ⟨b, o, s⟩ := a
      simp only at hsp hF
      subst hsp
      refine ⟨b, o, rfl, cell_lt (hF 0 h0).2.1, fun i hi2 => ?_⟩
      have hi3 : i < len := by simpa using hi2
      have := hF i hi3
      simpa using ⟨this.2.1, this.2.2.1, this.2.2.2.1⟩
    · intro y hy
      obtain ⟨i, hi2, rfl⟩ := List.mem_map.1 hy
      exact (hF i (List.mem_range.1 hi2)).2.2.2.2

theorem rd_of_trod {H : Type} {enc : TypeId × Value → H} {W : World} {fuel : Nat} {cs : List Value} {x : DataW H × List MemPlace} (h : DataW.trod enc Try.prog W 0 (fun _ => true) true fuel 25 cs = some x) :
    ∃ v l, cs = [v] ∧ Rd W W.heap.size v l ∧ ∀ y ∈ l, y.n ≤ 9223372036854775807 ∧ y.name.size ≤ 9223372036854775807 := by
  obtain ⟨v, l, h1, h2, h3⟩ := rd3_of_trod h
  exact ⟨v, l, h1, h2, fun y hy => ⟨(h3 y hy).1, (h3 y hy).2.1⟩⟩

end Go.Proofs.Ytmcdggjcpfkchaa
