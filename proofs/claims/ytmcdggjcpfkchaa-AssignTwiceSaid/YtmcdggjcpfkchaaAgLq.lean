/-
  Slices of choices that come in, read as choices. No conditions.
-/
import Derived.Test.YtmcdggjcpfkchaaAgA
import Derived.Test.YtmcdggjcpfkchaaAgLp
namespace Go.Proofs.Ytmcdggjcpfkchaa
open Go.ChangeShapes Go.WideShapes Go.ChangeAt Go.RowKit Go.Deep

theorem cell_ltz {w : World} {a : Addr} {v : Value} (h : w.cell? a = some v) : a.block < w.heap.size := by
  refine Nat.lt_of_not_le fun hn => ?_
  unfold World.cell? at h
  rw [Array.getElem?_eq_none hn] at h
  cases h
theorem oneCh : ∃ fs, Try.prog.underlying 27 = some (.struct fs) ∧ oneCellFields Try.prog fs = true ∧ fs.size = 2 ∧ (fs[0]?).map (·.type) = some 3 ∧ (fs[1]?).map (·.type) = some 25 :=
  ⟨_, Try.underlying27, by kernel_rfl, by kernel_rfl, by kernel_rfl, by kernel_rfl⟩
theorem cellsCh : Try.prog.cellsOf 27 = 2 := by kernel_rfl

set_option maxRecDepth 100000 in
theorem rdc_of_trod {H : Type} {enc : TypeId × Value → H} {W : World} {fuel : Nat} {cs : List Value} {x : DataW H × List MemPlace} (h : DataW.trod enc Try.prog W 0 (fun _ => true) true fuel 22 cs = some x) :
    ∃ v l, cs = [v] ∧ RdC W W.heap.size v l ∧ ∀ c ∈ l, c.site ≤ 9223372036854775807 ∧ ∀ y ∈ c.t, y.n ≤ 9223372036854775807 ∧ y.name.size ≤ 9223372036854775807 := by
  rcases open_slice Try.underlying22 h with ⟨h0, _⟩ | ⟨a, len, cap, m, n, D, Pl, hcs, _, hl, hm, hmm, _, hi⟩
  · exact ⟨_, [], h0, ⟨none, 0, rfl, by simp, Nat.zero_le _, fun h => absurd rfl h⟩, by simp⟩
  · have hmc : m = cap := by rw [hmm]; simp
    obtain ⟨fs, hu, hone, hsz, ht0, ht1⟩ := oneCh
    have hel : ∀ i, ∃ y : L.Ch × Value, i < len → a.spot = none ∧ W.cell? ⟨a.block, a.off + i * 2, none⟩ = some (.int .i64 y.1.site) ∧ W.cell? ⟨a.block, a.off + i * 2 + 1, none⟩ = some y.2 ∧ Rd W W.heap.size y.2 y.1.t ∧ y.1.site ≤ 9223372036854775807 ∧ ∀ z ∈ y.1.t, z.n ≤ 9223372036854775807 ∧ z.name.size ≤ 9223372036854775807 := by
      intro i
      by_cases hlt : i < len
      · have hsp : a.spot = none := by
          obtain ⟨c4, hc, -⟩ := hi 0 (by omega)
          rw [cellsCh] at hc
          obtain ⟨_, hcl, hat⟩ := World.cells?_some hc
          have e := hat 0 (by omega)
          have e2 : c4[0]? = some c4[0] := List.getElem?_eq_getElem (by omega)
          rw [e2] at e
          simpa [Addr.add] using World.cell?_spot e
        have had : ∀ k, a.add k = ⟨a.block, a.off + k, none⟩ := fun k => by
          obtain ⟨b, o, s⟩ := a
          simp only at hsp
          subst hsp
          simp [Addr.add]
        have hadd : ∀ (b o k : Nat), (⟨b, o, none⟩ : Addr).add k = ⟨b, o + k, none⟩ := fun b o k => by simp [Addr.add]
        obtain ⟨c4, hc, hd⟩ := hi i (by omega)
        rw [cellsCh, had] at hc
        obtain ⟨_, hcl, hat⟩ := World.cells?_some hc
        simp only [hadd] at hat
        obtain ⟨ys, n', _, _, _, hyl, hf⟩ := DataW.trod_struct hu hd
        obtain ⟨f0, hf0, he0⟩ := Option.map_eq_some_iff.1 ht0
        obtain ⟨f1, hf1, he1⟩ := Option.map_eq_some_iff.1 ht1
        have g0 := hf 0 f0 hf0
        have g1 := hf 1 f1 hf1
        obtain ⟨o0, k0⟩ := hone_of hone 0 f0 hf0
        obtain ⟨o1, k1⟩ := hone_of hone 1 f1 hf1
        rw [o0, k0, he0, List.getElem?_eq_getElem (by omega : 0 < ys.length)] at g0
        rw [o1, k1, he1, List.getElem?_eq_getElem (by omega : 1 < ys.length)] at g1
        obtain ⟨z0, e0, _, hw⟩ := DataW.trod_int Try.underlying3 g0
        obtain ⟨v1, l1, e1, R1, hn1⟩ := rd_of_trod g1
        refine ⟨(⟨z0, l1⟩, v1), fun _ => ⟨hsp, ?_, ?_, R1, int_le hw, hn1⟩⟩
        · have e := hat 0 (by omega)
          have e9 : c4[0]? = some (.int .i64 z0) := by
            have := congrArg (·[0]?) e0
            simpa [List.getElem?_take, List.getElem?_drop] using this
          rw [e9] at e
          exact e
        · have e := hat 1 (by omega)
          have e9 : c4[1]? = some v1 := by
            have := congrArg (·[0]?) e1
            simpa [List.getElem?_take, List.getElem?_drop] using this
          rw [e9] at e
          exact e
      · exact ⟨(⟨0, []⟩, .nilFunc), fun hh => absurd hh hlt⟩
    obtain ⟨F, hF⟩ := Classical.axiomOfChoice hel
    refine ⟨_, (List.range len).map (fun i => (F i).1), hcs, ⟨some a, cap, by simp, by simpa using hl, hm, fun hn => ?_⟩, fun c hc => ?_⟩
    · have h0 : 0 < len := by simp at hn; omega
      obtain ⟨hsp, hc0, -⟩ := hF 0 h0
      obtain ⟨b, o, s⟩ := a
      simp only at hsp hF hc0
      subst hsp
      refine ⟨b, o, rfl, cell_ltz hc0, fun i hi2 => ?_⟩
      have hi3 : i < len := by simpa using hi2
      obtain ⟨-, c0, c1, r1, -⟩ := hF i hi3
      exact ⟨_, by simpa using c0, c1, by simpa using r1⟩
    · obtain ⟨i, hi2, rfl⟩ := List.mem_map.1 hc
      exact (hF i (List.mem_range.1 hi2)).2.2.2.2

end Go.Proofs.Ytmcdggjcpfkchaa
