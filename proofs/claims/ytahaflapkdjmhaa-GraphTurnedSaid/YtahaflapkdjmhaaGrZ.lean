/-
  A slice of modules that comes in, read as modules. No other conditions.
-/
import Derived.Test.YtahaflapkdjmhaaGrXh
import Derived.ProofKit
import Derived.OpenShut
import Derived.Deep.Slices
import Derived.Deep.Fields
import Derived.ChangeSame
import Derived.Carry
import Derived.SizedLaws
import Derived.Handed
namespace Go.Proofs.Ytahaflapkdjmhaa
open Go.ChangeShapes Go.WideShapes Go.ChangeAt Go.RowKit Go.Deep

theorem cell_ltz {w : World} {a : Addr} {v : Value} (h : w.cell? a = some v) : a.block < w.heap.size := by
  refine Nat.lt_of_not_le fun hn => ?_
  unfold World.cell? at h
  rw [Array.getElem?_eq_none hn] at h
  cases h

theorem oneMod : ∃ fs, Try.prog.underlying 29 = some (.struct fs) ∧ oneCellFields Try.prog fs = true ∧ fs.size = 4 ∧ (fs[0]?).map (·.type) = some 9 ∧ (fs[1]?).map (·.type) = some 25 ∧ (fs[2]?).map (·.type) = some 26 ∧ (fs[3]?).map (·.type) = some 27 :=
  ⟨_, Try.underlying29, by kernel_rfl, by kernel_rfl, by kernel_rfl, by kernel_rfl, by kernel_rfl, by kernel_rfl⟩
theorem cellsMod : Try.prog.cellsOf 29 = 4 := by kernel_rfl
theorem cellsStr : Try.prog.cellsOf 9 = 1 := by kernel_rfl

set_option maxRecDepth 100000 in
theorem rds_of_trod {H : Type} {enc : TypeId × Value → H} {W : World} {fuel : Nat} {cs : List Value} {x : DataW H × List MemPlace} (h : DataW.trod enc Try.prog W 0 (fun _ => true) true fuel 25 cs = some x) :
    ∃ v l, cs = [v] ∧ RdS W W.heap.size v l := by
  rcases open_slice Try.underlying25 h with ⟨h0, _⟩ | ⟨a, len, cap, m, n, D, Pl, hcs, _, hl, hm, hmm, _, hi⟩
  · exact ⟨_, [], h0, none, 0, rfl, fun h => absurd rfl h⟩
  · have hmc : m = cap := by rw [hmm]; simp
    have hel : ∀ i, ∃ y : ByteArray, i < len → a.spot = none ∧ W.cell? ⟨a.block, a.off + i, none⟩ = some (.string y) := by
      intro i
      by_cases hlt : i < len
      · have hsp : a.spot = none := by
          obtain ⟨c4, hc, -⟩ := hi 0 (by omega)
          rw [cellsStr] at hc
          obtain ⟨_, hcl, hat⟩ := World.cells?_some hc
          have e := hat 0 (by omega)
          have e2 : c4[0]? = some c4[0] := List.getElem?_eq_getElem (by omega)
          rw [e2] at e
          simpa [Addr.add] using World.cell?_spot e
        have had : ∀ k, a.spot = none → a.add k = ⟨a.block, a.off + k, none⟩ := fun k hsp => by
          obtain ⟨b, o, s⟩ := a
          simp only at hsp
          subst hsp
          simp [Addr.add]
        obtain ⟨c1, hc, hd⟩ := hi i (by omega)
        rw [cellsStr, Nat.mul_one] at hc
        obtain ⟨_, hcl, hat⟩ := World.cells?_some hc
        obtain ⟨t, hs, _, _⟩ := DataW.trod_string Try.underlying9 hd
        have e := hat 0 (by omega)
        have e2 : c1[0]? = some (.string t) := by
          have := congrArg (·[0]?) hs
          simpa using this
        rw [e2] at e
        refine ⟨t, fun _ => ⟨hsp, ?_⟩⟩
        rw [had i hsp] at e
        simpa [Addr.add] using e
      · exact ⟨⟨#[]⟩, fun hh => absurd hh hlt⟩
    obtain ⟨F, hF⟩ := Classical.axiomOfChoice hel
    refine ⟨_, (List.range len).map F, hcs, some a, cap, by simp, fun hn => ?_⟩
    have h0 : 0 < len := by simp at hn; omega
    obtain ⟨hsp, h1⟩ := hF 0 h0
    obtain ⟨b, o, s⟩ := a
    simp only at hsp hF h1
    subst hsp
    refine ⟨b, o, rfl, cell_ltz h1, fun i hi2 => ?_⟩
    have := (hF i (by simpa using hi2)).2
    simpa using this

theorem rd_defs {H : Type} {enc : TypeId × Value → H} {W : World} {fuel : Nat} {cs : List Value} {x : DataW H × List MemPlace} (h : DataW.trod enc Try.prog W 0 (fun _ => true) true fuel 26 cs = some x) :
    ∃ A n c, cs = [.slice A n c] := by
  rcases open_slice Try.underlying26 h with ⟨h0, _⟩ | ⟨a, len, cap, m, n, D, Pl, hcs, _⟩
  · exact ⟨_, _, _, h0⟩
  · exact ⟨_, _, _, hcs⟩
theorem rd_sites {H : Type} {enc : TypeId × Value → H} {W : World} {fuel : Nat} {cs : List Value} {x : DataW H × List MemPlace} (h : DataW.trod enc Try.prog W 0 (fun _ => true) true fuel 27 cs = some x) :
    ∃ A n c, cs = [.slice A n c] := by
  rcases open_slice Try.underlying27 h with ⟨h0, _⟩ | ⟨a, len, cap, m, n, D, Pl, hcs, _⟩
  · exact ⟨_, _, _, h0⟩
  · exact ⟨_, _, _, hcs⟩

set_option maxRecDepth 100000 in
theorem rdm_of_trod {H : Type} {enc : TypeId × Value → H} {W : World} {fuel : Nat} {cs : List Value} {x : DataW H × List MemPlace} (h : DataW.trod enc Try.prog W 0 (fun _ => true) true fuel 22 cs = some x) :
    ∃ v l, cs = [v] ∧ RdM W W.heap.size v l := by
  rcases open_slice Try.underlying22 h with ⟨h0, _⟩ | ⟨a, len, cap, m, n, D, Pl, hcs, _, hl, hm, hmm, _, hi⟩
  · exact ⟨_, [], h0, none, 0, rfl, by simp, Nat.zero_le _, fun h => absurd rfl h⟩
  · have hmc : m = cap := by rw [hmm]; simp
    obtain ⟨fs, hu, hone, hsz, ht0, ht1, ht2, ht3⟩ := oneMod
    have hel : ∀ i, ∃ y : Gr.Md × Value × Value × Value, i < len → a.spot = none ∧ W.cell? ⟨a.block, a.off + i * 4, none⟩ = some (.string y.1.name) ∧ W.cell? ⟨a.block, a.off + i * 4 + 1, none⟩ = some y.2.1 ∧ W.cell? ⟨a.block, a.off + i * 4 + 2, none⟩ = some y.2.2.1 ∧ W.cell? ⟨a.block, a.off + i * 4 + 3, none⟩ = some y.2.2.2 ∧
        RdS W W.heap.size y.2.1 y.1.imps ∧ (∃ A n c, y.2.2.1 = .slice A n c) ∧ (∃ A n c, y.2.2.2 = .slice A n c) := by
      intro i
      by_cases hlt : i < len
      · have hsp : a.spot = none := by
          obtain ⟨c4, hc, -⟩ := hi 0 (by omega)
          rw [cellsMod] at hc
          obtain ⟨_, hcl, hat⟩ := World.cells?_some hc
          have e := hat 0 (by omega)
          have e2 : c4[0]? = some c4[0] := List.getElem?_eq_getElem (by omega)
          rw [e2] at e
          simpa [Addr.add] using World.cell?_spot e
        have had : ∀ k, a.add k = ⟨a.block, a.off + k, none⟩ := fun k => by
          obtain ⟨b, o, s⟩ := a
          simp only at hsp
          subst hsp
          simp [Addr.add]
        have hadd : ∀ (b o k : Nat), (⟨b, o, none⟩ : Addr).add k = ⟨b, o + k, none⟩ := fun b o k => by simp [Addr.add]
        obtain ⟨c4, hc, hd⟩ := hi i (by omega)
        rw [cellsMod, had] at hc
        obtain ⟨_, hcl, hat⟩ := World.cells?_some hc
        simp only [hadd] at hat
        obtain ⟨ys, n', _, _, _, hyl, hf⟩ := DataW.trod_struct hu hd
        obtain ⟨f0, hf0, he0⟩ := Option.map_eq_some_iff.1 ht0
        obtain ⟨f1, hf1, he1⟩ := Option.map_eq_some_iff.1 ht1
        obtain ⟨f2, hf2, he2⟩ := Option.map_eq_some_iff.1 ht2
        obtain ⟨f3, hf3, he3⟩ := Option.map_eq_some_iff.1 ht3
        have g0 := hf 0 f0 hf0
        have g1 := hf 1 f1 hf1
        have g2 := hf 2 f2 hf2
        have g3 := hf 3 f3 hf3
        obtain ⟨o0, k0⟩ := hone_of hone 0 f0 hf0
        obtain ⟨o1, k1⟩ := hone_of hone 1 f1 hf1
        obtain ⟨o2, k2⟩ := hone_of hone 2 f2 hf2
        obtain ⟨o3, k3⟩ := hone_of hone 3 f3 hf3
        rw [o0, k0, he0, List.getElem?_eq_getElem (by omega : 0 < ys.length)] at g0
        rw [o1, k1, he1, List.getElem?_eq_getElem (by omega : 1 < ys.length)] at g1
        rw [o2, k2, he2, List.getElem?_eq_getElem (by omega : 2 < ys.length)] at g2
        rw [o3, k3, he3, List.getElem?_eq_getElem (by omega : 3 < ys.length)] at g3
        obtain ⟨z0, e0, _, _⟩ := DataW.trod_string Try.underlying9 g0
        obtain ⟨v1, l1, e1, R1⟩ := rds_of_trod g1
        obtain ⟨A2, n2, c2, e2⟩ := rd_defs g2
        obtain ⟨A3, n3, c3, e3⟩ := rd_sites g3
        refine ⟨(⟨z0, l1⟩, v1, .slice A2 n2 c2, .slice A3 n3 c3), fun _ => ⟨hsp, ?_, ?_, ?_, ?_, R1, ⟨_, _, _, rfl⟩, ⟨_, _, _, rfl⟩⟩⟩
        · have e := hat 0 (by omega)
          have e9 : c4[0]? = some (.string z0) := by
            have := congrArg (·[0]?) e0
            simpa [List.getElem?_take, List.getElem?_drop] using this
          rw [e9] at e
          exact e
        · have e := hat 1 (by omega)
          have e9 : c4[1]? = some v1 := by
            have := congrArg (·[0]?) e1
            simpa [List.getElem?_take, List.getElem?_drop] using this
          rw [e9] at e
          exact e
        · have e := hat 2 (by omega)
          have e9 : c4[2]? = some (.slice A2 n2 c2) := by
            have := congrArg (·[0]?) e2
            simpa [List.getElem?_take, List.getElem?_drop] using this
          rw [e9] at e
          exact e
        · have e := hat 3 (by omega)
          have e9 : c4[3]? = some (.slice A3 n3 c3) := by
            have := congrArg (·[0]?) e3
            simpa [List.getElem?_take, List.getElem?_drop] using this
          rw [e9] at e
          exact e
      · exact ⟨(⟨⟨#[]⟩, []⟩, .nilFunc, .nilFunc, .nilFunc), fun hh => absurd hh hlt⟩
    obtain ⟨F, hF⟩ := Classical.axiomOfChoice hel
    refine ⟨_, (List.range len).map (fun i => (F i).1), hcs, some a, cap, by simp, by simpa using hl, hm, fun hn => ?_⟩
    have h0 : 0 < len := by simp at hn; omega
    obtain ⟨hsp, hc0, -⟩ := hF 0 h0
    obtain ⟨b, o, s⟩ := a
    simp only at hsp hF hc0
    subst hsp
    refine ⟨b, o, rfl, cell_ltz hc0, fun i hi2 => ?_⟩
    have hi3 : i < len := by simpa using hi2
    obtain ⟨-, c0, c1, c2, c3, r1, ⟨A2, n2, k2, e2⟩, ⟨A3, n3, k3, e3⟩⟩ := hF i hi3
    obtain ⟨A1, k1, e1, -⟩ := id r1
    rw [e1] at c1 r1
    rw [e2] at c2
    rw [e3] at c3
    exact ⟨A1, k1, A2, n2, k2, A3, n3, k3, by simpa using c0, by simpa using c1, c2, c3, by simpa using r1⟩

end Go.Proofs.Ytahaflapkdjmhaa
