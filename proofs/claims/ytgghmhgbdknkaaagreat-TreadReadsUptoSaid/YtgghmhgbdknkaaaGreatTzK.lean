/-
  A slice of tokens that comes in; what the bound of the second form gives for its texts. No conditions but those that each lemma names.
-/
import Derived.Test.YtgghmhgbdknkaaaGreatRows
import Derived.Test.YtgghmhgbdknkaaaGreatMR1
import Derived.Deep.Slices
import Derived.Deep.Fields
import Derived.ChangeSame
import Derived.Carry
import Derived.OpenShut
namespace Go.Proofs.YtgghmhgbdknkaaaGreat
open Go.ChangeShapes Go.WideShapes Go.RowKit Go.Deep

theorem bulk_part {H : Type} {d : DataW H} {l : List (DataW H)} (h : d ∈ l) : Rows.uptoBulk d ≤ Rows.uptoBulkAll l := by
  induction l with
  | nil => cases h
  | cons x r ih =>
    rw [Rows.uptoBulkAll]
    rcases List.mem_cons.1 h with rfl | h
    · omega
    · have := ih h; omega

theorem cellK_lt {w : World} {a : Addr} {v : Value} (h : w.cell? a = some v) : a.block < w.heap.size := by
  rcases Nat.lt_or_ge a.block w.heap.size with hlt | hge
  · exact hlt
  · have hn : w.heap[a.block]? = none := Array.getElem?_eq_none hge
    simp [World.cell?, hn] at h

theorem spot_add {a : Addr} (h : a.spot = none) (k : Nat) : a.add k = ⟨a.block, a.off + k, none⟩ := by
  obtain ⟨b, o, s⟩ := a
  simp only at h
  subst h
  simp [Addr.add]

theorem oneTokIn : ∃ fs, Tryz.prog.underlying 57 = some (.struct fs) ∧ oneCellFields Tryz.prog fs = true ∧ fs.size = 4 ∧ (fs[0]?).map (·.type) = some 3 ∧ (fs[1]?).map (·.type) = some 9 ∧ (fs[2]?).map (·.type) = some 3 ∧ (fs[3]?).map (·.type) = some 3 :=
  ⟨_, Tryz.underlying57, by kernel_rfl, by kernel_rfl, by kernel_rfl, by kernel_rfl, by kernel_rfl, by kernel_rfl⟩
theorem cellsTokIn : Tryz.prog.cellsOf 57 = 4 := by kernel_rfl

theorem toks_of_trod {H : Type} {enc : TypeId × Value → H} {W : World} {fuel : Nat} {cs : List Value} {x : DataW H × List MemPlace} (h : DataW.trod enc Tryz.prog W 0 (fun _ => true) true fuel 22 cs = some x) :
    ∃ (A : Option Addr) (cap : Nat) (l : List T.Tk), cs = [.slice A l.length cap] ∧ l.length ≤ maxLen ∧
      (l ≠ [] → ∃ b o, A = some ⟨b, o, none⟩ ∧ b < W.heap.size ∧ ∀ (i : Nat) (h : i < l.length), W.cell? ⟨b, o + i * 4, none⟩ = some (.int .i64 l[i].kind) ∧ W.cell? ⟨b, o + i * 4 + 1, none⟩ = some (.string l[i].text) ∧ W.cell? ⟨b, o + i * 4 + 2, none⟩ = some (.int .i64 l[i].fr) ∧ W.cell? ⟨b, o + i * 4 + 3, none⟩ = some (.int .i64 l[i].to)) ∧
      ∀ t ∈ l, t.text.size ≤ Rows.uptoBulk x.1 := by
  rcases open_slice Tryz.underlying22 h with ⟨h0, _⟩ | ⟨a, len, cap, m, n, D, Pl, hcs, _, hl, hm, hmm, hx, hi⟩
  · exact ⟨none, 0, [], h0, Nat.zero_le _, fun h => absurd rfl h, by simp⟩
  · have hmc : m = cap := by rw [hmm]; simp
    obtain ⟨fs, hu, hone, hsz, ht0, ht1, ht2, ht3⟩ := oneTokIn
    have hel : ∀ i, ∃ tk : T.Tk, i < len → W.cell? (a.add (i * 4)) = some (.int .i64 tk.kind) ∧ W.cell? ((a.add (i * 4)).add 1) = some (.string tk.text) ∧ W.cell? ((a.add (i * 4)).add 2) = some (.int .i64 tk.fr) ∧ W.cell? ((a.add (i * 4)).add 3) = some (.int .i64 tk.to) ∧ tk.text.size ≤ Rows.uptoBulk (D i) := by
      intro i
      by_cases hlt : i < len
      · obtain ⟨c4, hc, hd⟩ := hi i (by omega)
        rw [cellsTokIn] at hc
        obtain ⟨_, hcl, hat⟩ := World.cells?_some hc
        obtain ⟨ys, n', _, hys, _, hyl, hf⟩ := DataW.trod_struct hu hd
        obtain ⟨f0, hf0, he0⟩ := Option.map_eq_some_iff.1 ht0
        obtain ⟨f1, hf1, he1⟩ := Option.map_eq_some_iff.1 ht1
        obtain ⟨f2, hf2, he2⟩ := Option.map_eq_some_iff.1 ht2
        obtain ⟨f3, hf3, he3⟩ := Option.map_eq_some_iff.1 ht3
        have g0 := hf 0 f0 hf0
        have g1 := hf 1 f1 hf1
        have g2 := hf 2 f2 hf2
        have g3 := hf 3 f3 hf3
        obtain ⟨o0, k0⟩ := hone_of hone 0 f0 hf0
        obtain ⟨o1, k1⟩ := hone_of hone 1 f1 hf1
        obtain ⟨o2, k2⟩ := hone_of hone 2 f2 hf2
        obtain ⟨o3, k3⟩ := hone_of hone 3 f3 hf3
        rw [o0, k0, he0, List.getElem?_eq_getElem (by omega : 0 < ys.length)] at g0
        rw [o1, k1, he1, List.getElem?_eq_getElem (by omega : 1 < ys.length)] at g1
        rw [o2, k2, he2, List.getElem?_eq_getElem (by omega : 2 < ys.length)] at g2
        rw [o3, k3, he3, List.getElem?_eq_getElem (by omega : 3 < ys.length)] at g3
        obtain ⟨z0, hz0, _, _⟩ := DataW.trod_int Tryz.underlying3 g0
        obtain ⟨t, hs, hts, _⟩ := DataW.trod_string Tryz.underlying9 g1
        obtain ⟨z2, hz2, _, _⟩ := DataW.trod_int Tryz.underlying3 g2
        obtain ⟨z3, hz3, _, _⟩ := DataW.trod_int Tryz.underlying3 g3
        refine ⟨⟨z0, t, z2, z3⟩, fun _ => ⟨?_, ?_, ?_, ?_, ?_⟩⟩
        · have e := hat 0 (by omega)
          have e2 : c4[0]? = some (.int .i64 z0) := by
            have := congrArg (·[0]?) hz0
            simpa [List.getElem?_take, List.getElem?_drop] using this
          rw [e2] at e
          have e3 : (a.add (i * 4)).add 0 = a.add (i * 4) := by unfold Addr.add; simp
          rw [e3] at e
          exact e
        · have e := hat 1 (by omega)
          have e2 : c4[1]? = some (.string t) := by
            have := congrArg (·[0]?) hs
            simpa [List.getElem?_take, List.getElem?_drop] using this
          rw [e2] at e
          exact e
        · have e := hat 2 (by omega)
          have e2 : c4[2]? = some (.int .i64 z2) := by
            have := congrArg (·[0]?) hz2
            simpa [List.getElem?_take, List.getElem?_drop] using this
          rw [e2] at e
          exact e
        · have e := hat 3 (by omega)
          have e2 : c4[3]? = some (.int .i64 z3) := by
            have := congrArg (·[0]?) hz3
            simpa [List.getElem?_take, List.getElem?_drop] using this
          rw [e2] at e
          exact e
        · have hD : D i = .agg (ys.map (·.1)) := congrArg Prod.fst hys
          rw [hD, Rows.uptoBulk]
          have hm1 : (DataW.lit (H := H) (.string t.data.toList)) ∈ ys.map (·.1) := List.mem_map.2 ⟨ys[1]'(by omega), List.getElem_mem _, by rw [hts]⟩
          have hp := bulk_part hm1
          rw [Rows.uptoBulk] at hp
          have hz : t.data.toList.length = t.size := rfl
          show t.size ≤ _
          omega
      · exact ⟨⟨0, ⟨#[]⟩, 0, 0⟩, fun hh => absurd hh hlt⟩
    obtain ⟨F, hF⟩ := Classical.axiomOfChoice hel
    refine ⟨some a, cap, (List.range len).map F, by rw [hcs, List.length_map, List.length_range], by rw [List.length_map, List.length_range]; omega, fun hn => ?_, fun t ht => ?_⟩
    · have h0 : 0 < len := by simp at hn; omega
      have hsp : a.spot = none := by
        have := (hF 0 h0).1
        simpa [Addr.add] using World.cell?_spot this
      refine ⟨a.block, a.off, ?_, ?_, fun i hi2 => ?_⟩
      · obtain ⟨b, o, s⟩ := a
        simp only at hsp
        rw [hsp]
      · have := cellK_lt (hF 0 h0).1
        rw [spot_add hsp] at this
        exact this
      · have hi3 : i < len := by simpa using hi2
        obtain ⟨c0, c1, c2, c3, _⟩ := hF i hi3
        rw [spot_add hsp] at c0 c1 c2 c3
        rw [spot_add rfl] at c1 c2 c3
        simp only [List.getElem_map, List.getElem_range]
        exact ⟨c0, c1, c2, c3⟩
    · obtain ⟨i, hir, rfl⟩ := List.mem_map.1 ht
      have hi3 : i < len := List.mem_range.1 hir
      have h5 := (hF i hi3).2.2.2.2
      have hx1 : x.1 = .slice ((List.range len).map D) ((List.range (m - len)).map fun j => D (len + j)) := congrArg Prod.fst hx
      rw [hx1, Rows.uptoBulk]
      have hp := bulk_part (List.mem_map.2 ⟨i, hir, rfl⟩ : D i ∈ (List.range len).map D)
      omega

theorem small_le {H : Type} {l : List (DataW H)} (hk : Rows.uptoSmall H l = true) : Rows.uptoBulkAll l ≤ 1048576 := of_decide_eq_true hk

set_option maxRecDepth 100000 in
theorem ints_of_trod {H : Type} {enc : TypeId × Value → H} {W : World} {fuel : Nat} {v1 : Value} {cs1 : Array Value} {x : DataW H × List MemPlace} (hv1 : v1 = .agg cs1) (hf1 : DataW.trod enc Tryz.prog W 0 (fun _ => true) true fuel 23 v1.cells.toList = some x) :
    ∃ a b c : Int, v1 = .agg #[.int .i64 a, .int .i64 b, .int .i64 c] := by
  obtain ⟨xs, m, -, -, hcl, hxl, hx⟩ := DataW.trod_array Tryz.underlying23 hf1
  have c1 : Tryz.prog.cellsOf 3 = 1 := by kernel_rfl
  have c3 : Tryz.prog.cellsOf 23 = 3 := by kernel_rfl
  rw [c3] at hcl
  subst hv1
  obtain ⟨cl⟩ := cs1
  have hcl2 : cl.length = 3 := by simpa [Value.cells] using hcl
  match cl, hcl2 with
  | [x0, x1, x2], _ =>
    have g0 := hx 0 (by omega)
    have g1 := hx 1 (by omega)
    have g2 := hx 2 (by omega)
    rw [c1, List.getElem?_eq_getElem (by omega : 0 < xs.length)] at g0
    rw [c1, List.getElem?_eq_getElem (by omega : 1 < xs.length)] at g1
    rw [c1, List.getElem?_eq_getElem (by omega : 2 < xs.length)] at g2
    obtain ⟨z0, hz0, _, _⟩ := DataW.trod_int Tryz.underlying3 g0
    obtain ⟨z1, hz1, _, _⟩ := DataW.trod_int Tryz.underlying3 g1
    obtain ⟨z2, hz2, _, _⟩ := DataW.trod_int Tryz.underlying3 g2
    simp [Value.cells] at hz0 hz1 hz2
    exact ⟨z0, z1, z2, by rw [hz0, hz1, hz2]⟩

end Go.Proofs.YtgghmhgbdknkaaaGreat
