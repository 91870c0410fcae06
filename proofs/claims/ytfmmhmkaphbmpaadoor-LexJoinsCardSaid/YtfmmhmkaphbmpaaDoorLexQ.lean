/-
  A slice of tokens that comes in, read as kinds and texts; how long joined texts may be. No conditions but those that each lemma names.
-/
import Derived.Test.YtfmmhmkaphbmpaaDoorLexV
import Derived.Deep.Slices
import Derived.Deep.Fields
import Derived.ChangeSame
import Derived.Carry
namespace Go.Proofs.YtfmmhmkaphbmpaaDoor
open Go.ChangeShapes Go.WideShapes Go.RowKit Go.Deep

theorem cell_lt {w : World} {a : Addr} {v : Value} (h : w.cell? a = some v) : a.block < w.heap.size := by
  rcases Nat.lt_or_ge a.block w.heap.size with hlt | hge
  · exact hlt
  · have hn : w.heap[a.block]? = none := Array.getElem?_eq_none hge
    simp [World.cell?, hn] at h

theorem oneTok : ∃ fs, Tryd.prog.underlying 31 = some (.struct fs) ∧ oneCellFields Tryd.prog fs = true ∧ fs.size = 4 ∧ (fs[0]?).map (·.type) = some 3 ∧ (fs[1]?).map (·.type) = some 9 :=
  ⟨_, Tryd.underlying31, by kernel_rfl, by kernel_rfl, by kernel_rfl, by kernel_rfl⟩

theorem cellsTok : Tryd.prog.cellsOf 31 = 4 := by kernel_rfl

theorem rd_of_trod {H : Type} {enc : TypeId × Value → H} {W : World} {fuel : Nat} {cs : List Value} {x : DataW H × List MemPlace} (h : DataW.trod enc Tryd.prog W 0 (fun _ => true) true fuel 23 cs = some x) :
    ∃ v l, cs = [v] ∧ Rd W W.heap.size v l ∧ l.length ≤ maxLen := by
  rcases open_slice Tryd.underlying23 h with ⟨h0, _⟩ | ⟨a, len, cap, m, n, D, Pl, hcs, _, hl, hm, hmm, _, hi⟩
  · exact ⟨_, [], h0, ⟨none, 0, rfl, fun h => absurd h (by simp)⟩, by simp⟩
  · have hmc : m = cap := by rw [hmm]; simp
    obtain ⟨fs, hu, hone, hsz, ht0, ht1⟩ := oneTok
    have hel : ∀ i, ∃ kt : Int × List UInt8, i < len → W.cell? (a.add (i * 4)) = some (.int .i64 kt.1) ∧ W.cell? (a.add (i * 4 + 1)) = some (strV kt.2) := by
      intro i
      by_cases hlt : i < len
      · obtain ⟨c4, hc, hd⟩ := hi i (by omega)
        rw [cellsTok] at hc
        obtain ⟨_, hcl, hat⟩ := World.cells?_some hc
        obtain ⟨ys, n', _, _, _, hyl, hf⟩ := DataW.trod_struct hu hd
        obtain ⟨f0, hf0, he0⟩ := Option.map_eq_some_iff.1 ht0
        obtain ⟨f1, hf1, he1⟩ := Option.map_eq_some_iff.1 ht1
        have g0 := hf 0 f0 hf0
        have g1 := hf 1 f1 hf1
        obtain ⟨o0, k0⟩ := hone_of hone 0 f0 hf0
        obtain ⟨o1, k1⟩ := hone_of hone 1 f1 hf1
        rw [o0, k0, he0, List.getElem?_eq_getElem (by omega : 0 < ys.length)] at g0
        rw [o1, k1, he1, List.getElem?_eq_getElem (by omega : 1 < ys.length)] at g1
        obtain ⟨z, hz, _, _⟩ := DataW.trod_int Tryd.underlying3 g0
        obtain ⟨t, hs, _, _⟩ := DataW.trod_string Tryd.underlying9 g1
        refine ⟨(z, t.data.toList), fun _ => ⟨?_, ?_⟩⟩
        · have e := hat 0 (by omega)
          have e2 : c4[0]? = some (.int .i64 z) := by
            have := congrArg (·[0]?) hz
            simpa [List.getElem?_take, List.getElem?_drop] using this
          rw [e2] at e
          have e3 : (a.add (i * 4)).add 0 = a.add (i * 4) := by unfold Addr.add; simp
          rw [e3] at e
          exact e
        · have e := hat 1 (by omega)
          have e2 : c4[1]? = some (.string t) := by
            have := congrArg (·[0]?) hs
            simpa [List.getElem?_take, List.getElem?_drop] using this
          rw [e2] at e
          have e3 : (a.add (i * 4)).add 1 = a.add (i * 4 + 1) := by
            rw [addr_next a (i * 4)]
            rfl
          rw [e3] at e
          exact e
      · exact ⟨(0, []), fun hh => absurd hh hlt⟩
    obtain ⟨F, hF⟩ := Classical.axiomOfChoice hel
    refine ⟨_, (List.range len).map F, hcs, ⟨some a, cap, by simp, fun hn => ⟨a, rfl, ?_, fun i hi2 => ?_⟩⟩, by simp; omega⟩
    · have h0 : 0 < len := by simpa using hn
      have := cell_lt (hF 0 h0).1
      rw [addr_block] at this
      exact this
    · have hi3 : i < len := by simpa using hi2
      have := hF i hi3
      simpa using this

theorem Rd.more {w : World} {B B' : Nat} {v : Value} {l : List (Int × List UInt8)} (h : Rd w B v l) (hB : B ≤ B') : Rd w B' v l := by
  obtain ⟨A, cap, hv, hc⟩ := h
  refine ⟨A, cap, hv, fun hn => ?_⟩
  obtain ⟨a, ha, hb, hx⟩ := hc hn
  exact ⟨a, ha, by omega, hx⟩

theorem joinT_len (l : List (Int × List UInt8)) (h : ∀ t ∈ l, t.2.length ≤ 200) : (joinT l).length ≤ l.length * 803 := by
  induction l with
  | nil => simp [joinT]
  | cons t r ih =>
    have h1 := ih fun x hx => h x (by simp [hx])
    have h2 := h t (by simp)
    have h3 : (pieceT t).length ≤ 802 := by
      unfold pieceT
      split
      · have := quote_len t.2
        omega
      · omega
    rw [joinT, List.length_append]
    split
    · simp
      omega
    · simp only [List.length_cons]
      omega

end Go.Proofs.YtfmmhmkaphbmpaaDoor
