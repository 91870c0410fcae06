/-
  What both Rows say alike, and a struct of a number, texts and types that comes in. Conditions: those of the two walks of Row.
-/
import Derived.Test.YtimlblbmfckeiaaDoorTyRf
import Derived.Test.YtimlblbmfckeiaaDoorTyLq
import Derived.Deep.Slices
import Derived.Deep.Fields
namespace Go.Proofs.YtimlblbmfckeiaaDoor
open Go.RowKit Go.Deep

/-- What a Row says: its value, its number. -/
def RowSaid (kind : Int) (ss : List ByteArray) (ts : List (Value × List L.Nd)) (B : Nat) (v : Value) (c : Int) (w' : World) : Prop :=
  (L.isRow kind ss (ts.length : Int) = false ∧ v = .slice none 0 0 ∧ c = 1) ∨
  (L.isRow kind ss (ts.length : Int) = true ∧ (¬ ∃ ks : List Nat, ks.Perm (List.range ss.length) ∧ L.Rise ss ks) ∧ v = .slice none 0 0 ∧ c = 7) ∨
  (L.isRow kind ss (ts.length : Int) = true ∧ c = 0 ∧ ∃ ks : List Nat, ks.Perm (List.range ss.length) ∧ L.Rise ss ks ∧ Own B v (⟨kind, ⟨#[]⟩, (ts.length : Int)⟩ :: rowsL ss ts ks) w')

theorem row_said (kind : Int) (ss : List ByteArray) (ts : List (Value × List L.Nd)) (hsz : ∀ s ∈ ss, s.size ≤ 2000000) (hsn : ss.length ≤ 200) (htn : ts.length ≤ 200) (ht0 : ∀ t ∈ ts, t.2 ≠ []) (htl : ∀ t ∈ ts, t.2.length ≤ 20000)
    (vs vt : Value) (w : World) (hxs : RdS w w.heap.size vs ss) (hxt : RdT w vt ts) :
    Calls Tryd.prog 19 #[.int .i64 kind, vs, vt] w fun e w' => ∃ v c, e = .returned (.tuple #[v, .int .i64 c]) ∧ Below w.heap.size w w' ∧ RowSaid kind ss ts w.heap.size v c w' := by
  refine (row_any kind ss ts hsz hsn htn ht0 htl vs vt w hxs hxt).mono ?_
  rintro e w' ⟨hB, h⟩
  rcases h with ⟨h1, rfl⟩ | ⟨h1, ks, hp, hs, h⟩
  · exact ⟨_, _, rfl, hB, Or.inl ⟨h1, rfl, rfl⟩⟩
  · rcases h with ⟨⟨j, h0, h2, h3⟩, rfl⟩ | ⟨hne, v', rfl, ho⟩
    · exact ⟨_, _, rfl, hB, Or.inr (Or.inl ⟨h1, L.twice_of hp h0 h2 h3, rfl, rfl⟩)⟩
    · exact ⟨_, _, rfl, hB, Or.inr (Or.inr ⟨h1, rfl, ks, hp, L.rise_of hs hne, ho⟩)⟩

theorem refRow_said (kind : Int) (ss : List ByteArray) (ts : List (Value × List L.Nd)) (hsz : ∀ s ∈ ss, s.size ≤ 2000000) (hsn : ss.length ≤ 200) (htn : ts.length ≤ 200) (ht0 : ∀ t ∈ ts, t.2 ≠ []) (htl : ∀ t ∈ ts, t.2.length ≤ 20000)
    (vs vt : Value) (w : World) (hxs : RdS w w.heap.size vs ss) (hxt : RdT w vt ts) :
    Calls Tryd.prog 20 #[.int .i64 kind, vs, vt] w fun e w' => ∃ v c, e = .returned (.tuple #[v, .int .i64 c]) ∧ Below w.heap.size w w' ∧ RowSaid kind ss ts w.heap.size v c w' := by
  refine (refRow_any kind ss ts hsz hsn htn ht0 htl vs vt w hxs hxt).mono ?_
  rintro e w' ⟨hB, h⟩
  rcases h with ⟨h1, rfl⟩ | ⟨h1, h⟩
  · exact ⟨_, _, rfl, hB, Or.inl ⟨h1, rfl, rfl⟩⟩
  · rcases h with ⟨hn, rfl⟩ | ⟨ks, hp, hr, v', rfl, ho⟩
    · exact ⟨_, _, rfl, hB, Or.inr (Or.inl ⟨h1, hn, rfl, rfl⟩)⟩
    · exact ⟨_, _, rfl, hB, Or.inr (Or.inr ⟨h1, rfl, ks, hp, hr, ho⟩)⟩

theorem rd_nil (w : World) : Rd w w.heap.size (.slice none 0 0) [] := (Own.nil w.heap.size w).rd

theorem said_meets {kind : Int} {ss : List ByteArray} {ts : List (Value × List L.Nd)} {B1 B2 : Nat} {v1 v2 : Value} {c1 c2 : Int} {w1 w2 : World} (h1 : RowSaid kind ss ts B1 v1 c1 w1) (hb : Below w1.heap.size w1 w2) (h2 : RowSaid kind ss ts B2 v2 c2 w2) :
    c1 = c2 ∧ ∃ X, Rd w2 w2.heap.size v1 X ∧ Rd w2 w2.heap.size v2 X := by
  rcases h1 with ⟨a1, rfl, rfl⟩ | ⟨a1, b1, rfl, rfl⟩ | ⟨a1, rfl, ks, p1, r1, o1⟩
  · rcases h2 with ⟨a2, rfl, rfl⟩ | ⟨a2, b2, rfl, rfl⟩ | ⟨a2, rfl, js, p2, r2, o2⟩
    · exact ⟨rfl, [], rd_nil _, rd_nil _⟩
    · rw [a1] at a2; cases a2
    · rw [a1] at a2; cases a2
  · rcases h2 with ⟨a2, rfl, rfl⟩ | ⟨a2, b2, rfl, rfl⟩ | ⟨a2, rfl, js, p2, r2, o2⟩
    · rw [a1] at a2; cases a2
    · exact ⟨rfl, [], rd_nil _, rd_nil _⟩
    · exact absurd ⟨js, p2, r2⟩ b1
  · rcases h2 with ⟨a2, rfl, rfl⟩ | ⟨a2, b2, rfl, rfl⟩ | ⟨a2, rfl, js, p2, r2, o2⟩
    · rw [a1] at a2; cases a2
    · exact absurd ⟨ks, p1, r1⟩ b2
    · obtain rfl := L.rise_unique r1 r2 (p1.trans p2.symm)
      exact ⟨rfl, _, (o1.below hb).rd, o2.rd⟩

theorem cellsStr : Tryd.prog.cellsOf 9 = 1 := by kernel_rfl
theorem cellsTyp : Tryd.prog.cellsOf 23 = 1 := by kernel_rfl

theorem add_none {a : Addr} (h : a.spot = none) (k : Nat) : a.add k = ⟨a.block, a.off + k, none⟩ := by
  obtain ⟨b, o, s⟩ := a
  simp only at h
  subst h
  simp [Addr.add]

set_option maxRecDepth 100000 in
theorem rdS_of_trod {H : Type} {enc : TypeId × Value → H} {W : World} {fuel : Nat} {cs : List Value} {x : DataW H × List MemPlace} (h : DataW.trod enc Tryd.prog W 0 (fun _ => true) true fuel 34 cs = some x) :
    ∃ v ss, cs = [v] ∧ RdS W W.heap.size v ss := by
  rcases open_slice1 Tryd.underlying34 cellsStr h with ⟨h0, _⟩ | ⟨a, len, cap, m, n, V, D, Pl, hcs, _, hl, hm, hmm, _, hi⟩
  · exact ⟨_, [], h0, none, 0, rfl, fun h => absurd rfl h⟩
  · have hmc : m = cap := by rw [hmm]; simp
    have hel : ∀ i, ∃ s : ByteArray, i < len → W.cell? (a.add i) = some (.string s) := by
      intro i
      by_cases hlt : i < len
      · obtain ⟨hc, hd⟩ := hi i (by omega)
        obtain ⟨t, hs, _, _⟩ := DataW.trod_string Tryd.underlying9 hd
        refine ⟨t, fun _ => ?_⟩
        have : V i = .string t := by simpa using hs
        rw [hc, this]
      · exact ⟨⟨#[]⟩, fun hh => absurd hh hlt⟩
    obtain ⟨F, hF⟩ := Classical.axiomOfChoice hel
    refine ⟨_, (List.range len).map F, hcs, some a, cap, by simp, fun hn => ?_⟩
    have h0 : 0 < len := by simp at hn; omega
    have hsp : a.spot = none := by
      have := hF 0 h0
      simpa [Addr.add] using World.cell?_spot this
    refine ⟨a.block, a.off, ?_, ?_, fun i hi2 => ?_⟩
    · obtain ⟨b, o, s⟩ := a
      simp only at hsp
      rw [hsp]
    · have := cell_lt (hF 0 h0)
      rw [add_none hsp] at this
      exact this
    · have hi3 : i < len := by simpa using hi2
      have := hF i hi3
      rw [add_none hsp] at this
      simpa using this

set_option maxRecDepth 100000 in
theorem rdT_of_trod {H : Type} {enc : TypeId × Value → H} {W : World} {fuel : Nat} {cs : List Value} {x : DataW H × List MemPlace} (h : DataW.trod enc Tryd.prog W 0 (fun _ => true) true fuel 35 cs = some x) :
    ∃ v ts, cs = [v] ∧ RdT W v ts := by
  rcases open_slice1 Tryd.underlying35 cellsTyp h with ⟨h0, _⟩ | ⟨a, len, cap, m, n, V, D, Pl, hcs, _, hl, hm, hmm, _, hi⟩
  · exact ⟨_, [], h0, ⟨none, 0, rfl, fun h => absurd rfl h⟩, by simp⟩
  · have hmc : m = cap := by rw [hmm]; simp
    have hel : ∀ i, ∃ t : Value × List L.Nd, i < len → W.cell? (a.add i) = some t.1 ∧ Rd W W.heap.size t.1 t.2 := by
      intro i
      by_cases hlt : i < len
      · obtain ⟨hc, hd⟩ := hi i (by omega)
        obtain ⟨v, l, hv, hr, _⟩ := rd_of_trod hd
        refine ⟨(v, l), fun _ => ⟨?_, hr⟩⟩
        have : V i = v := by simpa using hv
        rw [hc, this]
      · exact ⟨(.slice none 0 0, []), fun hh => absurd hh hlt⟩
    obtain ⟨F, hF⟩ := Classical.axiomOfChoice hel
    refine ⟨_, (List.range len).map F, hcs, ⟨some a, cap, by simp, fun hn => ?_⟩, fun t ht => ?_⟩
    · have h0 : 0 < len := by simp at hn; omega
      have hsp : a.spot = none := by
        have := (hF 0 h0).1
        simpa [Addr.add] using World.cell?_spot this
      refine ⟨a.block, a.off, ?_, ?_, fun i hi2 => ?_⟩
      · obtain ⟨b, o, s⟩ := a
        simp only at hsp
        rw [hsp]
      · have := cell_lt (hF 0 h0).1
        rw [add_none hsp] at this
        exact this
      · have hi3 : i < len := by simpa using hi2
        have := (hF i hi3).1
        rw [add_none hsp] at this
        simpa using this
    · obtain ⟨i, hi2, rfl⟩ := List.mem_map.1 ht
      exact (hF i (List.mem_range.1 hi2)).2

theorem oneMakes : ∃ fs, Tryd.prog.underlying 37 = some (.struct fs) ∧ oneCellFields Tryd.prog fs = true ∧ fs.size = 3 ∧ (fs[0]?).map (·.type) = some 3 ∧ (fs[1]?).map (·.type) = some 34 ∧ (fs[2]?).map (·.type) = some 35 :=
  ⟨_, Tryd.underlying37, by kernel_rfl, by kernel_rfl, by kernel_rfl, by kernel_rfl, by kernel_rfl⟩
theorem cellsMakes : Tryd.prog.cellsOf 37 = 3 := by kernel_rfl

set_option maxRecDepth 100000 in
theorem makes_of_trod {H : Type} {enc : TypeId × Value → H} {W : World} {fuel : Nat} {cs : List Value} {x : DataW H × List MemPlace} (h : DataW.trod enc Tryd.prog W 0 (fun _ => true) true fuel 37 cs = some x) :
    ∃ (k : Int) (vs : Value) (ss : List ByteArray) (vt : Value) (ts : List (Value × List L.Nd)), cs = [.int .i64 k, vs, vt] ∧ RdS W W.heap.size vs ss ∧ RdT W vt ts := by
  obtain ⟨fs, hu, hone, hsz, ht0, ht1, ht2⟩ := oneMakes
  obtain ⟨ys, n', _, _, hcl, hyl, hf⟩ := DataW.trod_struct hu h
  rw [cellsMakes] at hcl
  obtain ⟨f0, hf0, he0⟩ := Option.map_eq_some_iff.1 ht0
  obtain ⟨f1, hf1, he1⟩ := Option.map_eq_some_iff.1 ht1
  obtain ⟨f2, hf2, he2⟩ := Option.map_eq_some_iff.1 ht2
  have g0 := hf 0 f0 hf0
  have g1 := hf 1 f1 hf1
  have g2 := hf 2 f2 hf2
  obtain ⟨o0, k0⟩ := hone_of hone 0 f0 hf0
  obtain ⟨o1, k1⟩ := hone_of hone 1 f1 hf1
  obtain ⟨o2, k2⟩ := hone_of hone 2 f2 hf2
  rw [o0, k0, he0, List.getElem?_eq_getElem (by omega : 0 < ys.length)] at g0
  rw [o1, k1, he1, List.getElem?_eq_getElem (by omega : 1 < ys.length)] at g1
  rw [o2, k2, he2, List.getElem?_eq_getElem (by omega : 2 < ys.length)] at g2
  match cs, hcl with
  | [c0, c1, c2], _ =>
    simp only [List.drop_zero, List.take_succ_cons, List.take_zero] at g0
    simp only [List.drop_succ_cons, List.drop_zero, List.take_succ_cons, List.take_zero] at g1 g2
    obtain ⟨z, hz, _, _⟩ := DataW.trod_int Tryd.underlying3 g0
    obtain ⟨vs, ss, hvs, hS⟩ := rdS_of_trod g1
    obtain ⟨vt, ts, hvt, hT⟩ := rdT_of_trod g2
    refine ⟨z, vs, ss, vt, ts, ?_, hS, hT⟩
    have e0 : c0 = .int .i64 z := by simpa using hz
    have e1 : c1 = vs := by simpa using hvs
    have e2 : c2 = vt := by simpa using hvt
    rw [e0, e1, e2]

end Go.Proofs.YtimlblbmfckeiaaDoor
