/-
  Plain lists: the labels of a row's children, its children alone, and what they make laid together again. No conditions but those that each lemma names.
-/
import Derived.Test.YtimlblbmfckeiaaDoorTyD
import Derived.Test.YtimlblbmfckeiaaDoorTyZ
namespace Go.Proofs.YtimlblbmfckeiaaDoor.L
open Go

def namesF : Fo → List ByteArray
  | .nil => []
  | .cons y _ r => y.name :: namesF r

/-- The trees of a row, each without its label. -/
def partsF : Fo → List (List Nd)
  | .nil => []
  | .cons y k r => setName (y :: k.flat) ⟨#[]⟩ :: partsF r

theorem namesF_length : ∀ f : Fo, (namesF f).length = f.count
  | .nil => rfl
  | .cons _ _ r => by simp [namesF, Fo.count, namesF_length r]
theorem partsF_length : ∀ f : Fo, (partsF f).length = f.count
  | .nil => rfl
  | .cons _ _ r => by simp [partsF, Fo.count, partsF_length r]

theorem setName_back (y : Nd) (k : List Nd) : setName (setName (y :: k) ⟨#[]⟩) y.name = y :: k := rfl

theorem parts_back : ∀ f : Fo, ((List.range f.count).flatMap fun k => setName ((partsF f).getD k []) ((namesF f).getD k ⟨#[]⟩)) = f.flat
  | .nil => rfl
  | .cons y k r => by
    have ih := parts_back r
    simp only [Fo.count, List.range_succ_eq_map, List.flatMap_cons, List.flatMap_map, partsF, namesF, List.getD_cons_zero, List.getD_cons_succ, setName_back, Fo.flat]
    rw [ih]
    simp

theorem rows_back (f : Fo) (ts : List (Value × List Nd)) (h : ts.map (·.2) = partsF f) : rowsL (namesF f) ts (List.range f.count) = f.flat := by
  rw [← parts_back f]
  unfold rowsL
  congr 1
  funext k
  rw [← h]
  congr 1
  simp only [List.getD, List.getElem?_map]
  cases ts[k]? <;> rfl

/-- The labels of the children of a row rise. -/
theorem names_rise (x : Nd) (hk : x.kind ≠ 5) : ∀ (f : Fo) (k : Nat) (b : ByteArray), Fo.stand x k b f = true → (∀ z ∈ f.flat, z.kind ≠ 9) →
    (∀ s ∈ namesF f, Lib.compareBytes b.data.toList s.data.toList < 0) ∧ (namesF f).Pairwise (fun a c => Lib.compareBytes a.data.toList c.data.toList < 0) ∧ (∀ s ∈ namesF f, isLabel x.kind s = true)
  | .nil, _, _, _, _ => by simp [namesF]
  | .cons y ks r, k, b, hs, hp => by
    simp only [Fo.stand, Bool.and_eq_true] at hs
    obtain ⟨h1, h2⟩ := hs
    have hy : y.kind ≠ 9 := hp y (by simp [Fo.flat])
    simp only [mayStand, if_neg hk, if_neg hy, Bool.and_eq_true, ltB_iff, decide_eq_true_eq] at h1
    obtain ⟨ha, hb, hc⟩ := names_rise x hk r (k + 1) y.name h2 (fun z hz => hp z (by simp [Fo.flat, hz]))
    simp only [namesF, List.mem_cons, List.pairwise_cons]
    refine ⟨?_, ⟨ha, hb⟩, ?_⟩
    · rintro s (rfl | hs)
      · exact h1.2
      · exact cB_trans h1.2 (ha s hs)
    · rintro s (rfl | hs)
      · exact h1.1
      · exact hc s hs

theorem range_rise {ss : List ByteArray} (h : ss.Pairwise (fun a c => Lib.compareBytes a.data.toList c.data.toList < 0)) : Rise ss (List.range ss.length) := by
  unfold Rise
  rw [List.pairwise_iff_getElem] at h ⊢
  intro i j hi hj hij
  simp only [List.length_range] at hi hj
  simp only [List.getElem_range]
  have := h i j hi hj hij
  unfold labL
  simpa [List.getD, hi, hj] using this

/-- What Row tells of the parts of a plain row: the row. -/
theorem row_whole {x : Nd} {ks : Fo} (ho : (Fo.cons x ks .nil).ok = true) (hk : x.kind = 6 ∨ x.kind = 7) (hp : ∀ z ∈ ks.flat, z.kind ≠ 9) :
    isRow x.kind (namesF ks) (ks.count : Int) = true ∧ Rise (namesF ks) (List.range ks.count) ∧ x.n = ks.count := by
  simp only [Fo.ok, Bool.and_true, Bool.and_eq_true, decide_eq_true_eq] at ho
  obtain ⟨⟨⟨h1, h2⟩, h3⟩, -⟩ := ho
  have hk5 : x.kind ≠ 5 := by omega
  obtain ⟨-, hb, hc⟩ := names_rise x hk5 ks 0 _ h3 hp
  have hn : x.n = ks.count := by
    rw [← h2]
    unfold many
    rw [if_neg hk5, if_pos hk]
  refine ⟨?_, ?_, hn⟩
  · simp only [isRow, Bool.and_eq_true, Bool.or_eq_true, decide_eq_true_eq, namesF_length, List.all_eq_true, true_and]
    refine ⟨hk, ?_, hc⟩
    rw [← hn]
    unfold numbered at h1 ⊢
    rcases hk with h | h <;> simp [h] at h1 ⊢ <;> exact h1
  · have := range_rise hb
    rwa [namesF_length] at this

theorem setName_plain (l : List Nd) (s : ByteArray) : plainL (setName l s) = plainL l := by cases l <;> rfl
theorem setName_static (l : List Nd) (s : ByteArray) : staticL (setName l s) = staticL l := by cases l <;> rfl

/-- A child of a right tree alone is right, unless it is a tail. -/
theorem part_right {y : Nd} {ks : Fo} (ho : (Fo.cons y ks .nil).ok = true) (h9 : y.kind ≠ 9) (hl : (y :: ks.flat).length ≤ 10000) (hd : ks.deep + 1 ≤ 100) : rightL (setName (y :: ks.flat) ⟨#[]⟩) = true := by
  rw [rightL_iff]
  refine ⟨{ y with name := ⟨#[]⟩ }, ks, rfl, by rw [setName_length]; exact hl, ?_, ?_, hd⟩
  · simp [bare, h9]
    rfl
  · have hst : ∀ (f : Fo) (k : Nat) (b : ByteArray), Fo.stand { y with name := ⟨#[]⟩ } k b f = Fo.stand y k b f := by
      intro f
      induction f with
      | nil => intro k b; rfl
      | cons z kz r _ ih => intro k b; simp only [Fo.stand, ih]; rfl
    simp only [Fo.ok, hst] at ho ⊢
    exact ho

end Go.Proofs.YtimlblbmfckeiaaDoor.L
namespace Go.Proofs.YtimlblbmfckeiaaDoor
open Go.RowKit

theorem bare_named {x : L.Nd} (h : L.bare x = true) : x.name = ⟨#[]⟩ := bare_name h

/-- Row of the parts of a plain row and its labels: the row. -/
theorem rowParts_any (x : L.Nd) (ks : L.Fo) (ho : (L.Fo.cons x ks .nil).ok = true) (hk : x.kind = 6 ∨ x.kind = 7) (hp : ∀ z ∈ ks.flat, z.kind ≠ 9) (hb : L.bare x = true)
    (hl : ks.flat.length ≤ 10000) (hnm : ∀ z ∈ ks.flat, z.name.size ≤ 2000000) (ts : List (Value × List L.Nd)) (hts : ts.map (·.2) = L.partsF ks) (vs vt : Value) (w : World) (hxs : RdS w w.heap.size vs (L.namesF ks)) (hxt : RdT w vt ts) :
    Calls Tryd.prog 19 #[.int .i64 x.kind, vs, vt] w fun e w' => Below w.heap.size w w' ∧ ∃ v', e = .returned (.tuple #[v', .int .i64 0]) ∧ Own w.heap.size v' (x :: ks.flat) w' := by
  obtain ⟨hr, hrise, hxn⟩ := L.row_whole ho hk hp
  have htl : ts.length = ks.count := by rw [← L.partsF_length, ← hts, List.length_map]
  have hcnt : ks.count ≤ 50 := by
    have := (isRow_facts hr).2
    omega
  have memN : ∀ (f : L.Fo) s, s ∈ L.namesF f → ∃ z ∈ f.flat, z.name = s := by
    intro f
    induction f with
    | nil => intro s h; simp [L.namesF] at h
    | cons y k r _ ih =>
      intro s h
      simp only [L.namesF, List.mem_cons] at h
      rcases h with rfl | h
      · exact ⟨y, by simp [L.Fo.flat], rfl⟩
      · obtain ⟨z, hz, e⟩ := ih s h
        exact ⟨z, by simp [L.Fo.flat, hz], e⟩
  have memP : ∀ (f : L.Fo) t, t ∈ L.partsF f → t ≠ [] ∧ t.length ≤ f.flat.length := by
    intro f
    induction f with
    | nil => intro t h; simp [L.partsF] at h
    | cons y k r _ ih =>
      intro t h
      simp only [L.partsF, List.mem_cons] at h
      rcases h with rfl | h
      · simp [L.setName, L.Fo.flat]
      · obtain ⟨h1, h2⟩ := ih t h
        refine ⟨h1, ?_⟩
        simp only [L.Fo.flat, List.length_cons, List.length_append]
        omega
  have hmem : ∀ t ∈ ts, t.2 ∈ L.partsF ks := fun t ht => by rw [← hts]; exact List.mem_map_of_mem ht
  have hr' : L.isRow x.kind (L.namesF ks) (ts.length : Int) = true := by rw [htl]; exact hr
  refine (row_any x.kind (L.namesF ks) ts (fun s hs => by obtain ⟨z, hz, rfl⟩ := memN ks s hs; exact hnm z hz) (by rw [L.namesF_length]; omega) (by omega) (fun t ht => (memP ks _ (hmem t ht)).1) (fun t ht => by have := (memP ks _ (hmem t ht)).2; omega) vs vt w hxs hxt).mono ?_
  rintro e w' ⟨hB, h⟩
  refine ⟨hB, ?_⟩
  rcases h with ⟨h, -⟩ | ⟨-, js, hpm, hs, h⟩
  · rw [hr'] at h; cases h
  · have hrg : (List.range (L.namesF ks).length).Perm (List.range (L.namesF ks).length) := List.Perm.refl _
    have hrise' : L.Rise (L.namesF ks) (List.range (L.namesF ks).length) := by rw [L.namesF_length]; exact hrise
    rcases h with ⟨⟨j, h0, h1, h2⟩, -⟩ | ⟨hne, v', he, ho'⟩
    · exact absurd ⟨_, hrg, hrise'⟩ (L.twice_of hpm h0 h1 h2)
    · obtain rfl := L.rise_unique (L.rise_of hs hne) hrise' hpm
      refine ⟨v', he, ?_⟩
      rw [L.namesF_length, L.rows_back ks ts hts, htl] at ho'
      have hx : x = ⟨x.kind, ⟨#[]⟩, (ks.count : Int)⟩ := by
        obtain ⟨k, n, m⟩ := x
        have h1 := bare_name hb
        simp only at h1 hxn ⊢
        rw [h1, hxn]
      rw [hx]
      exact ho'

end Go.Proofs.YtimlblbmfckeiaaDoor
