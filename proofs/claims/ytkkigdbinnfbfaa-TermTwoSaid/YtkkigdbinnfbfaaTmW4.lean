/-
  What laws of layer 12 ask ahead: few types, read as such. No conditions but those that each lemma names.
-/
import Derived.Test.YtkkigdbinnfbfaaTmW2
import Derived.Test.YtkkigdbinnfbfaaTmW3
namespace Go.Proofs.Ytkkigdbinnfbfaa.L
open Go
/-- A type, of few nodes, with short names. -/
structure FewT (x : Nd) (ks : Fo) : Prop where
  ok : (Fo.cons x ks .nil).ok = true
  b : bare x = true
  len : (x :: ks.flat).length ≤ 60
  sh : Short (x :: ks.flat)
  right : rightL (x :: ks.flat) = true
theorem few_get {l : List Nd} (h : fewL 60 l = true) : ∃ x ks, l = x :: Fo.flat ks ∧ FewT x ks := by
  simp only [fewL, Bool.and_eq_true, decide_eq_true_eq, List.all_eq_true] at h
  obtain ⟨h1, h2, h3⟩ := h
  obtain ⟨x, ks, rfl, -, hb, ho, -⟩ := (rightL_iff _).1 h3
  exact ⟨x, ks, rfl, ho, hb, h1, h2, h3⟩
theorem few_one (l : List Nd) : fewR [l] = fewL 60 l := by simp [fewR]
theorem FewT.k9 {x : Nd} {ks : Fo} (h : FewT x ks) : x.kind ≠ 9 := by
  have := h.b
  simp only [bare, Bool.and_eq_true, decide_eq_true_eq] at this
  exact this.2
end Go.Proofs.Ytkkigdbinnfbfaa.L
namespace Go.Proofs.Ytkkigdbinnfbfaa
open Go.RowKit
theorem FewT.ty {x : L.Nd} {ks : L.Fo} (h : L.FewT x ks) (hn : ∀ y ∈ x :: ks.flat, InN y) : TyIn x ks :=
  ⟨h.ok, h.k9, Nat.le_trans h.len (by omega), h.sh, fun z hz => (hn z hz).1⟩
/-- A row of types, as it is made. -/
theorem rdr_lit (w : World) (vs : List VT) (hm : vs.length ≤ 1000) (h : ∀ t ∈ vs, Rd w w.heap.size t.1 t.2) :
    RdR (w.alloc (.cells (vs.map (·.1)).toArray 23)) (w.alloc (.cells (vs.map (·.1)).toArray 23)).heap.size (.slice (some ⟨w.heap.size, 0, none⟩) vs.length vs.length) vs := by
  refine ⟨⟨_, _, rfl, Nat.le_refl _, by unfold maxLen; omega, by simp, fun _ => ⟨w.heap.size, 0, rfl, by simp, fun i hi => ?_⟩⟩, fun t ht => ((h t ht).alloc _).mono (by simp)⟩
  have := Lib.cell_of_heap (heap_alloc_new w (.cells (vs.map (·.1)).toArray 23)) i
  rw [Nat.zero_add, this]
  simp [List.getElem?_eq_getElem hi]
theorem fews_one (w : World) (v : Value) (l : List L.Nd) (hx : Rd w w.heap.size v l) (hn : ∀ y ∈ l, InN y) :
    Calls Try.prog 4 #[.slice (some ⟨w.heap.size, 0, none⟩) 1 1] (w.alloc (.cells #[v] 23)) fun e w' => e = .returned (.bool (L.fewL 60 l)) ∧ Below w.heap.size w w' := by
  have h := fews_any [(v, l)] (fun t ht y hy => by
    simp only [List.mem_singleton] at ht
    subst ht
    exact (hn y hy).2.1) _ _ (rdr_lit w [(v, l)] (by simp) (fun t ht => by
    simp only [List.mem_singleton] at ht
    subst ht
    exact hx))
  refine h.mono ?_
  rintro e w' ⟨rfl, hb⟩
  exact ⟨by rw [← L.few_one]; rfl, (below_new _).trans (hb.mono (by simp))⟩
end Go.Proofs.Ytkkigdbinnfbfaa
