/-
  What the laws of layer 7 share: plain over a few types, what a good list is, meets. Conditions: slices that read as nodes.
-/
import Derived.Test.YtpndbgdimkpfjaaPvL
import Derived.Test.YtpndbgdimkpfjaaPvQ
import Derived.Test.YtpndbgdimkpfjaaPvN
namespace Go.Proofs.Ytpndbgdimkpfjaa
open Go.RowKit Go.Sort

theorem fo_pos {f : L.Fo} (h : f ≠ .nil) : 0 < f.flat.length := by
  cases f with
  | nil => exact absurd rfl h
  | cons x ks r => simp [L.Fo.flat]

/-- A good list as a tree. -/
theorem good_fo {l : List L.Nd} (h : L.good 60 l = true) : ∃ F, Ty l F ∧ L.root F ∧ F.deep ≤ 100 ∧ l.length ≤ 60 ∧ ∀ x ∈ F.flat, x.name.size ≤ 100 := by
  obtain ⟨x, ks, hl, hb, ht, hd, hn, hnm⟩ := good_tree h
  exact ⟨_, ht, ⟨x, ks, rfl, hb⟩, by simp only [L.Fo.deep]; omega, hn, by rw [← ht.flat]; exact hnm⟩

theorem all3 {v1 v2 v3 : Value} {l1 l2 l3 : List L.Nd} (h : allG [(v1, l1), (v2, l2), (v3, l3)] = true) : L.good 60 l1 = true ∧ L.good 60 l2 = true ∧ L.good 60 l3 = true := by
  simpa [allG, Bool.and_assoc] using h
theorem all2 {v1 v2 : Value} {l1 l2 : List L.Nd} (h : allG [(v1, l1), (v2, l2)] = true) : L.good 60 l1 = true ∧ L.good 60 l2 = true := by
  simpa [allG] using h

set_option maxRecDepth 100000 in
theorem plain3 (va vb vc : Value) (la lb lc : List L.Nd) (w : World) (ha : Rd w w.heap.size va la) (hb : Rd w w.heap.size vb lb) (hc : Rd w w.heap.size vc lc) :
    Calls Try.prog 11 #[.slice (some ⟨w.heap.size, 0, none⟩) 3 3] (w.alloc (.cells #[va, vb, vc] 23)) fun e w' => e = .returned (.bool (allG [(va, la), (vb, lb), (vc, lc)])) ∧ Below w.heap.size w w' := by
  refine (plain_many [(va, la), (vb, lb), (vc, lc)] (w.alloc (.cells #[va, vb, vc] 23)) w.heap.size 3 (by simp) (by simp) ?_ ?_).mono fun e w' ⟨he, hB⟩ => ⟨he, (below_new _).trans (hB.mono (by simp))⟩
  · intro t ht
    simp only [List.mem_cons, List.not_mem_nil, or_false] at ht
    rcases ht with rfl | rfl | rfl
    · exact (ha.alloc _).mono (by simp)
    · exact (hb.alloc _).mono (by simp)
    · exact (hc.alloc _).mono (by simp)
  · intro j hj
    have h3 : j < 3 := hj
    have h := heap_alloc_new w (.cells #[va, vb, vc] 23)
    obtain rfl | rfl | rfl : j = 0 ∨ j = 1 ∨ j = 2 := by omega
    · exact Lib.cell_of_heap h 0
    · exact Lib.cell_of_heap h 1
    · exact Lib.cell_of_heap h 2

set_option maxRecDepth 100000 in
theorem plain2 (va vb : Value) (la lb : List L.Nd) (w : World) (ha : Rd w w.heap.size va la) (hb : Rd w w.heap.size vb lb) :
    Calls Try.prog 11 #[.slice (some ⟨w.heap.size, 0, none⟩) 2 2] (w.alloc (.cells #[va, vb] 23)) fun e w' => e = .returned (.bool (allG [(va, la), (vb, lb)])) ∧ Below w.heap.size w w' := by
  refine (plain_many [(va, la), (vb, lb)] (w.alloc (.cells #[va, vb] 23)) w.heap.size 2 (by simp) (by simp) ?_ ?_).mono fun e w' ⟨he, hB⟩ => ⟨he, (below_new _).trans (hB.mono (by simp))⟩
  · intro t ht
    simp only [List.mem_cons, List.not_mem_nil, or_false] at ht
    rcases ht with rfl | rfl
    · exact (ha.alloc _).mono (by simp)
    · exact (hb.alloc _).mono (by simp)
  · intro j hj
    have h3 : j < 2 := hj
    have h := heap_alloc_new w (.cells #[va, vb] 23)
    obtain rfl | rfl : j = 0 ∨ j = 1 := by omega
    · exact Lib.cell_of_heap h 0
    · exact Lib.cell_of_heap h 1

theorem meet_yes {la lb : List L.Nd} {F G : L.Fo} (ta : Ty la F) (tb : Ty lb G) (va vb : Value) (w : World) (ha : Rd w w.heap.size va la) (hb : Rd w w.heap.size vb lb) (hg : L.agF F G = true) :
    Calls Try.prog 13 #[va, vb] w fun e w' => ∃ v, e = .returned (.tuple #[v, .int .i64 0]) ∧ Own w.heap.size v (L.meF F G).flat w' ∧ Below w.heap.size w w' := by
  refine (meet_any ta tb va vb w ha hb).mono fun e w' ⟨v, c, he, hp, hB⟩ => ?_
  rcases hp with ⟨-, rfl, ho⟩ | ⟨hf, -⟩
  · exact ⟨v, he, ho, hB⟩
  · rw [hg] at hf; cases hf

theorem meet_no {la lb : List L.Nd} {F G : L.Fo} (ta : Ty la F) (tb : Ty lb G) (va vb : Value) (w : World) (ha : Rd w w.heap.size va la) (hb : Rd w w.heap.size vb lb) (hg : L.agF F G = false) :
    Calls Try.prog 13 #[va, vb] w fun e w' => e = .returned (.tuple #[.slice none 0 0, .int .i64 9]) ∧ Below w.heap.size w w' := by
  refine (meet_any ta tb va vb w ha hb).mono fun e w' ⟨v, c, he, hp, hB⟩ => ?_
  rcases hp with ⟨hf, -⟩ | ⟨-, rfl, rfl⟩
  · rw [hg] at hf; cases hf
  · exact ⟨he, hB⟩

/-- A meet is a plain type. -/
theorem meet_ty {la lb : List L.Nd} {F G : L.Fo} (ta : Ty la F) (tb : Ty lb G) (ra : L.root F) (rb : L.root G) (hg : L.agF F G = true) {N : Nat} (na : ∀ x ∈ F.flat, x.name.size ≤ N) (nb : ∀ x ∈ G.flat, x.name.size ≤ N) (da : F.deep ≤ 100) (db : G.deep ≤ 100) (hn : la.length + lb.length ≤ 10000) (hN : N ≤ 2000000) :
    Ty (L.meF F G).flat (L.meF F G) ∧ L.rightL (L.meF F G).flat = true ∧ L.root (L.meF F G) ∧ (L.meF F G).deep ≤ 100 ∧ (∀ x ∈ (L.meF F G).flat, x.name.size ≤ N) ∧ (L.meF F G).flat.length ≤ la.length + lb.length := by
  have hok := L.me_ok ta.ok tb.ok ta.plain tb.plain hg
  have hrt := L.me_root ra rb
  have hl := L.me_len F G
  rw [← ta.flat, ← tb.flat] at hl
  have hd := L.me_deep F G
  have hr := L.root_right hrt hok (by omega) (by omega)
  have hnm := L.me_names na nb
  refine ⟨⟨rfl, hok, L.me_plain ta.plain tb.plain, ?_, right_few hr, fun x hx => Nat.le_trans (hnm x hx) hN⟩, hr, hrt, by omega, hnm, hl⟩
  obtain ⟨x, ks, he, -⟩ := hrt
  rw [he]
  intro h
  cases h

theorem ty_plain {l : List L.Nd} {F : L.Fo} (t : Ty l F) : L.plainL l = true := by
  rw [t.flat, ← L.plain_flat]
  exact t.plain

theorem meet_same {la lb : List L.Nd} {F G : L.Fo} (ta : Ty la F) (tb : Ty lb G) (ra : L.root F) (rb : L.root G) (hg : L.agF F G = true) : L.sameL (L.meF F G).flat (L.meF G F).flat = true := by
  have hg2 : L.agF G F = true := by rw [L.ag_symm]; exact hg
  rw [← L.be_same (L.me_ok ta.ok tb.ok ta.plain tb.plain hg) (L.me_ok tb.ok ta.ok tb.plain ta.plain hg2) (L.me_plain ta.plain tb.plain) (L.me_plain tb.plain ta.plain) (by rw [L.root_count (L.me_root ra rb), L.root_count (L.me_root rb ra)]), (L.me_symm hg).1, (L.me_symm hg).2]
  rfl

end Go.Proofs.Ytpndbgdimkpfjaa
