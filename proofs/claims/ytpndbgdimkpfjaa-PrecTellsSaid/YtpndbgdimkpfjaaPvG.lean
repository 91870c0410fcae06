/-
  What a type is as a function, or at a label, says at least as much, if the type does; plain over four. Conditions: those that each lemma names.
-/
import Derived.Test.YtpndbgdimkpfjaaPvF
namespace Go.Proofs.Ytpndbgdimkpfjaa
open Go.RowKit Go.Sort

theorem root_top {n : Nat} {F : L.Fo} (h : Gd n F) : L.beF F L.dynF = true := (root_be h.root).1

theorem call_gd {n : Nat} {F P Q : L.Fo} (h : Gd n F) (hc : L.callF F = some (P, Q)) : Gd n P ∧ Gd n Q := by
  have h1 : 1 ≤ n := by
    obtain ⟨x, ks, rfl, -⟩ := h.root
    have := h.len
    simp [L.Fo.flat] at this
    omega
  obtain ⟨x, ks, rfl, -⟩ := h.root
  rw [L.callF] at hc
  split at hc
  · injection hc with hc
    injection hc with e1 e2
    subst e1 e2
    exact ⟨gd_dyn h1, gd_dyn h1⟩
  · split at hc
    · rename_i h5
      obtain ⟨y, k1, z, k2, rfl⟩ := two_kids h.ok h5
      simp only [L.trees, Option.some.injEq, Prod.mk.injEq] at hc
      obtain ⟨rfl, rfl⟩ := hc
      exact ⟨h.kid (by simp [L.trees]), h.kid (by simp [L.trees])⟩
    · cases hc

theorem call_be {n : Nat} {F G P Q : L.Fo} (h : Gd n F) (hg : Gd n G) (hb : L.beF F G = true) (hc : L.callF F = some (P, Q)) : ∃ P' Q', L.callF G = some (P', Q') ∧ L.beF P P' = true ∧ L.beF Q Q' = true := by
  obtain ⟨gp, gq⟩ := call_gd h hc
  obtain ⟨x, ks, rfl, -⟩ := h.root
  obtain ⟨y, ls, rfl, -⟩ := hg.root
  by_cases hy : y.kind = 0
  · exact ⟨_, _, by simp [L.callF, hy], root_top gp, root_top gq⟩
  · simp [L.beF, hy] at hb
    obtain ⟨-, hk, hkl⟩ := hb
    rw [L.callF, if_neg (by rw [hk]; exact hy)] at hc
    split at hc
    · rename_i h5
      obtain ⟨y1, k1, z1, k2, rfl⟩ := two_kids h.ok h5
      obtain ⟨y2, l1, z2, l2, rfl⟩ := two_kids hg.ok (by rw [← hk]; exact h5)
      simp only [L.trees, Option.some.injEq, Prod.mk.injEq] at hc
      obtain ⟨rfl, rfl⟩ := hc
      refine ⟨L.tree (y2, l1), L.tree (z2, l2), by simp [L.callF, ← hk, h5, L.trees], ?_, ?_⟩
      · exact (L.be_trees hkl 0 (by simp [L.trees]) (by simp [L.trees])).2
      · exact (L.be_trees hkl 1 (by simp [L.trees]) (by simp [L.trees])).2
    · cases hc

theorem field_gd {n : Nat} {F P : L.Fo} {s : ByteArray} (h : Gd n F) (hc : L.fieldF s F = some P) : Gd n P := by
  have h1 : 1 ≤ n := by
    obtain ⟨x, ks, rfl, -⟩ := h.root
    have := h.len
    simp [L.Fo.flat] at this
    omega
  obtain ⟨x, ks, rfl, -⟩ := h.root
  rw [L.fieldF] at hc
  split at hc
  · injection hc with hc
    subst hc
    exact gd_dyn h1
  · split at hc
    · obtain ⟨t, ht, rfl⟩ := L.lab_mem s hc
      exact h.kid ht
    · cases hc

theorem field_be {n : Nat} {F G P : L.Fo} {s : ByteArray} (h : Gd n F) (hg : Gd n G) (hb : L.beF F G = true) (hc : L.fieldF s F = some P) : ∃ Q, L.fieldF s G = some Q ∧ L.beF P Q = true := by
  have gp := field_gd h hc
  obtain ⟨x, ks, rfl, -⟩ := h.root
  obtain ⟨y, ls, rfl, -⟩ := hg.root
  by_cases hy : y.kind = 0
  · exact ⟨_, by simp [L.fieldF, hy], root_top gp⟩
  · simp [L.beF, hy] at hb
    obtain ⟨-, hk, hkl⟩ := hb
    rw [L.fieldF, if_neg (by rw [hk]; exact hy)] at hc
    split at hc
    · rename_i h67
      obtain ⟨q, e1, e2⟩ := L.lab_be s hkl hc
      exact ⟨q, by rw [L.fieldF, if_neg hy, if_pos (by rw [← hk]; exact h67), e1], e2⟩
    · cases hc

theorem field_yes {n : Nat} {F : L.Fo} (h : Gd n F) (hn : n ≤ 10000) (s : ByteArray) {P : L.Fo} (hc : L.fieldF s F = some P) (v : Value) (w : World) (hx : Rd w w.heap.size v F.flat) :
    Calls Try.prog 22 #[v, .string s] w fun e w' => ∃ v', e = .returned (.tuple #[v', .int .i64 0]) ∧ Own w.heap.size v' P.flat w' ∧ Below w.heap.size w w' :=
  (field_any h hn s v w hx).mono fun e w' ⟨hp, hB⟩ => by
    rw [hc] at hp
    obtain ⟨v', he, ho⟩ := hp
    exact ⟨v', he, ho, hB⟩
theorem field_no {n : Nat} {F : L.Fo} (h : Gd n F) (hn : n ≤ 10000) (s : ByteArray) (hc : L.fieldF s F = none) (v : Value) (w : World) (hx : Rd w w.heap.size v F.flat) :
    Calls Try.prog 22 #[v, .string s] w fun e w' => e = .returned (.tuple #[.slice none 0 0, .int .i64 9]) ∧ Below w.heap.size w w' :=
  (field_any h hn s v w hx).mono fun e w' ⟨hp, hB⟩ => by
    rw [hc] at hp
    exact ⟨hp, hB⟩

set_option maxRecDepth 100000 in
theorem plain4 (va vb vc vd : Value) (la lb lc ld : List L.Nd) (w : World) (ha : Rd w w.heap.size va la) (hb : Rd w w.heap.size vb lb) (hc : Rd w w.heap.size vc lc) (hd : Rd w w.heap.size vd ld) :
    Calls Try.prog 11 #[.slice (some ⟨w.heap.size, 0, none⟩) 4 4] (w.alloc (.cells #[va, vb, vc, vd] 23)) fun e w' => e = .returned (.bool (allG [(va, la), (vb, lb), (vc, lc), (vd, ld)])) ∧ Below w.heap.size w w' := by
  refine (plain_many [(va, la), (vb, lb), (vc, lc), (vd, ld)] (w.alloc (.cells #[va, vb, vc, vd] 23)) w.heap.size 4 (by simp) (by simp) ?_ ?_).mono fun e w' ⟨he, hB⟩ => ⟨he, (below_new _).trans (hB.mono (by simp))⟩
  · intro t ht
    simp only [List.mem_cons, List.not_mem_nil, or_false] at ht
    rcases ht with rfl | rfl | rfl | rfl
    · exact (ha.alloc _).mono (by simp)
    · exact (hb.alloc _).mono (by simp)
    · exact (hc.alloc _).mono (by simp)
    · exact (hd.alloc _).mono (by simp)
  · intro j hj
    have h3 : j < 4 := hj
    have h := heap_alloc_new w (.cells #[va, vb, vc, vd] 23)
    obtain rfl | rfl | rfl | rfl : j = 0 ∨ j = 1 ∨ j = 2 ∨ j = 3 := by omega
    · exact Lib.cell_of_heap h 0
    · exact Lib.cell_of_heap h 1
    · exact Lib.cell_of_heap h 2
    · exact Lib.cell_of_heap h 3

theorem allG4 {v1 v2 v3 v4 : Value} {P Q R S : L.Fo} (p : Gd 60 P) (q : Gd 60 Q) (r : Gd 60 R) (s : Gd 60 S) : allG [(v1, P.flat), (v2, Q.flat), (v3, R.flat), (v4, S.flat)] = true := by
  simp [allG, p.good (by omega) (Nat.le_refl _), q.good (by omega) (Nat.le_refl _), r.good (by omega) (Nat.le_refl _), s.good (by omega) (Nat.le_refl _)]
theorem allG2 {v1 v2 : Value} {P Q : L.Fo} (p : Gd 60 P) (q : Gd 60 Q) : allG [(v1, P.flat), (v2, Q.flat)] = true := by
  simp [allG, p.good (by omega) (Nat.le_refl _), q.good (by omega) (Nat.le_refl _)]

end Go.Proofs.Ytpndbgdimkpfjaa
