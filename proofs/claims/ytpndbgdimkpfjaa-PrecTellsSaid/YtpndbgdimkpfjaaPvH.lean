/-
  The reference's Call, Field and Tags; prec.Tags; rows of texts compared. Conditions: slices that read as good types of at most 10000 nodes.
-/
import Derived.Test.YtpndbgdimkpfjaaPvR
import Derived.Test.YtpndbgdimkpfjaaPvG
namespace Go.Proofs.Ytpndbgdimkpfjaa
open Go.RowKit Go.Sort

/-- A row's trees and labels, read one by one. -/
structure KV (B : Nat) (w : World) (ts : List (L.Nd × L.Fo)) (At Al : Option Addr) : Prop where
  t : ts ≠ [] → ∃ g o, At = some ⟨g, o, none⟩ ∧ g < w.heap.size ∧ ∀ (i : Nat) (h : i < ts.length), ∃ v, w.cell? ⟨g, o + i, none⟩ = some v ∧ Own B v (L.tree ts[i]).flat w
  l : ts ≠ [] → ∃ g o, Al = some ⟨g, o, none⟩ ∧ g < w.heap.size ∧ ∀ (i : Nat) (h : i < ts.length), w.cell? ⟨g, o + i, none⟩ = some (.string ts[i].1.name)

theorem KV.below {B : Nat} {w w' : World} {ts : List (L.Nd × L.Fo)} {At Al : Option Addr} (h : KV B w ts At Al) (hb : Below w.heap.size w w') : KV B w' ts At Al :=
  ⟨fun hn => by
    obtain ⟨g, o, e, hg, hc⟩ := h.t hn
    refine ⟨g, o, e, Nat.lt_of_lt_of_le hg hb.size, fun i hi => ?_⟩
    obtain ⟨v, h1, h2⟩ := hc i hi
    exact ⟨v, (hb.cell (p := ⟨g, o + i, none⟩) hg).trans h1, h2.below hb⟩,
   fun hn => by
    obtain ⟨g, o, e, hg, hc⟩ := h.l hn
    exact ⟨g, o, e, Nat.lt_of_lt_of_le hg hb.size, fun i hi => (hb.cell (p := ⟨g, o + i, none⟩) hg).trans (hc i hi)⟩⟩

theorem KidsPost.kv {ks : L.Fo} {B : Nat} {e : Ending} {w : World} (h : KidsPost ks B e w) : ∃ At ct Al cl, e = .returned (.tuple #[.slice At (L.trees ks).length ct, .slice Al (L.trees ks).length cl]) ∧ KV B w (L.trees ks) At Al ∧ OwnS B (.slice Al (L.trees ks).length cl) ((L.trees ks).map (·.1.name)) w := by
  obtain ⟨vt, vl, ts, he, ht, hl, hm⟩ := h
  have hlen : ts.length = (L.trees ks).length := by simpa using congrArg List.length hm
  have hs := hl
  obtain ⟨⟨A, c, rfl, hc⟩, -⟩ := ht.rd
  obtain ⟨A2, c2, rfl, hc2⟩ := hl.rd
  rw [List.length_map] at he hs
  rw [hlen] at he
  refine ⟨A, c, A2, c2, he, ⟨fun hn => ?_, fun hn => ?_⟩, hs⟩
  · obtain ⟨g, o, e1, hg, hx⟩ := hc (by intro e; rw [e] at hlen; exact hn (List.eq_nil_of_length_eq_zero (by simpa using hlen.symm)))
    refine ⟨g, o, e1, hg, fun i hi => ?_⟩
    have hi2 : i < ts.length := by omega
    refine ⟨_, hx i hi2, ?_⟩
    have h2 : ts[i].2 = (L.tree (L.trees ks)[i]).flat := by
      have h3 := congrArg (·[i]?) hm
      simpa [List.getElem?_map, List.getElem?_eq_getElem hi2, List.getElem?_eq_getElem hi] using h3
    rw [← h2]
    exact ht.2 _ (List.getElem_mem hi2)
  · obtain ⟨g, o, e1, hg, hx⟩ := hc2 (by simpa using hn)
    refine ⟨g, o, e1, hg, fun i hi => ?_⟩
    have := hx i (by simpa using hi)
    simpa using this

theorem refdyn_any (w : World) : Calls Try.prog 46 #[] w fun e w' => ∃ v, e = .returned v ∧ Own w.heap.size v L.dynF.flat w' ∧ Below w.heap.size w w' := by
  go_enter Try.func46, Try.ntmps46
  go_wp2
  go_ret
  exact ⟨_, rfl, lit1 w w.heap.size (Nat.le_refl _), below_new _⟩

set_option maxHeartbeats 2000000 in
set_option maxRecDepth 100000 in
theorem refcall_yes {n : Nat} {F : L.Fo} (h : Gd n F) (hn : n ≤ 10000) {P Q : L.Fo} (hc : L.callF F = some (P, Q)) (v : Value) (w : World) (hx : Rd w w.heap.size v F.flat) :
    Calls Try.prog 21 #[v] w fun e w' => ∃ v1 v2, e = .returned (.tuple #[v1, v2, .int .i64 0]) ∧ Own w.heap.size v1 P.flat w' ∧ Own w.heap.size v2 Q.flat w' ∧ Below w.heap.size w w' := by
  have HT := hid (h.ty hn)
  have hpos := fo_pos HT.out.ne
  have hgd := h
  obtain ⟨x, ks, rfl, -⟩ := h.root
  have KC := hid (refkids_any hgd hn v w hx)
  obtain ⟨A, cap, rfl, hl1, hl2, -, hcx⟩ := hx
  unfold maxLen at hl2
  have hln := HT.out.few.1
  have hok := hgd.ok
  obtain ⟨b, o, rfl, hb, hcx⟩ := hcx (by intro e; rw [e] at hpos; simp at hpos)
  have x0 := (hcx 0 hpos).1
  rw [Nat.zero_mul, Nat.add_zero, show (L.Fo.cons x ks .nil).flat[0] = x from rfl] at x0
  clear hcx
  by_cases h0 : x.kind = 0
  · simp only [L.callF, if_pos h0, Option.some.injEq, Prod.mk.injEq] at hc
    obtain ⟨rfl, rfl⟩ := hc
    rw [h0] at x0
    clear h0 h hok hgd KC
    go_enter Try.func21, Try.ntmps21
    go_wp2_with fail
    refine (refdyn_any _).mono ?_
    rintro e w2 ⟨v1, rfl, o1, h1⟩
    have HO1 := hid o1
    have H1 := hid h1
    clear o1 h1
    go_wp2_with fail
    refine (refdyn_any _).mono ?_
    rintro e w3 ⟨v2, rfl, o2, h2⟩
    have HO1' := hid (HO1.out.below h2)
    have HO2 := hid (o2.more H1.out.size)
    have H2 := hid (H1.out.trans (h2.mono H1.out.size))
    clear o2 h2
    go_wp2
    refine bodyPost_ret (v := .tuple #[v1, v2, .int .i64 0]) (by simp [results, Try.results21, go_sem]) rfl ?_
    exact ⟨v1, v2, rfl, HO1'.out, HO2.out, H2.out⟩
  · by_cases h5 : x.kind = 5
    · obtain ⟨y, k1, z, k2, rfl⟩ := two_kids hok h5
      simp only [L.callF, if_neg h0, if_pos h5, L.trees, Option.some.injEq, Prod.mk.injEq] at hc
      obtain ⟨rfl, rfl⟩ := hc
      rw [h5] at x0
      clear h h0 h5 hok hgd
      generalize (L.Fo.cons x (.cons y k1 (.cons z k2 .nil)) .nil).flat = l at *
      go_enter Try.func21, Try.ntmps21
      go_wp2_with fail
      refine (KC.out).mono ?_
      rintro e w2 ⟨hk, h2⟩
      obtain ⟨At, ct, Al, cl, rfl, hkv, -⟩ := hk.kv
      obtain ⟨g, og, rfl, hg, hcs⟩ := hkv.t (by simp [L.trees])
      obtain ⟨v1, c1, o1⟩ := hcs 0 (by simp [L.trees])
      obtain ⟨v2, c2, o2⟩ := hcs 1 (by simp [L.trees])
      rw [Nat.add_zero] at c1
      obtain ⟨A1, e1, rfl, -⟩ := o1.rd
      obtain ⟨A2, e2, rfl, -⟩ := o2.rd
      have HO1 := hid o1
      have HO2 := hid o2
      have H2 := hid h2
      have e3 : (L.trees (.cons y k1 (.cons z k2 .nil))).length = 2 := rfl
      rw [e3]
      clear hk hkv hcs o1 o2 h2 e3
      go_wp2
      go_quiet (fail)
      go_wp2
      refine bodyPost_ret (v := .tuple #[_, _, .int .i64 0]) (by simp [results, Try.results21, go_sem]; exact ⟨rfl, rfl⟩) rfl ?_
      exact ⟨_, _, rfl, HO1.out.below (below_drewN (Below.refl _ _) _), HO2.out.below (below_drewN (Below.refl _ _) _), below_drewN H2.out _⟩
    · simp [L.callF, h0, h5] at hc

set_option maxHeartbeats 2000000 in
set_option maxRecDepth 100000 in
theorem refcall_no {n : Nat} {F : L.Fo} (h : Gd n F) (hn : n ≤ 10000) (hc : L.callF F = none) (v : Value) (w : World) (hx : Rd w w.heap.size v F.flat) :
    Calls Try.prog 21 #[v] w fun e w' => e = .returned (.tuple #[.slice none 0 0, .slice none 0 0, .int .i64 9]) ∧ w = w' := by
  have HT := hid (h.ty hn)
  have hpos := fo_pos HT.out.ne
  obtain ⟨x, ks, rfl, -⟩ := h.root
  obtain ⟨A, cap, rfl, hl1, hl2, -, hcx⟩ := hx
  unfold maxLen at hl2
  have hln := HT.out.few.1
  have hok := h.ok
  obtain ⟨b, o, rfl, hb, hcx⟩ := hcx (by intro e; rw [e] at hpos; simp at hpos)
  have x0 := (hcx 0 hpos).1
  rw [Nat.zero_mul, Nat.add_zero, show (L.Fo.cons x ks .nil).flat[0] = x from rfl] at x0
  have h0 : x.kind ≠ 0 := by intro h0; simp [L.callF, h0] at hc
  have h5 : x.kind ≠ 5 := by
    intro h5
    obtain ⟨y, k1, z, k2, rfl⟩ := two_kids hok h5
    simp [L.callF, h5, L.trees] at hc
  have e0 : (x.kind == 0) = false := beq_eq_false_iff_ne.2 h0
  have e5 : (x.kind == 5) = false := beq_eq_false_iff_ne.2 h5
  generalize x.kind = xk at *
  clear h0 h5 hc hcx h hok
  generalize (L.Fo.cons x ks .nil).flat = l at *
  go_enter Try.func21, Try.ntmps21
  go_wp2
  refine bodyPost_ret (v := .tuple #[.slice none 0 0, .slice none 0 0, .int .i64 9]) (by simp [results, Try.results21, go_sem]) rfl ?_
  exact ⟨rfl, rfl⟩

end Go.Proofs.Ytpndbgdimkpfjaa
