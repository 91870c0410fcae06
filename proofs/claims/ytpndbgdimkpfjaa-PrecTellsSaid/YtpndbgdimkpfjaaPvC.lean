/-
  The walks of prec.Call and prec.Field. Conditions: slices that read as good types of at most 10000 nodes.
-/
import Derived.Test.YtpndbgdimkpfjaaPvK
import Derived.Test.YtpndbgdimkpfjaaM2
namespace Go.Proofs.Ytpndbgdimkpfjaa
open Go.RowKit Go.Sort

set_option maxHeartbeats 1000000 in
set_option maxRecDepth 100000 in
theorem kindOf_any (l : List L.Nd) (hl : 0 < l.length) (v : Value) (w : World) (hx : Rd w w.heap.size v l) :
    Calls Try.prog 43 #[v] w fun e w' => e = .returned (.int .i64 l[0].kind) ∧ w = w' := by
  obtain ⟨A, cap, rfl, hl1, hl2, -, hcx⟩ := hx
  unfold maxLen at hl2
  obtain ⟨b, o, rfl, hb, hcx⟩ := hcx (by rintro rfl; simp at hl)
  obtain ⟨x0, x1, x2⟩ := hcx 0 hl
  rw [Nat.zero_mul, Nat.add_zero] at x0
  have e0 : ((l.length : Int) == 0) = false := beq_eq_false_iff_ne.2 (by omega)
  clear hcx x1 x2
  generalize l[0] = X at *
  go_enter Try.func43, Try.ntmps43
  go_wp2
  go_ret
  exact ⟨rfl, rfl⟩

theorem unknown_any (w : World) : Calls Try.prog 44 #[] w fun e w' => ∃ v, e = .returned v ∧ Own w.heap.size v L.dynF.flat w' ∧ Below w.heap.size w w' := by
  go_enter Try.func44, Try.ntmps44
  go_wp2
  go_ret
  exact ⟨_, rfl, lit1 w w.heap.size (Nat.le_refl _), below_new _⟩

theorem two_kids {x : L.Nd} {ks r : L.Fo} (h : (L.Fo.cons x ks r).ok = true) (h5 : x.kind = 5) : ∃ y k1 z k2, ks = .cons y k1 (.cons z k2 .nil) := by
  obtain ⟨-, a2, -⟩ := L.ok_cons.1 h
  unfold L.many at a2
  rw [if_pos h5] at a2
  cases ks with
  | nil => simp [L.Fo.count] at a2
  | cons y k1 r1 =>
    cases r1 with
    | nil => simp [L.Fo.count] at a2
    | cons z k2 r2 =>
      cases r2 with
      | nil => exact ⟨y, k1, z, k2, rfl⟩
      | cons u k3 r3 => simp [L.Fo.count] at a2; omega

set_option maxHeartbeats 2000000 in
set_option maxRecDepth 100000 in
theorem call_yes {n : Nat} {F : L.Fo} (h : Gd n F) (hn : n ≤ 10000) {P Q : L.Fo} (hc : L.callF F = some (P, Q)) (v : Value) (w : World) (hx : Rd w w.heap.size v F.flat) :
    Calls Try.prog 20 #[v] w fun e w' => ∃ v1 v2, e = .returned (.tuple #[v1, v2, .int .i64 0]) ∧ Own w.heap.size v1 P.flat w' ∧ Own w.heap.size v2 Q.flat w' ∧ Below w.heap.size w w' := by
  have HT := hid (h.ty hn)
  have hpos := fo_pos HT.out.ne
  have HK := hid (kindOf_any F.flat hpos v w hx)
  have HX := hid hx
  obtain ⟨A, cap, rfl, hl1, hl2, -, -⟩ := hx
  unfold maxLen at hl2
  have hln := HT.out.few.1
  obtain ⟨x, ks, rfl, -⟩ := h.root
  have hok := h.ok
  have hf0 : (L.Fo.cons x ks .nil).flat[0] = x := rfl
  rw [hf0] at HK
  clear hf0
  by_cases h0 : x.kind = 0
  · simp only [L.callF, if_pos h0, Option.some.injEq, Prod.mk.injEq] at hc
    obtain ⟨rfl, rfl⟩ := hc
    rw [h0] at HK
    clear h0 h hok
    go_enter Try.func20, Try.ntmps20
    go_wp2_with fail
    refine (HK.out).mono ?_
    rintro e w1 ⟨rfl, rfl⟩
    go_wp2_with fail
    refine (unknown_any _).mono ?_
    rintro e w2 ⟨v1, rfl, o1, h1⟩
    have HO1 := hid o1
    have H1 := hid h1
    clear o1 h1
    go_wp2_with fail
    refine (unknown_any _).mono ?_
    rintro e w3 ⟨v2, rfl, o2, h2⟩
    have HO1' := hid (HO1.out.below h2)
    have HO2 := hid (o2.more H1.out.size)
    have H2 := hid (H1.out.trans (h2.mono H1.out.size))
    clear o2 h2
    go_wp2
    refine bodyPost_ret (v := .tuple #[v1, v2, .int .i64 0]) (by simp [results, Try.results20, go_sem]) rfl ?_
    exact ⟨v1, v2, rfl, HO1'.out, HO2.out, H2.out⟩
  · by_cases h5 : x.kind = 5
    · obtain ⟨y, k1, z, k2, rfl⟩ := two_kids hok h5
      simp only [L.callF, if_neg h0, if_pos h5, L.trees, Option.some.injEq, Prod.mk.injEq] at hc
      obtain ⟨rfl, rfl⟩ := hc
      rw [h5] at HK
      have hd1 : (L.Fo.cons x (.cons y k1 (.cons z k2 .nil)) .nil).flat.drop 1 = y :: (k1.flat ++ (z :: k2.flat)) := by simp [L.Fo.flat]
      obtain ⟨-, -, -, a4, -⟩ := L.ok_cons.1 hok
      obtain ⟨b1, b2, b3, b4, b5⟩ := L.ok_cons.1 a4
      obtain ⟨c1, c2, c3, c4, c5⟩ := L.ok_cons.1 b5
      have oy : (L.Fo.cons y k1 .nil).ok = true := L.ok_cons.2 ⟨b1, b2, b3, b4, rfl⟩
      have oz : (L.Fo.cons z k2 .nil).ok = true := L.ok_cons.2 ⟨c1, c2, c3, c4, rfl⟩
      have hp1 : L.partL (L.Fo.cons x (.cons y k1 (.cons z k2 .nil)) .nil).flat 1 = (L.tree (y, k1)).flat := L.part_of (t := (y, k1)) (r := z :: k2.flat) hd1 oy
      have he1 : L.eat 1 ((L.Fo.cons x (.cons y k1 (.cons z k2 .nil)) .nil).flat.drop 1) = k1.flat.length + 1 := by rw [hd1]; exact L.eat_tree oy _
      have hd2 : (L.Fo.cons x (.cons y k1 (.cons z k2 .nil)) .nil).flat.drop (1 + (k1.flat.length + 1)) = z :: (k2.flat ++ []) := by
        rw [← List.drop_drop, hd1, List.drop_succ_cons, List.drop_left', List.append_nil]
        rfl
      have hp2 : L.partL (L.Fo.cons x (.cons y k1 (.cons z k2 .nil)) .nil).flat (1 + (k1.flat.length + 1)) = (L.tree (z, k2)).flat := L.part_of (t := (z, k2)) (r := []) hd2 oz
      have hlen : (L.Fo.cons x (.cons y k1 (.cons z k2 .nil)) .nil).flat.length = 1 + (k1.flat.length + 1) + (k2.flat.length + 1) := by simp [L.Fo.flat]; omega
      obtain ⟨q, hq⟩ : ∃ q : Nat, 1 + (k1.flat.length + 1) = q := ⟨_, rfl⟩
      rw [hq] at hp2 hlen
      have HE1 : Hid (1 + L.eat 1 ((L.Fo.cons x (.cons y k1 (.cons z k2 .nil)) .nil).flat.drop 1) = q) := hid (by rw [he1, hq])
      have hL1 : 1 < (L.Fo.cons x (.cons y k1 (.cons z k2 .nil)) .nil).flat.length := by omega
      have hLq : q < (L.Fo.cons x (.cons y k1 (.cons z k2 .nil)) .nil).flat.length := by omega
      have HP1 := hid hp1
      have HP2 := hid hp2
      clear h h0 h5 hok hd1 hd2 he1 hp1 hp2 hq hlen a4 b1 b2 b3 b4 b5 c1 c2 c3 c4 c5 oy oz
      generalize (L.Fo.cons x (.cons y k1 (.cons z k2 .nil)) .nil).flat = l at *
      have C1 := hid (part_any l HT.out.few (.slice A l.length cap) 1 hL1 w HX.out)
      rw [HP1.out] at C1
      go_enter Try.func20, Try.ntmps20
      go_wp2_with fail
      refine (HK.out).mono ?_
      rintro e w1 ⟨rfl, rfl⟩
      go_wp2_with fail
      refine (C1.out).mono ?_
      rintro e w2 ⟨v1, rfl, o1, h1⟩
      have HO1 := hid o1
      have H1 := hid h1
      have HX2 := hid ((HX.out.below h1).mono h1.size)
      clear o1 h1 C1
      have C2 := hid (end_any l HT.out.few (.slice A l.length cap) 1 hL1 w2 HX2.out)
      rw [HE1.out] at C2
      go_wp2_with fail
      refine (C2.out).mono ?_
      rintro e w3 ⟨rfl, h2⟩
      have HO1b := hid (HO1.out.below h2)
      have H2 := hid (H1.out.trans (h2.mono H1.out.size))
      have HX3 := hid ((HX2.out.below h2).mono h2.size)
      clear h2 C2 HO1
      have C3 := hid (part_any l HT.out.few (.slice A l.length cap) q hLq w3 HX3.out)
      rw [HP2.out] at C3
      go_wp2_with fail
      refine (C3.out).mono ?_
      rintro e w4 ⟨v2, rfl, o2, h3⟩
      have HO1c := hid (HO1b.out.below h3)
      have HO2 := hid (o2.more H2.out.size)
      have H3 := hid (H2.out.trans (h3.mono H2.out.size))
      clear o2 h3
      go_wp2
      refine bodyPost_ret (v := .tuple #[v1, v2, .int .i64 0]) (by simp [results, Try.results20, go_sem]) rfl ?_
      exact ⟨v1, v2, rfl, HO1c.out, HO2.out, H3.out⟩
    · simp [L.callF, h0, h5] at hc

set_option maxHeartbeats 2000000 in
set_option maxRecDepth 100000 in
theorem call_no {n : Nat} {F : L.Fo} (h : Gd n F) (hn : n ≤ 10000) (hc : L.callF F = none) (v : Value) (w : World) (hx : Rd w w.heap.size v F.flat) :
    Calls Try.prog 20 #[v] w fun e w' => e = .returned (.tuple #[.slice none 0 0, .slice none 0 0, .int .i64 9]) ∧ w = w' := by
  have HT := hid (h.ty hn)
  have hpos := fo_pos HT.out.ne
  have HK := hid (kindOf_any F.flat hpos v w hx)
  obtain ⟨A, cap, rfl, hl1, hl2, -, -⟩ := hx
  obtain ⟨x, ks, rfl, -⟩ := h.root
  have hok := h.ok
  have hf0 : (L.Fo.cons x ks .nil).flat[0] = x := rfl
  rw [hf0] at HK
  clear hf0 hl2
  have h0 : x.kind ≠ 0 := by intro h0; simp [L.callF, h0] at hc
  have h5 : x.kind ≠ 5 := by
    intro h5
    obtain ⟨y, k1, z, k2, rfl⟩ := two_kids hok h5
    simp [L.callF, h5, L.trees] at hc
  have e0 : (x.kind == 0) = false := beq_eq_false_iff_ne.2 h0
  have e5 : (x.kind == 5) = false := beq_eq_false_iff_ne.2 h5
  generalize x.kind = xk at *
  clear h0 h5 hc
  go_enter Try.func20, Try.ntmps20
  go_wp2_with fail
  refine (HK.out).mono ?_
  rintro e w1 ⟨rfl, rfl⟩
  go_wp2
  refine bodyPost_ret (v := .tuple #[.slice none 0 0, .slice none 0 0, .int .i64 9]) (by simp [results, Try.results20, go_sem]) rfl ?_
  exact ⟨rfl, rfl⟩

end Go.Proofs.Ytpndbgdimkpfjaa
