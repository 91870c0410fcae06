/-
  The reference's alike, Agree and Below. Conditions: slices that read as good types of at most 10000 nodes.
-/
import Derived.Test.YtpndbgdimkpfjaaPvH
namespace Go.Proofs.Ytpndbgdimkpfjaa.L
open Go

def namesT (ts : List (Nd × Fo)) : List ByteArray := ts.map (·.1.name)
/-- Tree by tree. -/
def allW (u : Int → Int → Bool) : List (Nd × Fo) → List (Nd × Fo) → Bool
  | [], [] => true
  | a :: ts, b :: us => wkF u (tree a) (tree b) && allW u ts us
  | _, _ => false

theorem wk_trees (u : Int → Int → Bool) : ∀ f g : Fo, wkF u f g = (decide (namesT (trees f) = namesT (trees g)) && allW u (trees f) (trees g))
  | .nil, .nil => rfl
  | .nil, .cons _ _ _ => by simp [wkF, trees, allW]
  | .cons _ _ _, .nil => by simp [wkF, trees, allW]
  | .cons x ks r, .cons y ls s => by
    rw [wkF, wk_trees u r s]
    simp only [trees, namesT, List.map_cons, List.cons.injEq, allW, tree, wkF, bareN, Bool.and_true]
    by_cases hn : x.name = y.name
    · simp only [hn, true_and, decide_true, Bool.true_and]
      rw [← Bool.and_assoc, ← Bool.and_assoc]
      congr 1
      exact Bool.and_comm _ _
    · simp [hn]

theorem allW_step {u : Int → Int → Bool} {ts us : List (Nd × Fo)} {i : Nat} (h : i < ts.length) (h2 : i < us.length) : allW u (ts.drop i) (us.drop i) = (wkF u (tree ts[i]) (tree us[i]) && allW u (ts.drop (i + 1)) (us.drop (i + 1))) := by
  rw [List.drop_eq_getElem_cons h, List.drop_eq_getElem_cons h2, allW]

theorem names_step {ts us : List (Nd × Fo)} {i : Nat} (h : i < ts.length) (h2 : i < us.length) : decide (namesT (ts.drop i) = namesT (us.drop i)) = (decide (ts[i].1.name = us[i].1.name) && decide (namesT (ts.drop (i + 1)) = namesT (us.drop (i + 1)))) := by
  rw [Bool.eq_iff_iff, List.drop_eq_getElem_cons h, List.drop_eq_getElem_cons h2]
  simp only [namesT, List.map_cons, List.cons.injEq, Bool.and_eq_true]
  constructor
  · intro h
    have h := of_decide_eq_true h
    exact ⟨decide_eq_true h.1, decide_eq_true h.2⟩
  · intro h
    exact decide_eq_true ⟨of_decide_eq_true h.1, of_decide_eq_true h.2⟩

/-- Of the same kind, with the same labels. -/
def alikeF : Fo → Fo → Bool
  | .cons x ks _, .cons y ls _ => decide (x.kind = y.kind) && decide (namesT (trees ks) = namesT (trees ls))
  | _, _ => false

end Go.Proofs.Ytpndbgdimkpfjaa.L
namespace Go.Proofs.Ytpndbgdimkpfjaa
open Go.RowKit Go.Sort

/-- Two types neither of which is a ?: what the walk answers. -/
theorem wk_root {u : Int → Int → Bool} {x y : L.Nd} {ks ls : L.Fo} (hx : L.bare x = true) (hy : L.bare y = true) (h0 : x.kind ≠ 0) (h1 : y.kind ≠ 0) :
    L.wkF u (.cons x ks .nil) (.cons y ls .nil) = (L.alikeF (.cons x ks .nil) (.cons y ls .nil) && L.allW u (L.trees ks) (L.trees ls)) := by
  rw [L.wkF, bare_e hx, bare_e hy, if_neg (by omega), L.wk_trees u ks ls, L.alikeF, L.wkF]
  simp [Bool.and_assoc]

set_option maxHeartbeats 2000000 in
set_option maxRecDepth 100000 in
theorem alike_any {n : Nat} {F G : L.Fo} (h : Gd n F) (g : Gd n G) (hn : n ≤ 10000) (va vb : Value) (w : World) (ha : Rd w w.heap.size va F.flat) (hb : Rd w w.heap.size vb G.flat) :
    Calls Try.prog 40 #[va, vb] w fun e w' => e = .returned (.bool (L.alikeF F G)) ∧ Below w.heap.size w w' := by
  have TA := hid (h.ty hn)
  have TB := hid (g.ty hn)
  have hpa := fo_pos TA.out.ne
  have hpb := fo_pos TB.out.ne
  have hgd := h
  have ggd := g
  have HA := hid ha
  have HB := hid hb
  obtain ⟨x, ks, rfl, -⟩ := h.root
  obtain ⟨y, ls, rfl, -⟩ := g.root
  have KA := hid (fun W (hW : Below w.heap.size w W) => refkids_any hgd hn va W ((HA.out.below hW).mono hW.size))
  have KB := hid (fun W (hW : Below w.heap.size w W) => refkids_any ggd hn vb W ((HB.out.below hW).mono hW.size))
  obtain ⟨A, cap, rfl, hl1, hl2, -, hcx⟩ := ha
  obtain ⟨A2, cap2, rfl, hm1, hm2, -, hcy⟩ := hb
  unfold maxLen at hl2 hm2
  have hln := TA.out.few.1
  have hmn := TB.out.few.1
  obtain ⟨b, o, rfl, hb1, hcx⟩ := hcx (by intro e; rw [e] at hpa; simp at hpa)
  obtain ⟨b2, o2, rfl, hb2, hcy⟩ := hcy (by intro e; rw [e] at hpb; simp at hpb)
  have x0 := (hcx 0 hpa).1
  have y0 := (hcy 0 hpb).1
  rw [Nat.zero_mul, Nat.add_zero, show (L.Fo.cons x ks .nil).flat[0] = x from rfl] at x0
  rw [Nat.zero_mul, Nat.add_zero, show (L.Fo.cons y ls .nil).flat[0] = y from rfl] at y0
  have htl : (L.trees ks).length ≤ 50 := trees_50 hgd.ok
  have hul : (L.trees ls).length ≤ 50 := trees_50 ggd.ok
  have HAL : Hid (L.alikeF (.cons x ks .nil) (.cons y ls .nil) = (decide (x.kind = y.kind) && decide (L.namesT (L.trees ks) = L.namesT (L.trees ls)))) := hid rfl
  rw [HAL.out]
  clear h g hgd ggd hcx hcy HAL
  generalize (L.Fo.cons x ks .nil).flat = la at *
  generalize (L.Fo.cons y ls .nil).flat = lb at *
  by_cases hk : x.kind = y.kind
  · rw [hk] at x0 ⊢
    generalize y.kind = yk at *
    clear hk
    rw [decide_eq_true (rfl : yk = yk), Bool.true_and]
    obtain ⟨ts, hts⟩ : ∃ ts, L.trees ks = ts := ⟨_, rfl⟩
    obtain ⟨us, hus⟩ : ∃ us, L.trees ls = us := ⟨_, rfl⟩
    rw [hts, hus]
    rw [hts] at htl
    rw [hus] at hul
    have HTS := hid hts
    have HUS := hid hus
    clear hts hus
    go_enter Try.func40, Try.ntmps40
    go_wp2
    go_quiet (fail)
    go_wp2_with fail
    refine (KA.out _ (below_drewN (Below.refl _ _) _)).mono ?_
    rintro e w2 ⟨hk2, h2⟩
    obtain ⟨At, ct, Al, cl, rfl, hkv, -⟩ := hk2.kv
    rw [HTS.out] at hkv ⊢
    have H2 := hid ((below_drewN (Below.refl w.heap.size w) _).trans h2)
    have KV2 := hid hkv
    clear hk2 h2 hkv
    go_wp2_with fail
    refine (KB.out _ H2.out).mono ?_
    rintro e w3 ⟨hk3, h3⟩
    obtain ⟨Bt, dt, Bl, dl, rfl, hkv, -⟩ := hk3.kv
    rw [HUS.out] at hkv ⊢
    have H3 := hid (H2.out.trans (h3.mono H2.out.size))
    have KV3 := hid hkv
    have KV2b := hid (KV2.out.below h3)
    clear hk3 h3 hkv KV2 x0 y0
    by_cases hll : ts.length = us.length
    · have ell : ((ts.length : Int) != (us.length : Int)) = false := by rw [hll]; simp
      have hll2 : Hid (ts.length = us.length) := hid hll
      clear hll
      go_wp2_with fail
      go_loopw [9] (fun vi wr => ∃ i : Nat, vi = .int .i64 i ∧ i ≤ ts.length ∧ Below w3.heap.size w3 wr ∧ Hid (decide (L.namesT (ts.drop i) = L.namesT (us.drop i)) = decide (L.namesT ts = L.namesT us))) (fun vi _ => ts.length - (intOf vi).toNat)
      case atStart => exact ⟨0, rfl, by omega, Below.refl _ _, hid rfl⟩
      case round =>
        obtain ⟨i, rfl, hi, hB, hS⟩ := hrel
        by_cases hlt : i < ts.length
        · have hlu : i < us.length := by have := hll2.out; omega
          obtain ⟨g1, p1, rfl, hg1, hc1⟩ := KV2b.out.l (by intro e; rw [e] at hlt; simp at hlt)
          obtain ⟨g2, p2, rfl, hg2, hc2⟩ := KV3.out.l (by intro e; rw [e] at hlu; simp at hlu)
          have c1 := (hB.cell (p := ⟨g1, p1 + i, none⟩) hg1).trans (hc1 i hlt)
          have c2 := (hB.cell (p := ⟨g2, p2 + i, none⟩) hg2).trans (hc2 i hlu)
          have hst : Hid (decide (L.namesT (ts.drop i) = L.namesT (us.drop i)) = (decide (ts[i].1.name = us[i].1.name) && decide (L.namesT (ts.drop (i + 1)) = L.namesT (us.drop (i + 1))))) := hid (L.names_step hlt hlu)
          have hpl : (i : Int) < (ts.length : Int) := by omega
          clear hc1 hc2
          generalize ts[i] = T at *
          generalize us[i] = U at *
          obtain ⟨⟨tk, ts1, tn⟩, k1⟩ := T
          obtain ⟨⟨uk, us1, un⟩, k2⟩ := U
          simp only at c1 c2 hst
          have he := eqS ts1 us1
          by_cases hnm : ts1 = us1
          · have HRS : Hid (decide (L.namesT (ts.drop (i + 1)) = L.namesT (us.drop (i + 1))) = decide (L.namesT ts = L.namesT us)) := hid (by rw [← hS.out, hst.out, hnm]; simp)
            have e1 : (ts1.toList == us1.toList) = true := by rw [he]; simp [hnm]
            clear he hnm hst
            go_wp2
            go_quiet (fail)
            go_wp2
            go_roundw
            case rel => exact ⟨i + 1, by go_num, by omega, below_drewN hB _, HRS⟩
            case measure => simp [intOf]; omega
          · have HRS : Hid (decide (L.namesT ts = L.namesT us) = false) := hid (by rw [← hS.out, hst.out, decide_eq_false hnm]; rfl)
            have e1 : (ts1.toList == us1.toList) = false := by rw [he]; simp [hnm]
            clear he hnm hst
            go_wp2
            go_quiet (fail)
            go_wp2
            go_ret
            exact ⟨ret_bool HRS.out.symm, H3.out.trans (below_drewN (hB.mono H3.out.size) _)⟩
        · have hpl : ¬ (i : Int) < (ts.length : Int) := by omega
          have HRS : Hid (decide (L.namesT ts = L.namesT us) = true) := hid (by rw [← hS.out, List.drop_eq_nil_of_le (by omega), List.drop_eq_nil_of_le (by have := hll2.out; omega)]; rfl)
          go_wp2
          go_ret
          exact ⟨ret_bool HRS.out.symm, H3.out.trans (hB.mono H3.out.size)⟩
    · have ell : ((ts.length : Int) != (us.length : Int)) = true := by simp; omega
      have HRS : Hid (decide (L.namesT ts = L.namesT us) = false) := hid (decide_eq_false (by intro e; have := congrArg List.length e; simp [L.namesT] at this; exact hll this))
      clear hll
      go_wp2
      go_ret
      exact ⟨ret_bool HRS.out.symm, H3.out⟩
  · have ek : (x.kind == y.kind) = false := beq_eq_false_iff_ne.2 hk
    rw [decide_eq_false hk, Bool.false_and]
    generalize x.kind = xk at *
    generalize y.kind = yk at *
    clear hk
    go_enter Try.func40, Try.ntmps40
    go_wp2
    go_quiet (fail)
    go_wp2
    go_ret
    exact ⟨rfl, below_drewN (Below.refl _ _) _⟩

end Go.Proofs.Ytpndbgdimkpfjaa
