/-
  The reference's Agree and Below. Conditions: slices that read as good types of at most 10000 nodes.
-/
import Derived.Test.YtpndbgdimkpfjaaPvB
namespace Go.Proofs.Ytpndbgdimkpfjaa
open Go.RowKit Go.Sort

theorem hd_zero {n : Nat} {F : L.Fo} (h : Gd n F) : ∃ x ks, F = .cons x ks .nil ∧ L.bare x = true := h.root

set_option maxHeartbeats 4000000 in
set_option maxRecDepth 100000 in
theorem refagree_any {n : Nat} (hn : n ≤ 10000) : ∀ (N : Nat) (F G : L.Fo), F.flat.length < N → Gd n F → Gd n G → ∀ (va vb : Value) (w : World), Rd w w.heap.size va F.flat → Rd w w.heap.size vb G.flat →
    Calls Try.prog 16 #[va, vb] w fun e w' => e = .returned (.bool (L.wkF (fun _ _ => true) F G)) ∧ Below w.heap.size w w' := by
  intro N
  induction N with
  | zero => intro F G h; omega
  | succ N ih =>
    intro F G hN h g va vb w ha hb
    have IH := hid ih
    clear ih
    have TA := hid (h.ty hn)
    have TB := hid (g.ty hn)
    have hpa := fo_pos TA.out.ne
    have hpb := fo_pos TB.out.ne
    have hgd := h
    have ggd := g
    have HA := hid ha
    have HB := hid hb
    obtain ⟨x, ks, rfl, bx⟩ := h.root
    obtain ⟨y, ls, rfl, by_⟩ := g.root
    have KA := hid (fun W (hW : Below w.heap.size w W) => refkids_any hgd hn va W ((HA.out.below hW).mono hW.size))
    have KB := hid (fun W (hW : Below w.heap.size w W) => refkids_any ggd hn vb W ((HB.out.below hW).mono hW.size))
    have AL := hid (fun W (hW : Below w.heap.size w W) => alike_any hgd ggd hn va vb W ((HA.out.below hW).mono hW.size) ((HB.out.below hW).mono hW.size))
    obtain ⟨A, cap, rfl, hl1, hl2, -, hcx⟩ := ha
    obtain ⟨A2, cap2, rfl, hm1, hm2, -, hcy⟩ := hb
    unfold maxLen at hl2 hm2
    have hln := TA.out.few.1
    have hmn := TB.out.few.1
    obtain ⟨b, o, rfl, hb1, hcx⟩ := hcx (by intro e; rw [e] at hpa; simp at hpa)
    obtain ⟨b2, o2, rfl, hb2, hcy⟩ := hcy (by intro e; rw [e] at hpb; simp at hpb)
    have x0 := (hcx 0 hpa).1
    have y0 := (hcy 0 hpb).1
    rw [Nat.zero_mul, Nat.add_zero, show (L.Fo.cons x ks .nil).flat[0] = x from rfl] at x0
    rw [Nat.zero_mul, Nat.add_zero, show (L.Fo.cons y ls .nil).flat[0] = y from rfl] at y0
    obtain ⟨ts, hts⟩ : ∃ ts, ts = L.trees ks := ⟨_, rfl⟩
    obtain ⟨us, hus⟩ : ∃ us, us = L.trees ls := ⟨_, rfl⟩
    have htl : ts.length ≤ 50 := by rw [hts]; exact trees_50 hgd.ok
    have hul : us.length ≤ 50 := by rw [hus]; exact trees_50 ggd.ok
    have hW0 : Hid ((x.kind = 0 ∨ y.kind = 0) → L.wkF (fun _ _ => true) (.cons x ks .nil) (.cons y ls .nil) = (fun _ _ => true) x.kind y.kind) := hid fun h => by
      rw [L.wkF, bare_e bx, bare_e by_, if_pos h, L.wkF]
      simp
    have hW1 : Hid (x.kind ≠ 0 → y.kind ≠ 0 → L.wkF (fun _ _ => true) (.cons x ks .nil) (.cons y ls .nil) = (L.alikeF (.cons x ks .nil) (.cons y ls .nil) && L.allW (fun _ _ => true) ts us)) := hid fun h1 h2 => by rw [hts, hus]; exact wk_root bx by_ h1 h2
    have hAL : Hid (L.alikeF (.cons x ks .nil) (.cons y ls .nil) = true → ts.length = us.length) := hid fun h => by
      simp only [L.alikeF, Bool.and_eq_true, decide_eq_true_eq] at h
      rw [hts, hus]
      simpa [L.namesT] using congrArg List.length h.2
    have HKID : Hid (∀ (i : Nat) (h1 : i < ts.length) (h2 : i < us.length) (va vb : Value) (W : World), Rd W W.heap.size va (L.tree ts[i]).flat → Rd W W.heap.size vb (L.tree us[i]).flat →
        Calls Try.prog 16 #[va, vb] W fun e w' => e = .returned (.bool (L.wkF (fun _ _ => true) (L.tree ts[i]) (L.tree us[i]))) ∧ Below W.heap.size W w') := hid fun i h1 h2 va vb W ra rb => by
      subst hts hus
      refine IH.out _ _ ?_ (hgd.kid (List.getElem_mem h1)) (ggd.kid (List.getElem_mem h2)) va vb W ra rb
      have := L.tree_len (List.getElem_mem h1)
      simp only [L.Fo.flat, List.length_cons, List.length_append, List.length_nil] at hN
      omega
    have HTS := hid hts.symm
    have HUS := hid hus.symm
    clear hts hus
    generalize hwk : L.wkF (fun _ _ => true) (.cons x ks .nil) (.cons y ls .nil) = R at *
    generalize hlk : L.alikeF (.cons x ks .nil) (.cons y ls .nil) = K at *
    clear h g hgd ggd hcx hcy hN IH hwk hlk bx by_
    generalize (L.Fo.cons x ks .nil).flat = la at *
    generalize (L.Fo.cons y ls .nil).flat = lb at *
    by_cases hx : x.kind = 0
    · rw [hx] at x0
      have HR : Hid (R = true) := hid (by rw [hW0.out (by omega)])
      clear hW0 hW1
      go_enter Try.func16, Try.ntmps16
      go_wp2
      go_ret
      exact ⟨ret_bool HR.out.symm, Below.refl _ _⟩
    by_cases hy : y.kind = 0
    · rw [hy] at y0
      have ex : (x.kind == 0) = false := beq_eq_false_iff_ne.2 hx
      have HR : Hid (R = true) := hid (by rw [hW0.out (by omega)])
      clear hW0 hW1
      go_enter Try.func16, Try.ntmps16
      go_wp2
      go_ret
      exact ⟨ret_bool HR.out.symm, Below.refl _ _⟩
    have ex : (x.kind == 0) = false := beq_eq_false_iff_ne.2 hx
    have ey : (y.kind == 0) = false := beq_eq_false_iff_ne.2 hy
    have hR : Hid (R = (K && L.allW (fun _ _ => true) ts us)) := hid (hW1.out hx hy)
    cases K with
    | false =>
      have HR : Hid (R = false) := hid hR.out
      go_enter Try.func16, Try.ntmps16
      go_wp2_with fail
      refine (AL.out _ (Below.refl _ _)).mono ?_
      rintro e w1 ⟨rfl, h1⟩
      go_wp2
      go_ret
      exact ⟨ret_bool HR.out.symm, h1⟩
    | true =>
      have HR : Hid (R = L.allW (fun _ _ => true) ts us) := hid hR.out
      have hll2 : Hid (ts.length = us.length) := hid (hAL.out rfl)
      clear hR hAL
      go_enter Try.func16, Try.ntmps16
      go_wp2_with fail
      refine (AL.out _ (Below.refl _ _)).mono ?_
      rintro e w1 ⟨rfl, h1⟩
      have H1 := hid h1
      clear h1
      go_wp2_with fail
      refine (KA.out _ H1.out).mono ?_
      rintro e w2 ⟨hk2, h2⟩
      obtain ⟨At, ct, Al, cl, rfl, hkv, -⟩ := hk2.kv
      rw [HTS.out] at hkv ⊢
      have H2 := hid (H1.out.trans (h2.mono H1.out.size))
      have KV2 := hid hkv
      clear hk2 h2 hkv
      go_wp2_with fail
      refine (KB.out _ H2.out).mono ?_
      rintro e w3 ⟨hk3, h3⟩
      obtain ⟨Bt, dt, Bl, dl, rfl, hkv, -⟩ := hk3.kv
      rw [HUS.out] at hkv ⊢
      have H3 := hid (H2.out.trans (h3.mono H2.out.size))
      have KV3 := hid hkv
      have KV2b := hid (KV2.out.below h3)
      clear hk3 h3 hkv KV2 x0 y0
      go_wp2_with fail
      go_loopw [9] (fun vi wr => ∃ i : Nat, vi = .int .i64 i ∧ i ≤ ts.length ∧ Below w3.heap.size w3 wr ∧ Hid (L.allW (fun _ _ => true) (ts.drop i) (us.drop i) = L.allW (fun _ _ => true) ts us)) (fun vi _ => ts.length - (intOf vi).toNat)
      case atStart => exact ⟨0, rfl, by omega, Below.refl _ _, hid rfl⟩
      case round =>
        obtain ⟨i, rfl, hi, hB, hS⟩ := hrel
        by_cases hlt : i < ts.length
        · have hlu : i < us.length := by have := hll2.out; omega
          obtain ⟨g1, p1, rfl, hg1, hc1⟩ := (KV2b.out.below hB).t (by intro e; rw [e] at hlt; simp at hlt)
          obtain ⟨g2, p2, rfl, hg2, hc2⟩ := (KV3.out.below hB).t (by intro e; rw [e] at hlu; simp at hlu)
          obtain ⟨v1, c1, o1⟩ := hc1 i hlt
          obtain ⟨v2, c2, o2⟩ := hc2 i hlu
          have hst : Hid (L.allW (fun _ _ => true) (ts.drop i) (us.drop i) = (L.wkF (fun _ _ => true) (L.tree ts[i]) (L.tree us[i]) && L.allW (fun _ _ => true) (ts.drop (i + 1)) (us.drop (i + 1)))) := hid (L.allW_step hlt hlu)
          have hpl : (i : Int) < (ts.length : Int) := by omega
          have hplu : (i : Int) < (us.length : Int) := by omega
          have HC := HKID.out i hlt hlu
          clear hc1 hc2
          generalize L.tree ts[i] = T at *
          generalize L.tree us[i] = U at *
          obtain ⟨A1, e1, rfl, -⟩ := o1.rd
          obtain ⟨A5, e2, rfl, -⟩ := o2.rd
          have E1 := fun d os => HC (.slice A1 T.flat.length e1) (.slice A5 U.flat.length e2) (grow (redrawn wr d) os) ((o1.rd.below (below_regrown wr d os)).mono (below_regrown wr d os).size) ((o2.rd.below (below_regrown wr d os)).mono (below_regrown wr d os).size)
          have kc1 := cell_regrown c1
          have kc2 := cell_regrown c2
          cases hb : L.wkF (fun _ _ => true) T U with
          | false =>
            rw [hb] at E1
            have HRS : Hid (R = false) := hid (by rw [HR.out, ← hS.out, hst.out, hb]; rfl)
            have C1 := hid (fun d os => Calls.regrown_of (E1 d os))
            clear E1 HC hst hb c1 c2 o1 o2
            go_wp2
            refine wp_region_quiet_below (by kernel_rfl) (by kernel_rfl) ?_
            repeat (go_big_quiet_step (fail))
            go_big_quiet_step (exact C1.out _ _)
            repeat (go_big_quiet_step (fail))
            refine wpQuiet_nil ?_
            intro _ hw'
            obtain ⟨⟨nq, osq⟩, hw''⟩ := hw'
            subst hw''
            have HB5 := hid (below_regrown wr nq osq)
            go_wp2
            go_ret
            exact ⟨ret_bool HRS.out.symm, H3.out.trans ((hB.trans (HB5.out.mono hB.size)).mono H3.out.size)⟩
          | true =>
            rw [hb] at E1
            have HRS : Hid (L.allW (fun _ _ => true) (ts.drop (i + 1)) (us.drop (i + 1)) = L.allW (fun _ _ => true) ts us) := hid (by rw [← hS.out, hst.out, hb]; rfl)
            have C1 := hid (fun d os => Calls.regrown_of (E1 d os))
            clear E1 HC hst hb c1 c2 o1 o2
            go_wp2
            refine wp_region_quiet_below (by kernel_rfl) (by kernel_rfl) ?_
            repeat (go_big_quiet_step (fail))
            go_big_quiet_step (exact C1.out _ _)
            repeat (go_big_quiet_step (fail))
            refine wpQuiet_nil ?_
            intro _ hw'
            obtain ⟨⟨nq, osq⟩, hw''⟩ := hw'
            subst hw''
            have HB5 := hid (below_regrown wr nq osq)
            go_wp2
            go_roundw
            case rel => exact ⟨i + 1, by go_num, by omega, hB.trans (HB5.out.mono hB.size), HRS⟩
            case measure => simp [intOf]; omega
        · have hpl : ¬ (i : Int) < (ts.length : Int) := by omega
          have HRS : Hid (R = true) := hid (by rw [HR.out, ← hS.out, List.drop_eq_nil_of_le (by omega), List.drop_eq_nil_of_le (by have := hll2.out; omega)]; rfl)
          go_wp2
          go_ret
          exact ⟨ret_bool HRS.out.symm, H3.out.trans (hB.mono H3.out.size)⟩


set_option maxHeartbeats 4000000 in
set_option maxRecDepth 100000 in
theorem refbelow_any {n : Nat} (hn : n ≤ 10000) : ∀ (N : Nat) (F G : L.Fo), F.flat.length < N → Gd n F → Gd n G → ∀ (va vb : Value) (w : World), Rd w w.heap.size va F.flat → Rd w w.heap.size vb G.flat →
    Calls Try.prog 18 #[va, vb] w fun e w' => e = .returned (.bool (L.wkF (fun _ k => decide (k = 0)) F G)) ∧ Below w.heap.size w w' := by
  intro N
  induction N with
  | zero => intro F G h; omega
  | succ N ih =>
    intro F G hN h g va vb w ha hb
    have IH := hid ih
    clear ih
    have TA := hid (h.ty hn)
    have TB := hid (g.ty hn)
    have hpa := fo_pos TA.out.ne
    have hpb := fo_pos TB.out.ne
    have hgd := h
    have ggd := g
    have HA := hid ha
    have HB := hid hb
    obtain ⟨x, ks, rfl, bx⟩ := h.root
    obtain ⟨y, ls, rfl, by_⟩ := g.root
    have KA := hid (fun W (hW : Below w.heap.size w W) => refkids_any hgd hn va W ((HA.out.below hW).mono hW.size))
    have KB := hid (fun W (hW : Below w.heap.size w W) => refkids_any ggd hn vb W ((HB.out.below hW).mono hW.size))
    have AL := hid (fun W (hW : Below w.heap.size w W) => alike_any hgd ggd hn va vb W ((HA.out.below hW).mono hW.size) ((HB.out.below hW).mono hW.size))
    obtain ⟨A, cap, rfl, hl1, hl2, -, hcx⟩ := ha
    obtain ⟨A2, cap2, rfl, hm1, hm2, -, hcy⟩ := hb
    unfold maxLen at hl2 hm2
    have hln := TA.out.few.1
    have hmn := TB.out.few.1
    obtain ⟨b, o, rfl, hb1, hcx⟩ := hcx (by intro e; rw [e] at hpa; simp at hpa)
    obtain ⟨b2, o2, rfl, hb2, hcy⟩ := hcy (by intro e; rw [e] at hpb; simp at hpb)
    have x0 := (hcx 0 hpa).1
    have y0 := (hcy 0 hpb).1
    rw [Nat.zero_mul, Nat.add_zero, show (L.Fo.cons x ks .nil).flat[0] = x from rfl] at x0
    rw [Nat.zero_mul, Nat.add_zero, show (L.Fo.cons y ls .nil).flat[0] = y from rfl] at y0
    obtain ⟨ts, hts⟩ : ∃ ts, ts = L.trees ks := ⟨_, rfl⟩
    obtain ⟨us, hus⟩ : ∃ us, us = L.trees ls := ⟨_, rfl⟩
    have htl : ts.length ≤ 50 := by rw [hts]; exact trees_50 hgd.ok
    have hul : us.length ≤ 50 := by rw [hus]; exact trees_50 ggd.ok
    have hW0 : Hid ((x.kind = 0 ∨ y.kind = 0) → L.wkF (fun _ k => decide (k = 0)) (.cons x ks .nil) (.cons y ls .nil) = (fun _ k => decide (k = 0)) x.kind y.kind) := hid fun h => by
      rw [L.wkF, bare_e bx, bare_e by_, if_pos h, L.wkF]
      simp
    have hW1 : Hid (x.kind ≠ 0 → y.kind ≠ 0 → L.wkF (fun _ k => decide (k = 0)) (.cons x ks .nil) (.cons y ls .nil) = (L.alikeF (.cons x ks .nil) (.cons y ls .nil) && L.allW (fun _ k => decide (k = 0)) ts us)) := hid fun h1 h2 => by rw [hts, hus]; exact wk_root bx by_ h1 h2
    have hAL : Hid (L.alikeF (.cons x ks .nil) (.cons y ls .nil) = true → ts.length = us.length) := hid fun h => by
      simp only [L.alikeF, Bool.and_eq_true, decide_eq_true_eq] at h
      rw [hts, hus]
      simpa [L.namesT] using congrArg List.length h.2
    have HKID : Hid (∀ (i : Nat) (h1 : i < ts.length) (h2 : i < us.length) (va vb : Value) (W : World), Rd W W.heap.size va (L.tree ts[i]).flat → Rd W W.heap.size vb (L.tree us[i]).flat →
        Calls Try.prog 18 #[va, vb] W fun e w' => e = .returned (.bool (L.wkF (fun _ k => decide (k = 0)) (L.tree ts[i]) (L.tree us[i]))) ∧ Below W.heap.size W w') := hid fun i h1 h2 va vb W ra rb => by
      subst hts hus
      refine IH.out _ _ ?_ (hgd.kid (List.getElem_mem h1)) (ggd.kid (List.getElem_mem h2)) va vb W ra rb
      have := L.tree_len (List.getElem_mem h1)
      simp only [L.Fo.flat, List.length_cons, List.length_append, List.length_nil] at hN
      omega
    have HTS := hid hts.symm
    have HUS := hid hus.symm
    clear hts hus
    generalize hwk : L.wkF (fun _ k => decide (k = 0)) (.cons x ks .nil) (.cons y ls .nil) = R at *
    generalize hlk : L.alikeF (.cons x ks .nil) (.cons y ls .nil) = K at *
    clear h g hgd ggd hcx hcy hN IH hwk hlk bx by_
    generalize (L.Fo.cons x ks .nil).flat = la at *
    generalize (L.Fo.cons y ls .nil).flat = lb at *
    by_cases hy : y.kind = 0
    · rw [hy] at y0
      have HR : Hid (R = true) := hid (by rw [hW0.out (by omega)]; exact decide_eq_true hy)
      clear hW0 hW1
      go_enter Try.func18, Try.ntmps18
      go_wp2
      go_ret
      exact ⟨ret_bool HR.out.symm, Below.refl _ _⟩
    have ey : (y.kind == 0) = false := beq_eq_false_iff_ne.2 hy
    by_cases hx : x.kind = 0
    · rw [hx] at x0
      have HR : Hid (R = false) := hid (by rw [hW0.out (by omega)]; exact decide_eq_false hy)
      clear hW0 hW1
      go_enter Try.func18, Try.ntmps18
      go_wp2
      go_ret
      exact ⟨ret_bool HR.out.symm, Below.refl _ _⟩
    have ex : (x.kind == 0) = false := beq_eq_false_iff_ne.2 hx
    have hR : Hid (R = (K && L.allW (fun _ k => decide (k = 0)) ts us)) := hid (hW1.out hx hy)
    cases K with
    | false =>
      have HR : Hid (R = false) := hid hR.out
      go_enter Try.func18, Try.ntmps18
      go_wp2_with fail
      refine (AL.out _ (Below.refl _ _)).mono ?_
      rintro e w1 ⟨rfl, h1⟩
      go_wp2
      go_ret
      exact ⟨ret_bool HR.out.symm, h1⟩
    | true =>
      have HR : Hid (R = L.allW (fun _ k => decide (k = 0)) ts us) := hid hR.out
      have hll2 : Hid (ts.length = us.length) := hid (hAL.out rfl)
      clear hR hAL
      go_enter Try.func18, Try.ntmps18
      go_wp2_with fail
      refine (AL.out _ (Below.refl _ _)).mono ?_
      rintro e w1 ⟨rfl, h1⟩
      have H1 := hid h1
      clear h1
      go_wp2_with fail
      refine (KA.out _ H1.out).mono ?_
      rintro e w2 ⟨hk2, h2⟩
      obtain ⟨At, ct, Al, cl, rfl, hkv, -⟩ := hk2.kv
      rw [HTS.out] at hkv ⊢
      have H2 := hid (H1.out.trans (h2.mono H1.out.size))
      have KV2 := hid hkv
      clear hk2 h2 hkv
      go_wp2_with fail
      refine (KB.out _ H2.out).mono ?_
      rintro e w3 ⟨hk3, h3⟩
      obtain ⟨Bt, dt, Bl, dl, rfl, hkv, -⟩ := hk3.kv
      rw [HUS.out] at hkv ⊢
      have H3 := hid (H2.out.trans (h3.mono H2.out.size))
      have KV3 := hid hkv
      have KV2b := hid (KV2.out.below h3)
      clear hk3 h3 hkv KV2 x0 y0
      go_wp2_with fail
      go_loopw [9] (fun vi wr => ∃ i : Nat, vi = .int .i64 i ∧ i ≤ ts.length ∧ Below w3.heap.size w3 wr ∧ Hid (L.allW (fun _ k => decide (k = 0)) (ts.drop i) (us.drop i) = L.allW (fun _ k => decide (k = 0)) ts us)) (fun vi _ => ts.length - (intOf vi).toNat)
      case atStart => exact ⟨0, rfl, by omega, Below.refl _ _, hid rfl⟩
      case round =>
        obtain ⟨i, rfl, hi, hB, hS⟩ := hrel
        by_cases hlt : i < ts.length
        · have hlu : i < us.length := by have := hll2.out; omega
          obtain ⟨g1, p1, rfl, hg1, hc1⟩ := (KV2b.out.below hB).t (by intro e; rw [e] at hlt; simp at hlt)
          obtain ⟨g2, p2, rfl, hg2, hc2⟩ := (KV3.out.below hB).t (by intro e; rw [e] at hlu; simp at hlu)
          obtain ⟨v1, c1, o1⟩ := hc1 i hlt
          obtain ⟨v2, c2, o2⟩ := hc2 i hlu
          have hst : Hid (L.allW (fun _ k => decide (k = 0)) (ts.drop i) (us.drop i) = (L.wkF (fun _ k => decide (k = 0)) (L.tree ts[i]) (L.tree us[i]) && L.allW (fun _ k => decide (k = 0)) (ts.drop (i + 1)) (us.drop (i + 1)))) := hid (L.allW_step hlt hlu)
          have hpl : (i : Int) < (ts.length : Int) := by omega
          have hplu : (i : Int) < (us.length : Int) := by omega
          have HC := HKID.out i hlt hlu
          clear hc1 hc2
          generalize L.tree ts[i] = T at *
          generalize L.tree us[i] = U at *
          obtain ⟨A1, e1, rfl, -⟩ := o1.rd
          obtain ⟨A5, e2, rfl, -⟩ := o2.rd
          have E1 := fun d os => HC (.slice A1 T.flat.length e1) (.slice A5 U.flat.length e2) (grow (redrawn wr d) os) ((o1.rd.below (below_regrown wr d os)).mono (below_regrown wr d os).size) ((o2.rd.below (below_regrown wr d os)).mono (below_regrown wr d os).size)
          have kc1 := cell_regrown c1
          have kc2 := cell_regrown c2
          cases hb : L.wkF (fun _ k => decide (k = 0)) T U with
          | false =>
            rw [hb] at E1
            have HRS : Hid (R = false) := hid (by rw [HR.out, ← hS.out, hst.out, hb]; rfl)
            have C1 := hid (fun d os => Calls.regrown_of (E1 d os))
            clear E1 HC hst hb c1 c2 o1 o2
            go_wp2
            refine wp_region_quiet_below (by kernel_rfl) (by kernel_rfl) ?_
            repeat (go_big_quiet_step (fail))
            go_big_quiet_step (exact C1.out _ _)
            repeat (go_big_quiet_step (fail))
            refine wpQuiet_nil ?_
            intro _ hw'
            obtain ⟨⟨nq, osq⟩, hw''⟩ := hw'
            subst hw''
            have HB5 := hid (below_regrown wr nq osq)
            go_wp2
            go_ret
            exact ⟨ret_bool HRS.out.symm, H3.out.trans ((hB.trans (HB5.out.mono hB.size)).mono H3.out.size)⟩
          | true =>
            rw [hb] at E1
            have HRS : Hid (L.allW (fun _ k => decide (k = 0)) (ts.drop (i + 1)) (us.drop (i + 1)) = L.allW (fun _ k => decide (k = 0)) ts us) := hid (by rw [← hS.out, hst.out, hb]; rfl)
            have C1 := hid (fun d os => Calls.regrown_of (E1 d os))
            clear E1 HC hst hb c1 c2 o1 o2
            go_wp2
            refine wp_region_quiet_below (by kernel_rfl) (by kernel_rfl) ?_
            repeat (go_big_quiet_step (fail))
            go_big_quiet_step (exact C1.out _ _)
            repeat (go_big_quiet_step (fail))
            refine wpQuiet_nil ?_
            intro _ hw'
            obtain ⟨⟨nq, osq⟩, hw''⟩ := hw'
            subst hw''
            have HB5 := hid (below_regrown wr nq osq)
            go_wp2
            go_roundw
            case rel => exact ⟨i + 1, by go_num, by omega, hB.trans (HB5.out.mono hB.size), HRS⟩
            case measure => simp [intOf]; omega
        · have hpl : ¬ (i : Int) < (ts.length : Int) := by omega
          have HRS : Hid (R = true) := hid (by rw [HR.out, ← hS.out, List.drop_eq_nil_of_le (by omega), List.drop_eq_nil_of_le (by have := hll2.out; omega)]; rfl)
          go_wp2
          go_ret
          exact ⟨ret_bool HRS.out.symm, H3.out.trans (hB.mono H3.out.size)⟩


end Go.Proofs.Ytpndbgdimkpfjaa
