/-
  The reference's meet. Conditions: slices that read as good types of at most 10000 nodes, which agree.
-/
import Derived.Test.YtpndbgdimkpfjaaPvD
import Derived.Test.YtpndbgdimkpfjaaPvN
import Derived.Test.YtpndbgdimkpfjaaM7
import Derived.Deep.RegionHeld3
import Derived.Deep.CutRange
import Derived.RegionTactic
namespace Go.Proofs.Ytpndbgdimkpfjaa.L
open Go

def mmL : List (Nd × Fo) → List (Nd × Fo) → List Nd
  | a :: ts, b :: us => setName (meF (tree a) (tree b)).flat a.1.name ++ mmL ts us
  | _, _ => []

theorem me_trees : ∀ {f g : Fo}, agF f g = true → (meF f g).flat = mmL (trees f) (trees g)
  | .nil, .nil, _ => rfl
  | .nil, .cons _ _ _, h => by simp [agF] at h
  | .cons _ _ _, .nil, h => by simp [agF] at h
  | .cons x ks r, .cons y ls s, h => by
    simp [agF] at h
    have ih := me_trees h.2
    simp only [trees, mmL]
    rw [← ih, meF]
    simp only [tree, meF, bareN]
    by_cases hy : y.kind = 0
    · simp [hy, Fo.flat, setName]
    · by_cases hx : x.kind = 0
      · simp [hy, hx, Fo.flat, setName, h.1.1]
      · simp [hy, hx, Fo.flat, setName]

theorem mmL_step {ts us : List (Nd × Fo)} {i : Nat} (h : i < ts.length) (h2 : i < us.length) : mmL (ts.drop i) (us.drop i) = setName (meF (tree ts[i]) (tree us[i])).flat ts[i].1.name ++ mmL (ts.drop (i + 1)) (us.drop (i + 1)) := by
  rw [List.drop_eq_getElem_cons h, List.drop_eq_getElem_cons h2, mmL]

theorem allW_at {u : Int → Int → Bool} : ∀ {ts us : List (Nd × Fo)}, allW u ts us = true → ∀ (i : Nat) (h1 : i < ts.length) (h2 : i < us.length), wkF u (tree ts[i]) (tree us[i]) = true
  | [], _, _, i, h1, _ => by simp at h1
  | _ :: _, [], _, i, _, h2 => by simp at h2
  | a :: ts, b :: us, h, 0, _, _ => by simp [allW] at h; exact h.1
  | a :: ts, b :: us, h, i + 1, h1, h2 => by
    simp [allW] at h
    exact allW_at h.2 i (by simpa using h1) (by simpa using h2)

end Go.Proofs.Ytpndbgdimkpfjaa.L
namespace Go.Proofs.Ytpndbgdimkpfjaa
open Go.RowKit Go.Sort

theorem bareN_self {x : L.Nd} (h : L.bare x = true) : L.bareN x = x := by
  obtain ⟨k, s, n⟩ := x
  have := bare_e h
  simp only at this
  subst this
  rfl

theorem Own.rename {B g cap : Nat} {l : List L.Nd} {w : World} (h : Own B (.slice (some ⟨g, 0, none⟩) l.length cap) l w) (h0 : l ≠ []) (s : ByteArray) : Own B (.slice (some ⟨g, 0, none⟩) l.length cap) (L.setName l s) (w.setCell ⟨g, 1, none⟩ (.string s)) := by
  have := (World.ownsRow.stored h 1 (.string s)).1
  unfold Own
  rw [cellsN_setName h0, L.setName_length]
  exact this

set_option maxHeartbeats 4000000 in
set_option maxRecDepth 100000 in
theorem refmeet_any {n : Nat} (hn : n ≤ 5000) : ∀ (N : Nat) (F G : L.Fo), F.flat.length < N → Gd n F → Gd n G → L.agF F G = true → ∀ (va vb : Value) (w : World), Rd w w.heap.size va F.flat → Rd w w.heap.size vb G.flat →
    Calls Try.prog 38 #[va, vb] w fun e w' => ∃ v, e = .returned v ∧ Own w.heap.size v (L.meF F G).flat w' ∧ Below w.heap.size w w' := by
  intro N
  induction N with
  | zero => intro F G h; omega
  | succ N ih =>
    intro F G hN h g hag va vb w ha hb
    have IH := hid ih
    clear ih
    have TA := hid (h.ty (by omega))
    have TB := hid (g.ty (by omega))
    have hpa := fo_pos TA.out.ne
    have hpb := fo_pos TB.out.ne
    have hgd := h
    have ggd := g
    have HA := hid ha
    have HB := hid hb
    have hml := L.me_len F G
    obtain ⟨x, ks, rfl, bx⟩ := h.root
    obtain ⟨y, ls, rfl, by_⟩ := g.root
    have KA := hid (fun W (hW : Below w.heap.size w W) => refkids_any hgd (by omega) va W ((HA.out.below hW).mono hW.size))
    have KB := hid (fun W (hW : Below w.heap.size w W) => refkids_any ggd (by omega) vb W ((HB.out.below hW).mono hW.size))
    obtain ⟨A, cap, rfl, hl1, hl2, -, hcx⟩ := ha
    obtain ⟨A2, cap2, rfl, hm1, hm2, -, hcy⟩ := hb
    unfold maxLen at hl2 hm2
    have hln := TA.out.few.1
    have hmn := TB.out.few.1
    have hla := hgd.len
    have hlb := ggd.len
    obtain ⟨b, o, rfl, hb1, hcx⟩ := hcx (by intro e; rw [e] at hpa; simp at hpa)
    obtain ⟨b2, o2, rfl, hb2, hcy⟩ := hcy (by intro e; rw [e] at hpb; simp at hpb)
    have x0 := (hcx 0 hpa).1
    have x2 := (hcx 0 hpa).2.2
    have y0 := (hcy 0 hpb).1
    rw [Nat.zero_mul, Nat.add_zero, show (L.Fo.cons x ks .nil).flat[0] = x from rfl] at x0 x2
    rw [Nat.zero_mul, Nat.add_zero, show (L.Fo.cons y ls .nil).flat[0] = y from rfl] at y0
    obtain ⟨ts, hts⟩ : ∃ ts, ts = L.trees ks := ⟨_, rfl⟩
    obtain ⟨us, hus⟩ : ∃ us, us = L.trees ls := ⟨_, rfl⟩
    have htl : ts.length ≤ 50 := by rw [hts]; exact trees_50 hgd.ok
    have hul : us.length ≤ 50 := by rw [hus]; exact trees_50 ggd.ok
    have hMY : Hid (y.kind = 0 → (L.meF (.cons x ks .nil) (.cons y ls .nil)).flat = (L.Fo.cons x ks .nil).flat) := hid fun h => by rw [L.meF, if_pos h]; rfl
    have hMX : Hid (y.kind ≠ 0 → x.kind = 0 → (L.meF (.cons x ks .nil) (.cons y ls .nil)).flat = (L.Fo.cons y ls .nil).flat) := hid fun h h' => by rw [L.meF, if_neg h, if_pos h']; rfl
    have hkl : Hid (y.kind ≠ 0 → x.kind ≠ 0 → L.agF ks ls = true) := hid fun h h' => by
      simp [L.agF, h, h'] at hag
      exact hag.2.2
    have hMM : Hid (y.kind ≠ 0 → x.kind ≠ 0 → (L.meF (.cons x ks .nil) (.cons y ls .nil)).flat = ⟨x.kind, ⟨#[]⟩, x.n⟩ :: L.mmL ts us) := hid fun h h' => by
      rw [L.meF, if_neg h, if_neg h', L.Fo.flat, L.me_trees (hkl.out h h'), hts, hus]
      have := bareN_self bx
      rw [← this]
      simp [L.bareN, L.meF, L.Fo.flat]
    have hLEN : Hid (y.kind ≠ 0 → x.kind ≠ 0 → ts.length = us.length) := hid fun h h' => by
      rw [hts, hus, L.trees_length, L.trees_length]
      exact L.ag_count (hkl.out h h')
    have HKID : Hid (y.kind ≠ 0 → x.kind ≠ 0 → ∀ (i : Nat) (h1 : i < ts.length) (h2 : i < us.length) (va vb : Value) (W : World), Rd W W.heap.size va (L.tree ts[i]).flat → Rd W W.heap.size vb (L.tree us[i]).flat →
        Calls Try.prog 38 #[va, vb] W fun e w' => ∃ v, e = .returned v ∧ Own W.heap.size v (L.meF (L.tree ts[i]) (L.tree us[i])).flat w' ∧ Below W.heap.size W w') := hid fun h h' i h1 h2 va vb W ra rb => by
      have hk := hkl.out h h'
      subst hts hus
      have haw : L.agF (L.tree (L.trees ks)[i]) (L.tree (L.trees ls)[i]) = true := by
        rw [← L.wk_ag] at hk ⊢
        rw [L.wk_trees, Bool.and_eq_true] at hk
        exact L.allW_at hk.2 i h1 h2
      refine IH.out _ _ ?_ (hgd.kid (List.getElem_mem h1)) (ggd.kid (List.getElem_mem h2)) haw va vb W ra rb
      have := L.tree_len (List.getElem_mem h1)
      simp only [L.Fo.flat, List.length_cons, List.length_append, List.length_nil] at hN
      omega
    have HNE : Hid (∀ (i : Nat) (h1 : i < ts.length) (h2 : i < us.length), (L.meF (L.tree ts[i]) (L.tree us[i])).flat ≠ [] ∧ (L.meF (L.tree ts[i]) (L.tree us[i])).flat.length ≤ 20000) := hid fun i h1 h2 => by
      subst hts hus
      have k1 := hgd.kid (List.getElem_mem h1)
      have k2 := ggd.kid (List.getElem_mem h2)
      obtain ⟨z, zs, e, -⟩ := L.me_root k1.root k2.root
      have hl := L.me_len (L.tree (L.trees ks)[i]) (L.tree (L.trees ls)[i])
      have := k1.len
      have := k2.len
      exact ⟨by rw [e]; simp [L.Fo.flat], by omega⟩
    have HTS := hid hts.symm
    have HUS := hid hus.symm
    have hML : (L.meF (.cons x ks .nil) (.cons y ls .nil)).flat.length ≤ 20000 := by omega
    generalize hme : (L.meF (.cons x ks .nil) (.cons y ls .nil)).flat = M at *
    clear hts hus h g hgd ggd hcx hcy hN IH bx by_ hag hml hme hkl
    generalize (L.Fo.cons x ks .nil).flat = la at *
    generalize (L.Fo.cons y ls .nil).flat = lb at *
    by_cases hy : y.kind = 0
    · rw [hMY.out hy]
      rw [hy] at y0
      clear hMY hMX hMM hLEN HKID hy HNE
      have hO := hid (show Own w.heap.size (.slice (some ⟨w.heap.size, 0, none⟩) 0 0) [] (w.alloc (.cells #[] 39)) from World.ownsRow_lit w _ 0 (Nat.le_refl _) (by unfold maxLen; omega) rfl)
      have hR := hid ((HA.out.alloc (.cells #[] 39)).mono (show w.heap.size ≤ (w.alloc (.cells #[] 39)).heap.size by simp))
      go_enter Try.func38, Try.ntmps38
      go_wp2_with (at_builtin; refine wpList_app2 rfl _ _ rfl rfl w.heap.size _ _ [] la rfl hO.out rfl hR.out (by simp; omega) (by simp) ?_)
      intro v' w' ho hg
      have hB : Below w.heap.size w w' := (below_new _).grown hg (by simp) (fun k hk => by simp [Value.ownBlock] at hk; omega)
      have HO := hid ho
      have HB' := hid hB
      clear ho hg hB
      go_wp2
      go_ret
      exact ⟨v', rfl, by simpa using HO.out, HB'.out⟩
    · have ey : (y.kind == 0) = false := beq_eq_false_iff_ne.2 hy
      by_cases hx : x.kind = 0
      · rw [hMX.out hy hx]
        rw [hx] at x0
        generalize y.kind = yk at *
        clear hMY hMX hMM hLEN HKID hy HNE hx
        have hO := hid (show Own w.heap.size (.slice (some ⟨w.heap.size, 0, none⟩) 0 0) [] (w.alloc (.cells #[] 39)) from World.ownsRow_lit w _ 0 (Nat.le_refl _) (by unfold maxLen; omega) rfl)
        have hR := hid ((HB.out.alloc (.cells #[] 39)).mono (show w.heap.size ≤ (w.alloc (.cells #[] 39)).heap.size by simp))
        go_enter Try.func38, Try.ntmps38
        go_wp2_with (at_builtin; refine wpList_app2 rfl _ _ rfl rfl w.heap.size _ _ [] lb rfl hO.out rfl hR.out (by simp; omega) (by simp) ?_)
        intro v' w' ho hg
        have hB : Below w.heap.size w w' := (below_new _).grown hg (by simp) (fun k hk => by simp [Value.ownBlock] at hk; omega)
        have HO := hid ho
        have HB' := hid hB
        clear ho hg hB
        go_wp2
        go_ret
        exact ⟨v', rfl, by simpa using HO.out, HB'.out⟩
      · have ex : (x.kind == 0) = false := beq_eq_false_iff_ne.2 hx
        have HM : Hid (M = ⟨x.kind, ⟨#[]⟩, x.n⟩ :: L.mmL ts us) := hid (hMM.out hy hx)
        have hll2 := hid (hLEN.out hy hx)
        have HK2 := hid (HKID.out hy hx)
        generalize x.kind = xk at *
        generalize x.n = xn at *
        generalize y.kind = yk at *
        clear hMY hMX hMM hLEN HKID hy hx
        go_enter Try.func38, Try.ntmps38
        go_wp2_with fail
        refine (KA.out _ (Below.refl _ _)).mono ?_
        rintro e w2 ⟨hk2, h2⟩
        obtain ⟨At, ct, Al, cl, rfl, hkv, -⟩ := hk2.kv
        rw [HTS.out] at hkv ⊢
        have H2 := hid h2
        have KV2 := hid hkv
        clear hk2 h2 hkv
        go_wp2_with fail
        refine (KB.out _ H2.out).mono ?_
        rintro e w3 ⟨hk3, h3⟩
        obtain ⟨Bt, dt, Bl, dl, rfl, hkv, -⟩ := hk3.kv
        rw [HUS.out] at hkv ⊢
        have H3 := hid (H2.out.trans (h3.mono H2.out.size))
        have KV3 := hid hkv
        have KV2b := hid (KV2.out.below h3)
        have x0' := (H3.out.cell (p := ⟨b, o, none⟩) hb1).trans x0
        have x2' := (H3.out.cell (p := ⟨b, o + 2, none⟩) hb1).trans x2
        have hb3 := Nat.lt_of_lt_of_le hb1 H3.out.size
        clear hk3 h3 hkv KV2 x0 y0 x2
        have hlit : Hid (Own w3.heap.size (.slice (some ⟨w3.heap.size, 0, none⟩) 1 1) [⟨xk, ⟨#[]⟩, xn⟩] (w3.alloc (.cells #[.int .i64 xk, .string ⟨#[]⟩, .int .i64 xn] 39)).drew) := hid (Own.below (lit_own w3 w3.heap.size (Nat.le_refl _) xk xn ⟨#[]⟩) (below_drewN (Below.refl _ _) 1))
        have n1 : b ≠ w3.heap.size := by omega
        have n2 : b < w3.heap.size + 1 := by omega
        go_upto_region 7 with fail
        go_cut [9] from 38 to 73 (fun s9 wx => s9 = .slice (some ⟨w3.heap.size, 0, none⟩) 1 1 ∧ Own w3.heap.size (.slice (some ⟨w3.heap.size, 0, none⟩) 1 1) [⟨xk, ⟨#[]⟩, xn⟩] wx ∧ Below w3.heap.size w3 wx)
        case first =>
          go_wp2_with fail
          go_region
          all_goals go_wp2_with fail
          all_goals go_meet
          all_goals exact ⟨rfl, hlit.out, below_drewN (below_new _) 1⟩
        case rest =>
          obtain ⟨w4, hw⟩ : ∃ w4, w4 = wc := ⟨_, rfl⟩
          subst hw
          obtain ⟨rfl, hO4, hB4⟩ := hcut
          have HO4 := hid hO4
          have HB4 := hid hB4
          clear hO4 hB4 x0' x2' n1 n2 hlit
          go_wp2_with fail
          go_loopw [9, 10] (fun v9 vi wr => ∃ (i : Nat) (ol : List L.Nd), vi = .int .i64 i ∧ i ≤ ts.length ∧ Hid (Own w3.heap.size v9 ol wr) ∧ Below w3.heap.size w3 wr ∧ Hid (ol ++ L.mmL (ts.drop i) (us.drop i) = M)) (fun _ vi _ => ts.length - (intOf vi).toNat)
          case atStart => exact ⟨0, _, rfl, by omega, HO4, HB4.out, hid HM.out.symm⟩
          case round =>
            obtain ⟨i, ol, rfl, hi, hO, hB, hS⟩ := hrel
            obtain ⟨A9, c9, rfl, -⟩ := hO.out.rd
            have hbw := hB.size
            have hol : ol.length ≤ 20000 := by have := congrArg List.length hS.out; simp at this; omega
            by_cases hlt : i < ts.length
            · have hlu : i < us.length := by have := hll2.out; omega
              obtain ⟨g1, p1, rfl, hg1, hc1⟩ := KV2b.out.t (by intro e; rw [e] at hlt; simp at hlt)
              obtain ⟨g2, p2, rfl, hg2, hc2⟩ := KV3.out.t (by intro e; rw [e] at hlu; simp at hlu)
              obtain ⟨g3, p3, rfl, hg3, hc3⟩ := KV2b.out.l (by intro e; rw [e] at hlt; simp at hlt)
              obtain ⟨v1, c1, o1⟩ := hc1 i hlt
              obtain ⟨v2, c2, o2⟩ := hc2 i hlu
              have c3 := hc3 i hlt
              have hst : Hid (L.mmL (ts.drop i) (us.drop i) = L.setName (L.meF (L.tree ts[i]) (L.tree us[i])).flat ts[i].1.name ++ L.mmL (ts.drop (i + 1)) (us.drop (i + 1))) := hid (L.mmL_step hlt hlu)
              have hpl : (i : Int) < (ts.length : Int) := by omega
              have hplu : (i : Int) < (us.length : Int) := by omega
              have HC := HK2.out i hlt hlu
              obtain ⟨hne, hlm⟩ := HNE.out i hlt hlu
              clear hc1 hc2 hc3
              generalize ts[i].1.name = nm at *
              generalize L.tree ts[i] = T at *
              generalize L.tree us[i] = U at *
              generalize (L.meF T U).flat = mm at *
              obtain ⟨A1, e1, rfl, -⟩ := o1.rd
              obtain ⟨A5, e2, rfl, -⟩ := o2.rd
              have d1 := (hB.cell (p := ⟨g1, p1 + i, none⟩) hg1).trans c1
              have d2 := (hB.cell (p := ⟨g2, p2 + i, none⟩) hg2).trans c2
              have HS := hid (fun (W' : World) (h : Below wr.heap.size wr W') => (⟨(h.cell (p := ⟨g1, p1 + i, none⟩) (Nat.lt_of_lt_of_le hg1 hbw)).trans d1, (h.cell (p := ⟨g2, p2 + i, none⟩) (Nat.lt_of_lt_of_le hg2 hbw)).trans d2⟩ : W'.cell? ⟨g1, p1 + i, none⟩ = some (.slice A1 T.flat.length e1) ∧ W'.cell? ⟨g2, p2 + i, none⟩ = some (.slice A5 U.flat.length e2)))
              have HME := hid (fun (W' : World) (h : Below wr.heap.size wr W') => HC (.slice A1 T.flat.length e1) (.slice A5 U.flat.length e2) W' ((((o1.rd.low (B := w3.heap.size) hB).below h).mono (Nat.le_trans hbw h.size))) ((((o2.rd.low (B := w3.heap.size) hB).below h).mono (Nat.le_trans hbw h.size))))
              have HD0 := hid (below_drewN (Below.refl wr.heap.size wr) 1)
              have HHB := hid hB
              have HC3 := hid c3
              clear HC c1 c2 c3 o1 o2 d1 d2
              go_upto_region 11 with fail
              go_cut [11] from 48 to 72 (fun s11 wx => ∃ Am cm, s11 = .slice Am mm.length cm ∧ Own wr.heap.size (.slice Am mm.length cm) mm wx ∧ Below wr.heap.size wr wx)
              case first =>
                go_region_held3 (fun w' => w'.cell? ⟨g1, p1 + i, none⟩ = some (.slice A1 T.flat.length e1) ∧ w'.cell? ⟨g2, p2 + i, none⟩ = some (.slice A5 U.flat.length e2)) (first | exact HS.out _ HQ1.out | exact HS.out _ HD0.out | exact HS.out _ (Below.refl _ _)) (first
                  | (have hq := HD0.out; go_at_call 38; refine (HME.out _ hq).mono ?_; rintro e wq1 ⟨vX, rfl, oX, hq1⟩; have HQ1 := hid (HD0.out.trans (hq1.mono HD0.out.size)); have OX := hid (oX.more hq.size); clear hq hq1 HD0 oX))
                all_goals obtain ⟨Am, cm, rfl, -⟩ := OX.out.rd
                all_goals go_wp2_with fail
                all_goals go_meet
                all_goals exact ⟨_, _, rfl, OX.out, HQ1.out⟩
              case rest =>
                obtain ⟨w5, hw⟩ : ∃ w5, w5 = wc := ⟨_, rfl⟩
                subst hw
                obtain ⟨Am, cm, rfl, oM, hB5⟩ := hcut
                have hb5 := HHB.out.trans (hB5.mono hbw)
                have hO5 := hO.out.below hB5
                obtain ⟨gm, hgm⟩ : ∃ gm, Am = some ⟨gm, 0, none⟩ := by
                  rcases oM.2 with ⟨hv, h0⟩ | ⟨g, cp, cur, hv, -⟩
                  · exact absurd (List.eq_nil_of_length_eq_zero h0) hne
                  · injection hv with hv
                    exact ⟨g, hv⟩
                subst hgm
                have hmp : 0 < mm.length := List.length_pos_iff.2 hne
                have m1 := (World.ownsRow.cellAt oM 1 (by omega)).trans (show (cellsN mm)[1]? = some (.string (mm[0]'hmp).name) by have := (cellsN_get mm 0 hmp).2.1; simpa using this)
                have mf := World.ownsRow.frozenAt oM 1
                have hgl := Own.lt oM gm rfl
                have l5 := (hb5.cell (p := ⟨g3, p3 + i, none⟩) hg3).trans HC3.out
                have HRN := hid (Own.rename oM hne nm)
                have hB6 : Below wr.heap.size wr (w5.setCell ⟨gm, 1, none⟩ (.string nm)) := hB5.setCell (p := ⟨gm, 1, none⟩) hgl.1 _
                have hO6 := hO.out.below hB6
                have HO6 := hid hO6
                have hb6 := HHB.out.trans (hB6.mono hbw)
                have HB6 := hid hb6
                have hRD := hid HRN.out.rd
                have hnl : (L.setName mm nm).length ≤ 20000 := by rw [L.setName_length]; exact hlm
                have hsz6 : w3.heap.size ≤ (w5.setCell ⟨gm, 1, none⟩ (.string nm)).heap.size := HB6.out.size
                clear oM hO5 hb5 hO6 hb6 HS HME HD0
                go_wp2_with (at_builtin; refine wpList_app2 rfl _ _ rfl rfl w3.heap.size _ _ ol (L.setName mm nm) rfl HO6.out rfl hRD.out (by omega) hsz6 ?_)
                intro v' w6 ho hg
                have hB7 : Below w3.heap.size w3 w6 := HB6.out.grown hg hsz6 (fun k hk => (Own.lt HO6.out k hk).1)
                have HB7 := hid hB7
                have HS7 : Hid ((ol ++ L.setName mm nm) ++ L.mmL (ts.drop (i + 1)) (us.drop (i + 1)) = M) := hid (by rw [List.append_assoc, ← hst.out, hS.out])
                generalize ol ++ L.setName mm nm = ol2 at *
                obtain ⟨A8, c8, rfl, -⟩ := ho.rd
                have HO7 := hid ho
                clear ho hg hB7 m1 mf l5 hB6 hgl hmp hne hst HRN hRD HB6 HO6 hB5 hnl hsz6
                go_wp2
                go_roundw
                case rel => exact ⟨i + 1, _, by go_num, by omega, HO7, HB7.out, HS7⟩
                case measure => simp [intOf]; omega
            · have hpl : ¬ (i : Int) < (ts.length : Int) := by omega
              have HF : Hid (Own w.heap.size (.slice A9 ol.length c9) M wr) := hid (by
                have h := hS.out
                rw [List.drop_eq_nil_of_le (by omega), List.drop_eq_nil_of_le (by have := hll2.out; omega)] at h
                have h2 : ol = M := by simpa [L.mmL] using h
                rw [← h2]
                exact hO.out.more H3.out.size)
              have HFB := hid (H3.out.trans (hB.mono H3.out.size))
              go_wp2
              go_ret
              exact ⟨_, rfl, HF.out, HFB.out⟩

end Go.Proofs.Ytpndbgdimkpfjaa
