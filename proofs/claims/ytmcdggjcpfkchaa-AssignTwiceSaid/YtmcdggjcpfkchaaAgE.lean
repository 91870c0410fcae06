/-
  The walks of assign's Type and of the reference's Type. Conditions: at most 60 choices, whose sites rise, of 1 to 60 nodes; a type of at most 5000 nodes.
-/
import Derived.Test.YtmcdggjcpfkchaaAgD
namespace Go.Proofs.Ytmcdggjcpfkchaa.L
open Go
/-- What the first k choices put for a node. -/
def prt (cs : List Ch) (x : Nd) (k : Nat) : List Nd :=
  match (if x.kind = 0 then fnd (cs.take k) x.n else none) with
  | some u => u
  | none => []
theorem fnd_before {cs : List Ch} {b : Int} (h : Up b cs) {k : Nat} (hk : k < cs.length) : fnd (cs.take k) cs[k].site = none := by
  unfold fnd
  have : (cs.take k).find? (fun c => decide (c.site = cs[k].site)) = none := by
    rw [List.find?_eq_none]
    intro c hc
    obtain ⟨i, hi, rfl⟩ := List.mem_iff_getElem.1 hc
    have hi2 : i < k := by simp at hi; omega
    rw [List.getElem_take]
    have := h.2 i k (by omega) hk hi2
    simp only [decide_eq_true_eq]
    omega
  rw [this]; rfl
theorem prt_hit {cs : List Ch} {b : Int} (h : Up b cs) {k : Nat} (hk : k < cs.length) {x : Nd} (h0 : x.kind = 0) (e : x.n = cs[k].site) : prt cs x k = [] ∧ prt cs x (k + 1) = cs[k].t := by
  unfold prt
  rw [if_pos h0, if_pos h0, fnd_take h hk, if_pos e.symm, e, fnd_before h hk]
  exact ⟨rfl, rfl⟩
theorem prt_miss {cs : List Ch} {b : Int} (h : Up b cs) {k : Nat} (hk : k < cs.length) {x : Nd} (e : ¬ (x.kind = 0 ∧ x.n = cs[k].site)) : prt cs x (k + 1) = prt cs x k := by
  unfold prt
  by_cases h0 : x.kind = 0
  · rw [if_pos h0, if_pos h0, fnd_take h hk, if_neg (fun e2 => e ⟨h0, e2.symm⟩)]
  · rw [if_neg h0, if_neg h0]
theorem prt_zero (cs : List Ch) (x : Nd) : prt cs x 0 = [] := by
  unfold prt fnd
  split
  · rename_i u hu
    split at hu <;> simp at hu
  · rfl
theorem prt_len {cs : List Ch} (h : ∀ c ∈ cs, c.t.length ≤ 60) (x : Nd) (k : Nat) : (prt cs x k).length ≤ 60 := by
  unfold prt
  split
  · rename_i u hu
    split at hu
    · obtain ⟨c, hc, -, rfl⟩ := fnd_mem hu
      exact h c (List.mem_of_mem_take hc)
    · cases hu
  · simp
/-- What comes of it in the end. -/
theorem prt_end {cs : List Ch} (hne : ∀ c ∈ cs, c.t ≠ []) (x : Nd) : (prt cs x cs.length ≠ [] ∧ fillN cs x = setName (prt cs x cs.length) x.name) ∨ (prt cs x cs.length = [] ∧ fillN cs x = setName [x] x.name) := by
  unfold prt fillN
  rw [List.take_length]
  cases hu : (if x.kind = 0 then fnd cs x.n else none) with
  | none => right; exact ⟨rfl, rfl⟩
  | some u =>
    left
    refine ⟨?_, rfl⟩
    split at hu
    · obtain ⟨c, hc, -, rfl⟩ := fnd_mem hu
      exact hne c hc
    · cases hu
end Go.Proofs.Ytmcdggjcpfkchaa.L
namespace Go.Proofs.Ytmcdggjcpfkchaa
open Go.RowKit Go.Maps

theorem enter_fill (args : Array Value) (W : World) : (callFunc 49 args).run Try.prog W = .ok (.enter 49 args) W := by kernel_rfl

/-- What is asked of choices. -/
structure Asg (cs : List L.Ch) : Prop where
  up : L.Up 0 cs
  ne : ∀ c ∈ cs, c.t ≠ []
  l60 : ∀ c ∈ cs, c.t.length ≤ 60
  n60 : cs.length ≤ 60
  wf : ∀ c ∈ cs, c.site ≤ 9223372036854775807

set_option maxHeartbeats 4000000 in
set_option maxRecDepth 100000 in
theorem type_any (cs : List L.Ch) (ha : Asg cs) (t : List L.Nd) (ht : t.length ≤ 5000) (hwf : Wf t) (v vl : Value) (w : World) (hx : Rd w w.heap.size v t) (hl : RdC w w.heap.size vl cs) :
    Calls Try.prog 15 #[v, vl] w (FillPost cs t w) := by
  have HX := hid hx
  have HA := hid ha
  have HWF := hid hwf
  have H1 := hid (filler_any cs ha.up ha.ne ha.n60 ha.wf vl w hl)
  obtain ⟨A, cap, rfl, -⟩ := hx
  obtain ⟨A2, cap2, rfl, -⟩ := hl
  have hent := enter_fill
  clear ha hwf
  go_enter Try.func15, Try.ntmps15
  go_wp2_with fail
  refine (H1.out).mono ?_
  rintro e w1 ⟨bp, rfl, h1, hF, hb⟩
  have HB := hid hb
  have H2 := hid (fill1_any cs HA.out.up HA.out.ne HA.out.l60 t ht HWF.out _ bp w1 ((HX.out.below hb).mono hb.size) hF)
  clear hF hb H1
  go_wp2_with fail
  refine (H2.out).mono ?_
  rintro e w2 ⟨v', rfl, hO, hb⟩
  have HO := hid (show Own w.heap.size v' (L.fillL cs t) w2 from row_more hO HB.out.size)
  have HB2 := hid (HB.out.trans (hb.mono HB.out.size))
  clear hO hb H2
  go_wp2_with fail
  go_ret
  exact ⟨v', rfl, HO.out, HB2.out⟩

set_option maxHeartbeats 8000000 in
set_option maxRecDepth 100000 in
theorem refType_any (cs : List L.Ch) (ha : Asg cs) (t : List L.Nd) (ht : t.length ≤ 5000) (v vl : Value) (w : World) (hx : Rd w w.heap.size v t) (hl : RdC w w.heap.size vl cs) :
    Calls Try.prog 16 #[v, vl] w (FillPost cs t w) := by
  obtain ⟨i0, hi0, hz0, hz1, hz2⟩ := info_parts infoNode
  have HX := hid hx
  have HA := hid ha
  have HL := hid hl
  have hcn := ha.n60
  obtain ⟨A, cap, rfl, h1, h2, h3, hcx⟩ := hx
  unfold maxLen at h2
  have HCX := hid hcx
  obtain ⟨A2, cap2, rfl, g1, g2, -⟩ := hl
  unfold maxLen at g2
  have HO0 := hid (show Own w.heap.size (.slice (some ⟨w.heap.size, 0, none⟩) 0 0) [] (w.alloc (.cells #[] 29)) from World.ownsRow_lit w #[] 0 (Nat.le_refl _) (by decide) rfl)
  have HB0 := hid (below_new (w := w) (.cells #[] 29))
  clear hcx h3 ha
  go_enter Try.func16, Try.ntmps16
  go_wp2_with fail
  go_loopw [5, 6] (fun vo vi wr => ∃ (k m c : Nat) (G : Option Addr), vo = .slice G m c ∧ vi = .int .i64 k ∧ k ≤ t.length ∧ m = (L.fillL cs (t.take k)).length ∧ Hid (Own w.heap.size (.slice G m c) (L.fillL cs (t.take k)) wr) ∧ Below w.heap.size w wr) (fun _ vi _ => t.length - (intOf vi).toNat)
  case atStart => exact ⟨0, 0, 0, _, rfl, rfl, by omega, by simp [L.fillL], HO0, HB0.out⟩
  case round =>
    clear HO0 HB0
    obtain ⟨k, m, c, G, rfl, rfl, hk, rfl, hO, hbel⟩ := hrel
    obtain ⟨wo, hwo⟩ : ∃ wo : World, wo = wr := ⟨_, rfl⟩
    subst hwo
    have hsz := hbel.size
    by_cases hlt : k < t.length
    · have hkz : (k : Int) < (t.length : Int) := by omega
      obtain ⟨b, o, rfl, hb, hcx⟩ := HCX.out (by rintro rfl; simp at hlt)
      have hcx := hcx k hlt
      have hfl := L.fillL_take cs hlt
      have hlen := L.fillL_len HA.out.l60 (t.take k)
      rw [List.length_take] at hlen
      generalize t[k] = X at *
      have hP60 := fun q => L.prt_len HA.out.l60 X q
      have hend := L.prt_end HA.out.ne X
      have hhit := fun (q : Nat) (hq : q < cs.length) => L.prt_hit HA.out.up hq (x := X)
      have hmiss := fun (q : Nat) (hq : q < cs.length) => L.prt_miss HA.out.up hq (x := X)
      have hzero := L.prt_zero cs X
      obtain ⟨xk, xs, xn⟩ := X
      simp only at hcx hend hhit hmiss
      have HC := hid (fun (V : World) (hV : Below w.heap.size w V) => And.intro ((hV.cell (p := ⟨b, o + k * 3, none⟩) hb).trans hcx.1) (And.intro ((hV.cell (p := ⟨b, o + k * 3 + 1, none⟩) hb).trans hcx.2.1) ((hV.cell (p := ⟨b, o + k * 3 + 2, none⟩) hb).trans hcx.2.2)))
      obtain ⟨F, hFe⟩ : ∃ F, L.fillL cs (t.take k) = F := ⟨_, rfl⟩
      rw [hFe] at hfl hlen hO ⊢
      have HO := hid (show Own w.heap.size (.slice G F.length c) (F ++ L.prt cs ⟨xk, xs, xn⟩ 0) wo from by rw [hzero, List.append_nil]; exact hO.out)
      have HFL := hid hfl
      have HEND := hid hend
      have HHIT := hid hhit
      have HMISS := hid hmiss
      have HP60 := hid hP60
      have hm5 : F.length ≤ 300000 := by omega
      have HB := hid hbel
      have hz0l : F.length = (F ++ L.prt cs ⟨xk, xs, xn⟩ 0).length := by rw [hzero, List.append_nil]
      have HZ := hid hz0l
      clear hcx hFe hfl hO hbel hend hhit hmiss hP60 hz0l hzero
      go_wp2_with fail
      go_loopw [5, 8] (fun vo vj wi => ∃ (q m c : Nat) (G : Option Addr), vo = .slice G m c ∧ vj = .int .i64 q ∧ q ≤ cs.length ∧ m = (F ++ L.prt cs ⟨xk, xs, xn⟩ q).length ∧ Hid (Own w.heap.size (.slice G m c) (F ++ L.prt cs ⟨xk, xs, xn⟩ q) wi) ∧ Below w.heap.size w wi) (fun _ vj _ => cs.length - (intOf vj).toNat)
      case atStart => exact ⟨0, F.length, c, G, rfl, rfl, by omega, HZ.out, HO, HB.out⟩
      case round =>
        clear HO HB HZ
        obtain ⟨q, m, c, G, rfl, rfl, hq, rfl, hO, hbel⟩ := hrel
        obtain ⟨wj, hwj⟩ : ∃ wj : World, wj = wr := ⟨_, rfl⟩
        subst hwj
        have hszj := hbel.size
        have hp60 := HP60.out q
        have HP := hid hO.out
        have HB := hid hbel
        have hcell := HC.out wj hbel
        obtain ⟨x0, x1, x2⟩ := hcell
        clear hO
        by_cases hql : q < cs.length
        · have hqz : (q : Int) < (cs.length : Int) := by omega
          obtain ⟨b2, o2, c2, At, ct, hv, hbb, z0, z1, hr⟩ := HL.out.at_ hbel hql
          simp only [Value.slice.injEq, true_and] at hv
          obtain ⟨rfl, rfl⟩ := hv
          have hh := HHIT.out q hql
          have hmi := HMISS.out q hql
          have h60 := HA.out.l60 cs[q] (List.getElem_mem hql)
          obtain ⟨s, hs⟩ : ∃ s, cs[q].site = s := ⟨_, rfl⟩
          obtain ⟨u, hu⟩ : ∃ u, cs[q].t = u := ⟨_, rfl⟩
          rw [hs] at z0 hh hmi
          rw [hu] at z1 hh hr h60
          have HR := hid hr
          have HZ1 := hid (fun (V : World) (hV : Below wj.heap.size wj V) => (hV.cell (p := ⟨b2, o2 + q * 2 + 1, none⟩) (show b2 < wj.heap.size by omega)).trans z1)
          obtain ⟨nu, hnu⟩ : ∃ nu, u.length = nu := ⟨_, rfl⟩
          rw [hnu] at z1 HZ1 HR
          have HNU := hid hnu
          obtain ⟨PT, hPT⟩ : ∃ PT, F ++ L.prt cs ⟨xk, xs, xn⟩ q = PT := ⟨_, rfl⟩
          have hpl : PT.length ≤ 300060 := by rw [← hPT, List.length_append]; omega
          have HPT := hid hPT
          rw [hPT] at HP ⊢
          clear hs hu hr hnu hPT hbel
          by_cases hit : xk = 0 ∧ xn = s
          · obtain ⟨rfl, rfl⟩ := hit
            obtain ⟨hh1, hh2⟩ := hh rfl rfl
            have HS := hid (show PT ++ u = F ++ L.prt cs ⟨0, xs, xn⟩ (q + 1) from by rw [hh2, ← HPT.out, hh1, List.append_nil])
            clear hh hh1 hh2 hmi
            go_wp2_with fail
            go_quiet (fail)
            obtain ⟨wq, hwq⟩ : ∃ wq, wj.drewN nq = wq := ⟨_, rfl⟩
            have hbq : Below wj.heap.size wj wq := hwq ▸ drew_b _ _ _
            have HPq := hid (show Own w.heap.size (.slice G PT.length c) PT wq from HP.out.below hbq)
            have HRq := hid (HR.out.low (hbq.mono hszj))
            have HBq := hid (HB.out.trans (hbq.mono hszj))
            have z2 := HZ1.out wq hbq
            have hszq := HBq.out.size
            rw [hwq]
            clear hwq hbq x0 x1 x2 z0 z1 HP HB HR
            rw [← HNU.out] at HRq z2
            go_wp2_with (
              at_builtin
              refine wpList_app2 rfl _ _ rfl rfl w.heap.size _ _ PT u rfl HPq.out rfl (HRq.out.mono hszq) (by omega) hszq ?_
              intro v' w2 hown2 hgrow2
              have HB2 := hid (HBq.out.grown hgrow2 hszq (fun q hq => (HPq.out.lt q hq).1))
              obtain ⟨A3, c3, hv3, -⟩ := hown2.rd
              subst hv3
              have HO2 := hid hown2
              clear hown2 hgrow2)
            go_roundw
            case rel => exact ⟨q + 1, _, c3, A3, rfl, by go_num, by omega, by rw [← HS.out, List.length_append], hid (by rw [← HS.out, ← List.length_append]; exact HO2.out), HB2.out⟩
            case measure => simp [intOf]; omega
          · have HS := hid (show PT = F ++ L.prt cs ⟨xk, xs, xn⟩ (q + 1) from by rw [hmi hit, HPT.out])
            have hcase : ((xk == 0) = false) ∨ ((xk == 0) = true ∧ (xn == s) = false) := by
              by_cases h0 : xk = 0
              · right; exact ⟨by simpa using h0, by simpa using fun e => hit ⟨h0, e⟩⟩
              · left; simpa using h0
            clear hh hmi hit
            rcases hcase with e0 | ⟨e0, e1⟩
            · go_wp2_with fail
              go_quiet (fail)
              obtain ⟨wq, hwq⟩ : ∃ wq, wj.drewN nq = wq := ⟨_, rfl⟩
              have hbq : Below wj.heap.size wj wq := hwq ▸ drew_b _ _ _
              have HPq := hid (show Own w.heap.size (.slice G PT.length c) PT wq from HP.out.below hbq)
              have HBq := hid (HB.out.trans (hbq.mono hszj))
              rw [hwq]
              clear hwq hbq x0 x1 x2 z0 z1 HP HB HR
              go_wp2_with fail
              go_roundw
              case rel => exact ⟨q + 1, _, c, G, rfl, by go_num, by omega, by rw [← HS.out], hid (by rw [← HS.out]; exact HPq.out), HBq.out⟩
              case measure => simp [intOf]; omega
            · go_wp2_with fail
              go_quiet (fail)
              obtain ⟨wq, hwq⟩ : ∃ wq, wj.drewN nq = wq := ⟨_, rfl⟩
              have hbq : Below wj.heap.size wj wq := hwq ▸ drew_b _ _ _
              have HPq := hid (show Own w.heap.size (.slice G PT.length c) PT wq from HP.out.below hbq)
              have HBq := hid (HB.out.trans (hbq.mono hszj))
              rw [hwq]
              clear hwq hbq x0 x1 x2 z0 z1 HP HB HR
              go_wp2_with fail
              go_roundw
              case rel => exact ⟨q + 1, _, c, G, rfl, by go_num, by omega, by rw [← HS.out], hid (by rw [← HS.out]; exact HPq.out), HBq.out⟩
              case measure => simp [intOf]; omega
        · have hqz : ¬ (q : Int) < (cs.length : Int) := by omega
          have e : q = cs.length := by omega
          subst e
          rcases HEND.out with ⟨he1, he2⟩ | ⟨he1, he2⟩
          · obtain ⟨T, hT⟩ : ∃ T, L.prt cs ⟨xk, xs, xn⟩ cs.length = T := ⟨_, rfl⟩
            rw [hT] at HP he1 he2 hp60 ⊢
            obtain ⟨g, cap3, hv3, hg1, hg2, ⟨u0, hcell⟩, hfz, hown3⟩ := own_named HP.out he1 xs
            simp only [Value.slice.injEq] at hv3
            obtain ⟨rfl, -, rfl⟩ := hv3
            have hTl : 0 < T.length := List.length_pos_iff.2 he1
            have hne2 : ((F.length : Int) == ((F ++ T).length : Int)) = false := by rw [List.length_append]; simp; omega
            have hfz2 : F.length < (F ++ T).length := by rw [List.length_append]; omega
            have hfz3 : (F.length : Int) < ((F ++ T).length : Int) := by omega
            have HS := hid (show F ++ L.setName T xs = L.fillL cs (t.take (k + 1)) from by rw [HFL.out, he2])
            have HB3 := hid (HB.out.setCell (p := ⟨g, F.length * 3 + 1, none⟩) hg1 (.string xs))
            have HO3 := hid hown3
            have hll : (F ++ T).length = (F ++ L.setName T xs).length := by rw [List.length_append, List.length_append, L.setName_length]
            have HLL := hid hll
            obtain ⟨nF, hnF⟩ : ∃ nF, (F ++ T).length = nF := ⟨_, rfl⟩
            rw [hnF] at hne2 hfz2 hfz3 HO3 HLL ⊢
            clear he1 he2 hT hbel HP HB hown3 hll hnF
            go_wp2_with fail
            go_roundw
            case rel => exact ⟨k + 1, _, c, some ⟨g, 0, none⟩, rfl, by go_num, by omega, by rw [← HS.out, HLL.out], hid (by rw [← HS.out]; exact HO3.out), HB3.out⟩
            case measure => simp [intOf]; omega
          · rw [he1, List.append_nil] at HP ⊢
            have HS := hid (show F ++ L.setName [⟨xk, xs, xn⟩] xs = L.fillL cs (t.take (k + 1)) from by rw [HFL.out, he2])
            have hee : ((F.length : Int) == (F.length : Int)) = true := by simp
            have HN1 := hid (nd_one xk xn xs)
            clear he1 he2 hbel
            go_wp2_with (
              at_builtin
              refine wpList_append_own_at _ rfl _ _ 25 rfl w.heap.size 29 i0 (.agg #[.int .i64 0, .string ⟨#[]⟩, .int .i64 0]) 3 32 Try.underlying25 hi0 hz0 hz1 hz2 rfl (by decide) _ _ _ rfl (HP.out.alloc _) ⟨wj.heap.size, 0, none⟩ 1 1 [.int .i64 xk, .string xs, .int .i64 xn] rfl rfl (cells_new3 _ _ _ _ _) HN1.out (by unfold maxLen; omega) (by omega) (by simp; omega) ?_
              intro v' w2 hown2 hgrow2 hnil2 hloc2
              have HB2 := hid ((HB.out.alloc hszj (.cells #[.int .i64 xk, .string xs, .int .i64 xn] 29)).grown hgrow2 (by simp; omega) (fun q hq => (HP.out.lt q hq).1))
              obtain ⟨g, cap3, rfl, hg1, hg2, ⟨u0, hcell⟩, hfz, hown3⟩ := own_named (Own.append (l := F) (r := [⟨xk, xs, xn⟩]) hown2) (by simp) xs
              obtain ⟨y0, y1, y2⟩ := HC.out w2 HB2.out
              have HB3 := hid (HB2.out.setCell (p := ⟨g, F.length * 3 + 1, none⟩) hg1 (.string xs))
              have HO3 := hid hown3
              have hfz3 : (F.length : Int) < (F.length : Int) + 1 := by omega
              clear hown2 hgrow2 hnil2 hloc2 hown3 x0 x1 x2)
            go_roundw
            case rel => exact ⟨k + 1, _, cap3, some ⟨g, 0, none⟩, rfl, by go_num, by omega, by rw [← HS.out, List.length_append]; rfl, hid (by rw [← HS.out]; exact HO3.out), HB3.out⟩
            case measure => simp [intOf]; omega
    · have hkz : ¬ (k : Int) < (t.length : Int) := by omega
      have e : k = t.length := by omega
      subst e
      have HO := hid hO.out
      rw [List.take_length] at HO ⊢
      have HB := hid hbel
      clear hO hbel
      go_wp2_with fail
      go_ret
      exact ⟨_, rfl, HO.out, HB.out⟩

end Go.Proofs.Ytmcdggjcpfkchaa
