/-
  The walk of two types side by side, whatever happens at a ?. Conditions: slices that read as rows of trees.
-/
import Derived.Test.YtpndbgdimkpfjaaPvM
import Derived.Test.YtpndbgdimkpfjaaM1
import Derived.Test.YtpndbgdimkpfjaaM2
import Derived.RegionTactic
import Derived.Deep.CutRange
namespace Go.Proofs.Ytpndbgdimkpfjaa.L
open Go
/-- What the walk answers, by what happens at a ?. -/
def wkF (u : Int → Int → Bool) : Fo → Fo → Bool
  | .nil, .nil => true
  | .cons x ks r, .cons y ls s => decide (x.name = y.name) && (if x.kind = 0 ∨ y.kind = 0 then u x.kind y.kind else decide (x.kind = y.kind) && wkF u ks ls) && wkF u r s
  | _, _ => false

theorem wk_count {u : Int → Int → Bool} : ∀ {f g : Fo}, wkF u f g = true → f.count = g.count
  | .nil, .nil, _ => rfl
  | .nil, .cons _ _ _, h => by simp [wkF] at h
  | .cons _ _ _, .nil, h => by simp [wkF] at h
  | .cons x ks r, .cons y ls s, h => by
    simp [wkF] at h
    simp [Fo.count, wk_count h.2]

theorem wk_app {u : Int → Int → Bool} : ∀ {f g : Fo} (a b : Fo), f.count = g.count → wkF u (f.app a) (g.app b) = (wkF u f g && wkF u a b)
  | .nil, .nil, a, b, _ => by simp [Fo.app, wkF]
  | .nil, .cons _ _ _, _, _, h => by simp [Fo.count] at h
  | .cons _ _ _, .nil, _, _, h => by simp [Fo.count] at h
  | .cons x ks r, .cons y ls s, a, b, h => by
    simp only [Fo.count, Nat.add_right_cancel_iff] at h
    simp only [Fo.app, wkF, wk_app a b h, Bool.and_assoc]

theorem wk_ag : ∀ f g : Fo, wkF (fun _ _ => true) f g = agF f g
  | .nil, .nil => rfl
  | .nil, .cons _ _ _ => rfl
  | .cons _ _ _, .nil => rfl
  | .cons x ks r, .cons y ls s => by
    simp only [wkF, agF, wk_ag ks ls, wk_ag r s]
    by_cases hx : x.kind = 0 <;> by_cases hy : y.kind = 0 <;> simp [hx, hy]

theorem wk_be : ∀ f g : Fo, wkF (fun _ k => decide (k = 0)) f g = beF f g
  | .nil, .nil => rfl
  | .nil, .cons _ _ _ => rfl
  | .cons _ _ _, .nil => rfl
  | .cons x ks r, .cons y ls s => by
    simp only [wkF, beF, wk_be ks ls, wk_be r s]
    by_cases hy : y.kind = 0
    · simp [hy]
    · by_cases hx : x.kind = 0
      · simp [hx, hy, Ne.symm hy]
      · simp [hx, hy]

/-- Two nodes that are not a ?, of one label: the walk goes on just if they are the same. -/
theorem wk_same {u : Int → Int → Bool} {x y : Nd} {ks r ls s : Fo} (h1 : (Fo.cons x ks r).ok = true) (h2 : (Fo.cons y ls s).ok = true) (p1 : (Fo.cons x ks r).plain = true) (p2 : (Fo.cons y ls s).plain = true)
    (hx : x.kind ≠ 0) (hy : y.kind ≠ 0) : (x = y → ks.count = ls.count ∧ wkF u (.cons x ks r) (.cons y ls s) = wkF u (ks.app r) (ls.app s)) ∧ (x ≠ y → wkF u (.cons x ks r) (.cons y ls s) = false) := by
  obtain ⟨a1, a2, -, a4, a5⟩ := ok_cons.1 h1
  obtain ⟨b1, b2, -, b4, b5⟩ := ok_cons.1 h2
  obtain ⟨c1, c2, c3⟩ := plain_cons.1 p1
  obtain ⟨d1, d2, d3⟩ := plain_cons.1 p2
  constructor
  · rintro rfl
    have hc : ks.count = ls.count := by omega
    refine ⟨hc, ?_⟩
    rw [wk_app r s hc, wkF]
    simp [hx]
  · intro hne
    cases hw : wkF u (.cons x ks r) (.cons y ls s) with
    | false => rfl
    | true =>
      exfalso
      simp [wkF, hx, hy] at hw
      obtain ⟨⟨n1, k1, k2⟩, -⟩ := hw
      have hn := n_of a1 c1 a2 b1 d1 b2 k1 hx (wk_count k2)
      apply hne
      obtain ⟨xk, xs, xn⟩ := x
      obtain ⟨yk, ys, yn⟩ := y
      simp_all

theorem drop_flat {l : List Nd} {i : Nat} {x : Nd} {ks r : Fo} (h : l.drop i = (Fo.cons x ks r).flat) : ∃ hi : i < l.length, l[i] = x ∧ l.drop (i + 1) = (ks.app r).flat ∧ l.drop (i + ks.flat.length + 1) = r.flat := by
  have hi : i < l.length := by
    have := congrArg List.length h
    simp [Fo.flat] at this
    omega
  rw [List.drop_eq_getElem_cons hi, Fo.flat] at h
  injection h with h1 h2
  refine ⟨hi, h1, by rw [h2, app_flat], ?_⟩
  rw [show i + ks.flat.length + 1 = (i + 1) + ks.flat.length by omega, ← List.drop_drop, h2]
  simp

theorem eat_at {l : List Nd} {i : Nat} {x : Nd} {ks r : Fo} (h : l.drop i = (Fo.cons x ks r).flat) (hok : (Fo.cons x ks r).ok = true) : eat 1 (l.drop i) = ks.flat.length + 1 := by
  rw [h, Fo.flat]
  refine eat_tree ?_ _
  rw [ok_cons] at hok ⊢
  exact ⟨hok.1, hok.2.1, hok.2.2.1, hok.2.2.2.1, rfl⟩
end Go.Proofs.Ytpndbgdimkpfjaa.L
namespace Go.Proofs.Ytpndbgdimkpfjaa
open Go.RowKit Go.Sort

theorem isUnknown_any (k n : Int) (s : ByteArray) (w : World) : Calls Try.prog 35 #[.agg #[.int .i64 k, .string s, .int .i64 n]] w fun e w' => e = .returned (.bool (L.dynN ⟨k, s, n⟩)) ∧ Below w.heap.size w w' := by
  go_enter Try.func35, Try.ntmps35
  go_wp2
  go_ret
  refine ⟨ret_bool ?_, below_new _⟩
  rw [Bool.eq_iff_iff]
  simp [L.dynN]

/-- Where the walk stands: rows of trees are left of both. -/
def At (la lb : List L.Nd) (F G : L.Fo) (i j : Nat) : Prop :=
  i ≤ la.length ∧ j ≤ lb.length ∧ la.drop i = F.flat ∧ lb.drop j = G.flat ∧ F.ok = true ∧ G.ok = true ∧ F.plain = true ∧ G.plain = true ∧ (0 < i ∨ F ≠ .nil)

theorem At.skip {la lb : List L.Nd} {x y : L.Nd} {ks r ls s : L.Fo} {i j : Nat} (h : At la lb (.cons x ks r) (.cons y ls s) i j) : At la lb r s (i + ks.flat.length + 1) (j + ls.flat.length + 1) := by
  obtain ⟨h1, h2, h3, h4, h5, h6, h7, h8, -⟩ := h
  obtain ⟨i1, -, -, i2⟩ := L.drop_flat h3
  obtain ⟨j1, -, -, j2⟩ := L.drop_flat h4
  have e1 := congrArg List.length h3
  have e2 := congrArg List.length h4
  simp [L.Fo.flat] at e1 e2
  exact ⟨by omega, by omega, i2, j2, (L.ok_cons.1 h5).2.2.2.2, (L.ok_cons.1 h6).2.2.2.2, (L.plain_cons.1 h7).2.2, (L.plain_cons.1 h8).2.2, Or.inl (by omega)⟩

theorem At.into {la lb : List L.Nd} {x y : L.Nd} {ks r ls s : L.Fo} {i j : Nat} (h : At la lb (.cons x ks r) (.cons y ls s) i j) : At la lb (ks.app r) (ls.app s) (i + 1) (j + 1) := by
  obtain ⟨h1, h2, h3, h4, h5, h6, h7, h8, -⟩ := h
  obtain ⟨i1, -, i2, -⟩ := L.drop_flat h3
  obtain ⟨j1, -, j2, -⟩ := L.drop_flat h4
  have k5 := L.ok_cons.1 h5
  have k6 := L.ok_cons.1 h6
  have k7 := L.plain_cons.1 h7
  have k8 := L.plain_cons.1 h8
  exact ⟨by omega, by omega, i2, j2, by rw [L.app_ok, k5.2.2.2.1, k5.2.2.2.2]; rfl, by rw [L.app_ok, k6.2.2.2.1, k6.2.2.2.2]; rfl, by rw [L.app_plain, k7.2.1, k7.2.2]; rfl, by rw [L.app_plain, k8.2.1, k8.2.2]; rfl, Or.inl (by omega)⟩

theorem two_new (w : World) (o1 o2 : Obj) : ((w.alloc o1).alloc o2).drew.heap[w.heap.size]? = some o1 ∧ ((w.alloc o1).alloc o2).drew.heap[w.heap.size + 1]? = some o2 := by
  constructor
  · exact (heap_alloc_old _ _ (by simp)).trans (heap_alloc_new _ _)
  · have := heap_alloc_new (w.alloc o1) o2
    rwa [show (w.alloc o1).heap.size = w.heap.size + 1 by simp] at this

theorem unk_yes (n : Int) (s : ByteArray) (w : World) : Calls Try.prog 35 #[.agg #[.int .i64 0, .string s, .int .i64 n]] w fun e w' => e = .returned (.bool true) ∧ Below w.heap.size w w' := isUnknown_any 0 n s w
theorem unk_no {k : Int} (h : k ≠ 0) (n : Int) (s : ByteArray) (w : World) : Calls Try.prog 35 #[.agg #[.int .i64 k, .string s, .int .i64 n]] w fun e w' => e = .returned (.bool false) ∧ Below w.heap.size w w' := by
  have := isUnknown_any k n s w
  rw [show L.dynN ⟨k, s, n⟩ = false by simp [L.dynN, h]] at this
  exact this

theorem enter_ag (args : Array Value) (W : World) : (callFunc 39 args).run Try.prog W = .ok (.enter 39 args) W := by kernel_rfl

set_option maxHeartbeats 4000000 in
set_option maxRecDepth 100000 in
theorem visit_any (la lb : List L.Nd) (hfa : Few la) (hfb : Few lb) (hna : ∀ x ∈ la, x.name.size ≤ 2000000) (va vb : Value) (g : Nat) (cs : Array Value) (hent : ∀ (args : Array Value) (W : World), (callFunc g args).run Try.prog W = .ok (.enter g args) W) (u : Int → Int → Bool) (F0 G0 : L.Fo) (hF0 : At la lb F0 G0 0 0) (w : World) (hra : Rd w w.heap.size va la) (hrb : Rd w w.heap.size vb lb) (Z : World → Prop) (K : L.Fo → L.Fo → Nat → Nat → World → Prop)
    (hZ : ∀ F G i j W, K F G i j W → Z W)
    (hrd : ∀ F G i j W, K F G i j W → W.heap[w.heap.size]? = some (.cells #[va, vb, .func (.func g) #[] cs] 53 (0, 0)) ∧ Rd W W.heap.size va la ∧ Rd W W.heap.size vb lb)
    (hbl : ∀ F G i j W W', K F G i j W → Below W.heap.size W W' → K F G i j W')
    (h0 : K F0 G0 0 0 (w.alloc (.cells #[va, vb, .func (.func g) #[] cs] 53)))
    (hst : ∀ x ks r ls s i j W, K (.cons x ks r) (.cons x ls s) i j W → At la lb (.cons x ks r) (.cons x ls s) i j → x.kind ≠ 0 → ks.count = ls.count → K (ks.app r) (ls.app s) (i + 1) (j + 1) W)
    (hca : ∀ x ks r y ls s i j W, K (.cons x ks r) (.cons y ls s) i j W → At la lb (.cons x ks r) (.cons y ls s) i j → x.name = y.name → (x.kind = 0 ∨ y.kind = 0) →
      Calls Try.prog g (#[.int .i64 (i : Int), .int .i64 (j : Int)] ++ cs) W fun e W' => e = .returned (.bool (u x.kind y.kind)) ∧ Z W' ∧ (u x.kind y.kind = true → K r s (i + ks.flat.length + 1) (j + ls.flat.length + 1) W')) :
    Calls Try.prog 37 #[.agg #[va, vb, .func (.func g) #[] cs]] w fun e w' => e = .returned (.bool (L.wkF u F0 G0)) ∧ Z w' ∧ (L.wkF u F0 G0 = true → K .nil .nil la.length lb.length w') := by
  have HFA := hid hfa
  have HFB := hid hfb
  have HZ := hid hZ
  have HRD := hid hrd
  have HBL := hid hbl
  have H0 := hid h0
  have HST := hid hst
  have HCA := hid hca
  have HNA := hid hna
  have HF0 := hid hF0
  obtain ⟨A, cap, rfl, hl1, hl2, _, -⟩ := hra
  obtain ⟨A2, cap2, rfl, hm1, hm2, _, -⟩ := hrb
  unfold maxLen at hl2 hm2
  obtain ⟨hln, -⟩ := hfa
  obtain ⟨hmn, -⟩ := hfb
  clear hZ hrd hbl h0 hst hca hna hF0
  go_enter Try.func37, Try.ntmps37
  go_wp2_with fail
  go_loopw [3, 4] (fun v3 v4 wr => ∃ (i j : Nat) (F G : L.Fo), v3 = .int .i64 i ∧ v4 = .int .i64 j ∧ Hid (At la lb F G i j) ∧ Hid (K F G i j wr) ∧ Hid (L.wkF u F G = L.wkF u F0 G0)) (fun v3 _ _ => la.length - (intOf v3).toNat)
  case atStart => exact ⟨0, 0, F0, G0, rfl, rfl, HF0, H0, hid rfl⟩
  case round =>
    obtain ⟨i, j, F, G, rfl, rfl, hA, hK, hW⟩ := hrel
    obtain ⟨hP, hra, hrb⟩ := HRD.out _ _ _ _ _ hK.out
    have HRA := hid hra
    have HRB := hid hrb
    have cP0 : wr.cell? ⟨w.heap.size, 0, none⟩ = some (.slice A la.length cap) := Lib.cell_of_heap hP 0
    have cP1 : wr.cell? ⟨w.heap.size, 1, none⟩ = some (.slice A2 lb.length cap2) := Lib.cell_of_heap hP 1
    have cP2 : wr.cell? ⟨w.heap.size, 2, none⟩ = some (.func (.func g) #[] cs) := Lib.cell_of_heap hP 2
    have hi := hA.out.1
    have hj := hA.out.2.1
    have HQ := hid (fun n => HBL.out _ _ _ _ _ (wr.drewN n) hK.out (below_drewN (Below.refl _ _) n))
    have HPS := hid hP
    clear hra hrb hP
    cases F with
    | nil =>
      have hil : i = la.length := by
        have := congrArg List.length hA.out.2.2.1
        simp [L.Fo.flat] at this
        omega
      have h0i : 0 < i := hA.out.2.2.2.2.2.2.2.2.elim id (fun h => absurd rfl h)
      have hlt : ¬ (i : Int) < (la.length : Int) := by omega
      have e1 : ((i : Int) == (la.length : Int)) = true := by simp; omega
      cases G with
      | nil =>
        have hjl : j = lb.length := by
          have := congrArg List.length hA.out.2.2.2.1
          simp [L.Fo.flat] at this
          omega
        have e2 : ((j : Int) == (lb.length : Int)) = true := by simp; omega
        have HIL := hid hil
        have HJL := hid hjl
        clear hil hjl
        go_wp2
        go_ret
        refine ⟨ret_bool (by rw [← hW.out]; rfl), HZ.out _ _ _ _ _ hK.out, fun _ => ?_⟩
        rw [← HIL.out, ← HJL.out]
        exact hK.out
      | cons y ls s =>
        obtain ⟨hjl, -⟩ := L.drop_flat hA.out.2.2.2.1
        have e2 : ((j : Int) == (lb.length : Int)) = false := by simp; omega
        clear hil
        have HWF : Hid (L.wkF u F0 G0 = false) := hid (by rw [← hW.out]; rfl)
        go_wp2
        go_ret
        exact ⟨ret_bool (by rw [HWF.out]), HZ.out _ _ _ _ _ hK.out, fun h => by rw [HWF.out] at h; cases h⟩
    | cons x ks r =>
      obtain ⟨hil, hix, hi1, hi2⟩ := L.drop_flat hA.out.2.2.1
      have hlt : (i : Int) < (la.length : Int) := by omega
      cases G with
      | nil =>
        have hjl : j = lb.length := by
          have := congrArg List.length hA.out.2.2.2.1
          simp [L.Fo.flat] at this
          omega
        have e1 : ((i : Int) == (la.length : Int)) = false := by simp; omega
        have hlj : ¬ (j : Int) < (lb.length : Int) := by omega
        have HWF : Hid (L.wkF u F0 G0 = false) := hid (by rw [← hW.out]; rfl)
        clear hjl hix hi1 hi2
        by_cases h0i : i = 0
        · have e0 : ¬ 0 < (i : Int) := by omega
          clear h0i
          go_wp2
          go_ret
          exact ⟨ret_bool (by rw [HWF.out]), HZ.out _ _ _ _ _ hK.out, fun h => by rw [HWF.out] at h; cases h⟩
        · have e0 : 0 < (i : Int) := by omega
          clear h0i
          go_wp2
          go_ret
          exact ⟨ret_bool (by rw [HWF.out]), HZ.out _ _ _ _ _ hK.out, fun h => by rw [HWF.out] at h; cases h⟩
      | cons y ls s =>
        obtain ⟨hjl, hjy, hj1, hj2⟩ := L.drop_flat hA.out.2.2.2.1
        have hlj : (j : Int) < (lb.length : Int) := by omega
        have HIX := hid hix
        have HJY := hid hjy
        have HI1 := hid hi1
        have HI2 := hid hi2
        have HJ1 := hid hj1
        have HJ2 := hid hj2
        obtain ⟨A0, c0, hv, -, -, -, hcx⟩ := HRA.out
        obtain ⟨b1, o1, hA1, hb1, hcx⟩ := hcx (by rintro rfl; simp at hil)
        obtain ⟨x0, x1, x2⟩ := hcx i hil
        obtain ⟨A3, c3, hv3, -, -, -, hcy⟩ := HRB.out
        obtain ⟨b2, o2, hA3, hb2, hcy⟩ := hcy (by rintro rfl; simp at hjl)
        obtain ⟨y0, y1, y2⟩ := hcy j hjl
        clear hcx hcy
        simp only [Value.slice.injEq] at hv hv3
        obtain ⟨rfl, -, -⟩ := hv
        obtain ⟨rfl, -, -⟩ := hv3
        subst hA1 hA3
        rw [hix] at x0 x1 x2
        rw [hjy] at y0 y1 y2
        clear hix hjy hi1 hi2 hj1 hj2
        obtain ⟨xk, xs, xn⟩ := x
        obtain ⟨yk, ys, yn⟩ := y
        simp only at x0 x1 x2 y0 y1 y2
        have hs := heap_lt HPS.out
        have n1 : w.heap.size ≠ wr.heap.size := by omega
        have n2 : w.heap.size ≠ wr.heap.size + 1 := by omega
        have n3 : b1 ≠ wr.heap.size := by omega
        have n4 : b1 ≠ wr.heap.size + 1 := by omega
        have n5 : b2 ≠ wr.heap.size := by omega
        have n6 : b2 ≠ wr.heap.size + 1 := by omega
        have l1 : w.heap.size < wr.heap.size + 1 := by omega
        have l2 : b1 < wr.heap.size + 1 := by omega
        have l3 : b2 < wr.heap.size + 1 := by omega
        go_upto_region 3 with fail
        go_cut [5, 6] from 7 to 60 (fun s5 s6 wx => ∃ bx bz : Nat, s5 = .pointer (some ⟨bx, 0, none⟩) ∧ s6 = .pointer (some ⟨bz, 0, none⟩) ∧ wx.heap[bx]? = some (.cells #[.int .i64 xk, .string xs, .int .i64 xn] 39 (0, 0)) ∧ wx.heap[bz]? = some (.cells #[.int .i64 yk, .string ys, .int .i64 yn] 39 (0, 0)) ∧ Below wr.heap.size wr wx)
        case first =>
          go_wp2_with fail
          go_region
          all_goals go_wp2_with fail
          all_goals go_meet
          · refine ⟨_, _, rfl, rfl, ?_, ?_, ?_⟩
            · exact (two_new _ _ _).1
            · exact (two_new _ _ _).2
            · exact below_drewN ((below_new _).trans ((below_new _).mono (by simp))) 1
          · refine ⟨_, _, rfl, rfl, ?_, ?_, ?_⟩
            · exact (two_new _ _ _).2
            · exact (two_new _ _ _).1
            · exact below_drewN ((below_new _).trans ((below_new _).mono (by simp))) 1
        case rest =>
          obtain ⟨bx, bz, rfl, rfl, hbx, hbz, hwc⟩ := hcut
          have KC := hid (HBL.out _ _ _ _ _ wc hK.out hwc)
          have HLT : Hid (∀ W, Below wc.heap.size wc W → (W.cell? ⟨w.heap.size, 0, none⟩ = some (.slice (some ⟨b1, o1, none⟩) la.length cap) ∧ W.cell? ⟨w.heap.size, 1, none⟩ = some (.slice (some ⟨b2, o2, none⟩) lb.length cap2) ∧ W.cell? ⟨w.heap.size, 2, none⟩ = some (.func (.func g) #[] cs)) ∧ (W.cell? ⟨bx, 0, none⟩ = some (.int .i64 xk) ∧ W.cell? ⟨bx, 1, none⟩ = some (.string xs) ∧ W.cell? ⟨bx, 2, none⟩ = some (.int .i64 xn)) ∧
              (W.cell? ⟨bz, 0, none⟩ = some (.int .i64 yk) ∧ W.cell? ⟨bz, 1, none⟩ = some (.string ys) ∧ W.cell? ⟨bz, 2, none⟩ = some (.int .i64 yn)) ∧ K (.cons ⟨xk, xs, xn⟩ ks r) (.cons ⟨yk, ys, yn⟩ ls s) i j W) := hid fun W hW => by
            have hKW := HBL.out _ _ _ _ _ W KC.out hW
            obtain ⟨hP, -⟩ := HRD.out _ _ _ _ _ hKW
            have hx := (hW.block bx (heap_lt hbx)).trans hbx
            have hz := (hW.block bz (heap_lt hbz)).trans hbz
            exact ⟨⟨Lib.cell_of_heap hP 0, Lib.cell_of_heap hP 1, Lib.cell_of_heap hP 2⟩, ⟨Lib.cell_of_heap hx 0, Lib.cell_of_heap hx 1, Lib.cell_of_heap hx 2⟩, ⟨Lib.cell_of_heap hz 0, Lib.cell_of_heap hz 1, Lib.cell_of_heap hz 2⟩, hKW⟩
          clear hwc hbx hbz hs x0 x1 x2 y0 y1 y2 cP0 cP1 cP2 n1 n2 n3 n4 n5 n6 l1 l2 l3 HPS HQ hK hb1 hb2
          obtain ⟨⟨p0, p1, p2⟩, ⟨q0, q1, q2⟩, ⟨r0, r1, r2⟩, -⟩ := HLT.out wc (Below.refl _ _)
          have he := eqS xs ys
          by_cases hn : xs = ys
          · subst hn
            clear he
            have he : (xs.toList == xs.toList) = true := by simp
            by_cases hxk : xk = 0
            · subst hxk
              go_wp2_with fail
              refine (unk_yes xn xs _).mono ?_
              rintro e w1 ⟨rfl, hb1⟩
              clear p0 p1 p2 q0 q1 q2 r0 r1 r2
              obtain ⟨⟨-, -, p2⟩, -, -, kw⟩ := HLT.out w1 hb1
              have KW := hid kw
              clear kw hb1 KC HLT
              have hcl := HCA.out ⟨0, xs, xn⟩ ks r ⟨yk, xs, yn⟩ ls s i j w1 KW.out hA.out rfl (Or.inl rfl)
              dsimp only at hcl
              have HCL := hid hcl
              clear hcl
              go_wp2_with fail
              refine (HCL.out).mono ?_
              rintro e w5 ⟨rfl, hz5, hk5⟩
              cases hu : u 0 yk with
              | false =>
                have HWF : Hid (L.wkF u F0 G0 = false) := hid (by rw [← hW.out]; simp [L.wkF, hu])
                clear hk5
                go_wp2
                go_ret
                exact ⟨ret_bool (by rw [HWF.out]), hz5, fun h => by rw [HWF.out] at h; cases h⟩
              | true =>
                have K5 := hid (hk5 hu)
                clear hk5 hz5
                have HWN : Hid (L.wkF u r s = L.wkF u F0 G0) := hid (by rw [← hW.out]; simp [L.wkF, hu])
                obtain ⟨hP5, ra5, rb5⟩ := HRD.out _ _ _ _ _ K5.out
                have t0 : w5.cell? ⟨w.heap.size, 0, none⟩ = some (.slice (some ⟨b1, o1, none⟩) la.length cap) := Lib.cell_of_heap hP5 0
                have t1 : w5.cell? ⟨w.heap.size, 1, none⟩ = some (.slice (some ⟨b2, o2, none⟩) lb.length cap2) := Lib.cell_of_heap hP5 1
                have ea : i + L.eat 1 (la.drop i) = i + ks.flat.length + 1 := by rw [L.eat_at hA.out.2.2.1 hA.out.2.2.2.2.1]; omega
                have eb : j + L.eat 1 (lb.drop j) = j + ls.flat.length + 1 := by rw [L.eat_at hA.out.2.2.2.1 hA.out.2.2.2.2.2.1]; omega
                have E1 := fun d os => end_any la HFA.out (.slice (some ⟨b1, o1, none⟩) la.length cap) i hil (grow (redrawn w5 d) os) ((ra5.below (below_regrown w5 d os)).mono (below_regrown w5 d os).size)
                have E2 := fun d os => end_any lb HFB.out (.slice (some ⟨b2, o2, none⟩) lb.length cap2) j hjl (grow (redrawn w5 d) os) ((rb5.below (below_regrown w5 d os)).mono (below_regrown w5 d os).size)
                rw [ea] at E1
                rw [eb] at E2
                have HAN := hid (At.skip hA.out)
                obtain ⟨i', hi'⟩ : ∃ i' : Nat, i + ks.flat.length + 1 = i' := ⟨_, rfl⟩
                obtain ⟨j', hj'⟩ : ∃ j' : Nat, j + ls.flat.length + 1 = j' := ⟨_, rfl⟩
                rw [hi', hj'] at HAN K5
                rw [hi'] at E1
                rw [hj'] at E2
                have hii : i < i' := by omega
                have CE1 := hid (fun d os => Calls.regrown_of (E1 d os))
                have CE2 := hid (fun d os => Calls.regrown_of (E2 d os))
                have kp0 := cell_regrown t0
                have kp1 := cell_regrown t1
                have hi2 := HAN.out.1
                clear t0 t1 E1 E2 ea eb hi' hj' hP5 ra5 rb5 hu
                go_wp2
                refine wp_region_quiet_below (by kernel_rfl) (by kernel_rfl) ?_
                repeat (go_big_quiet_step (fail))
                go_big_quiet_step (exact CE1.out _ _)
                repeat (go_big_quiet_step (fail))
                go_big_quiet_step (exact CE2.out _ _)
                repeat (go_big_quiet_step (fail))
                refine wpQuiet_nil ?_
                intro _ hw'
                obtain ⟨⟨nq, osq⟩, hw''⟩ := hw'
                subst hw''
                have HB5 := hid (below_regrown w5 nq osq)
                go_wp2
                go_roundw
                case rel => exact ⟨i', j', r, s, rfl, rfl, HAN, hid (HBL.out _ _ _ _ _ _ K5.out HB5.out), HWN⟩
                case measure => simp [intOf]; omega
            · by_cases hyk : yk = 0
              · subst hyk
                go_wp2_with fail
                refine (unk_no hxk xn xs _).mono ?_
                rintro e w1 ⟨rfl, hb1⟩
                clear p0 p1 p2 q0 q1 q2 r0 r1 r2
                obtain ⟨⟨-, -, -⟩, -, ⟨r0, r1, r2⟩, -⟩ := HLT.out w1 hb1
                have HB1 := hid hb1
                clear hb1
                go_wp2_with fail
                refine (unk_yes yn xs _).mono ?_
                rintro e w2 ⟨rfl, hb2⟩
                clear r0 r1 r2
                obtain ⟨⟨-, -, p2⟩, -, -, kw⟩ := HLT.out w2 (HB1.out.trans (hb2.mono HB1.out.size))
                have KW := hid kw
                clear kw hb2 HB1 KC HLT
                have hcl := HCA.out ⟨xk, xs, xn⟩ ks r ⟨0, xs, yn⟩ ls s i j w2 KW.out hA.out rfl (Or.inr rfl)
                dsimp only at hcl
                have HCL := hid hcl
                clear hcl
                go_wp2_with fail
                refine (HCL.out).mono ?_
                rintro e w5 ⟨rfl, hz5, hk5⟩
                cases hu : u xk 0 with
                | false =>
                  have HWF : Hid (L.wkF u F0 G0 = false) := hid (by rw [← hW.out]; simp [L.wkF, hu])
                  clear hk5
                  go_wp2
                  go_ret
                  exact ⟨ret_bool (by rw [HWF.out]), hz5, fun h => by rw [HWF.out] at h; cases h⟩
                | true =>
                  have K5 := hid (hk5 hu)
                  clear hk5 hz5
                  have HWN : Hid (L.wkF u r s = L.wkF u F0 G0) := hid (by rw [← hW.out]; simp [L.wkF, hu])
                  obtain ⟨hP5, ra5, rb5⟩ := HRD.out _ _ _ _ _ K5.out
                  have t0 : w5.cell? ⟨w.heap.size, 0, none⟩ = some (.slice (some ⟨b1, o1, none⟩) la.length cap) := Lib.cell_of_heap hP5 0
                  have t1 : w5.cell? ⟨w.heap.size, 1, none⟩ = some (.slice (some ⟨b2, o2, none⟩) lb.length cap2) := Lib.cell_of_heap hP5 1
                  have ea : i + L.eat 1 (la.drop i) = i + ks.flat.length + 1 := by rw [L.eat_at hA.out.2.2.1 hA.out.2.2.2.2.1]; omega
                  have eb : j + L.eat 1 (lb.drop j) = j + ls.flat.length + 1 := by rw [L.eat_at hA.out.2.2.2.1 hA.out.2.2.2.2.2.1]; omega
                  have E1 := fun d os => end_any la HFA.out (.slice (some ⟨b1, o1, none⟩) la.length cap) i hil (grow (redrawn w5 d) os) ((ra5.below (below_regrown w5 d os)).mono (below_regrown w5 d os).size)
                  have E2 := fun d os => end_any lb HFB.out (.slice (some ⟨b2, o2, none⟩) lb.length cap2) j hjl (grow (redrawn w5 d) os) ((rb5.below (below_regrown w5 d os)).mono (below_regrown w5 d os).size)
                  rw [ea] at E1
                  rw [eb] at E2
                  have HAN := hid (At.skip hA.out)
                  obtain ⟨i', hi'⟩ : ∃ i' : Nat, i + ks.flat.length + 1 = i' := ⟨_, rfl⟩
                  obtain ⟨j', hj'⟩ : ∃ j' : Nat, j + ls.flat.length + 1 = j' := ⟨_, rfl⟩
                  rw [hi', hj'] at HAN K5
                  rw [hi'] at E1
                  rw [hj'] at E2
                  have hii : i < i' := by omega
                  have CE1 := hid (fun d os => Calls.regrown_of (E1 d os))
                  have CE2 := hid (fun d os => Calls.regrown_of (E2 d os))
                  have kp0 := cell_regrown t0
                  have kp1 := cell_regrown t1
                  have hi2 := HAN.out.1
                  clear t0 t1 E1 E2 ea eb hi' hj' hP5 ra5 rb5 hu
                  go_wp2
                  refine wp_region_quiet_below (by kernel_rfl) (by kernel_rfl) ?_
                  repeat (go_big_quiet_step (fail))
                  go_big_quiet_step (exact CE1.out _ _)
                  repeat (go_big_quiet_step (fail))
                  go_big_quiet_step (exact CE2.out _ _)
                  repeat (go_big_quiet_step (fail))
                  refine wpQuiet_nil ?_
                  intro _ hw'
                  obtain ⟨⟨nq, osq⟩, hw''⟩ := hw'
                  subst hw''
                  have HB5 := hid (below_regrown w5 nq osq)
                  go_wp2
                  go_roundw
                  case rel => exact ⟨i', j', r, s, rfl, rfl, HAN, hid (HBL.out _ _ _ _ _ _ K5.out HB5.out), HWN⟩
                  case measure => simp [intOf]; omega
              · skip
                have HSM := hid (L.wk_same (u := u) hA.out.2.2.2.2.1 hA.out.2.2.2.2.2.1 hA.out.2.2.2.2.2.2.1 hA.out.2.2.2.2.2.2.2.1 hxk hyk)
                go_wp2_with fail
                refine (unk_no hxk xn xs _).mono ?_
                rintro e w1 ⟨rfl, hb1⟩
                clear p0 p1 p2 q0 q1 q2 r0 r1 r2
                obtain ⟨⟨-, -, -⟩, -, ⟨r0, r1, r2⟩, -⟩ := HLT.out w1 hb1
                have HB1 := hid hb1
                clear hb1
                go_wp2_with fail
                refine (unk_no hyk yn xs _).mono ?_
                rintro e w2 ⟨rfl, hb2⟩
                clear r0 r1 r2
                obtain ⟨-, ⟨q0, q1, q2⟩, ⟨r0, r1, r2⟩, kw⟩ := HLT.out w2 (HB1.out.trans (hb2.mono HB1.out.size))
                have KW := hid kw
                clear kw hb2 HB1 KC HLT
                by_cases h1 : xk = yk
                · by_cases h3 : xn = yn
                  · subst h1 h3
                    obtain ⟨hc, hwk⟩ := HSM.out.1 rfl
                    have HWN : Hid (L.wkF u (ks.app r) (ls.app s) = L.wkF u F0 G0) := hid (by rw [← hwk]; exact hW.out)
                    have HAN := hid (At.into hA.out)
                    have KN := hid (HST.out _ _ _ _ _ _ _ _ KW.out hA.out hxk hc)
                    have hi2 := HAN.out.1
                    clear hc hwk
                    go_wp2
                    go_roundw
                    case rel => exact ⟨i + 1, j + 1, ks.app r, ls.app s, by go_num, by go_num, HAN, KN, HWN⟩
                    case measure => simp [intOf]; omega
                  · have e3 : (xn == yn) = false := by simpa using h3
                    have HWF : Hid (L.wkF u F0 G0 = false) := hid (by rw [← hW.out]; exact HSM.out.2 (by intro e; injection e; exact h3 ‹_›))
                    subst h1
                    clear h3
                    go_wp2
                    go_ret
                    exact ⟨ret_bool (by rw [HWF.out]), HZ.out _ _ _ _ _ KW.out, fun h => by rw [HWF.out] at h; cases h⟩
                · have e1 : (xk == yk) = false := by simpa using h1
                  have HWF : Hid (L.wkF u F0 G0 = false) := hid (by rw [← hW.out]; exact HSM.out.2 (by intro e; injection e; exact h1 ‹_›))
                  clear h1
                  go_wp2
                  go_ret
                  exact ⟨ret_bool (by rw [HWF.out]), HZ.out _ _ _ _ _ KW.out, fun h => by rw [HWF.out] at h; cases h⟩
          · have e2 : (xs.toList == ys.toList) = false := by rw [he]; simp [hn]
            have HWF : Hid (L.wkF u F0 G0 = false) := hid (by rw [← hW.out]; simp [L.wkF, hn])
            clear he hn
            go_wp2
            go_ret
            exact ⟨ret_bool (by rw [HWF.out]), HZ.out _ _ _ _ _ KC.out, fun h => by rw [HWF.out] at h; cases h⟩
end Go.Proofs.Ytpndbgdimkpfjaa
