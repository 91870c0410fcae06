/-
  The walk of prec.Meet. Conditions: slices that read as plain trees, with labels of at most 2000000 bytes.
-/
import Derived.Test.YtpndbgdimkpfjaaPvS
namespace Go.Proofs.Ytpndbgdimkpfjaa
open Go.RowKit Go.Sort

theorem enter_me (args : Array Value) (W : World) : (callFunc 34 args).run Try.prog W = .ok (.enter 34 args) W := by kernel_rfl

set_option maxHeartbeats 2000000 in
set_option maxRecDepth 100000 in
theorem meet1_unk {lb : List L.Nd} {vb : Value} (Bb Tb Ab Rb : Nat) (i : Int) (j : Nat) (hj : j < lb.length) (hk : lb[j].kind = 0) (w : World) (hq : w.heap[Bb]? = some (.cells #[vb] 23 (0, 0))) (hb : Rd w w.heap.size vb lb) :
    Calls Try.prog 34 #[.int .i64 i, .int .i64 (j : Int), .pointer (some ⟨Bb, 0, none⟩), .pointer (some ⟨Tb, 0, none⟩), .pointer (some ⟨Ab, 0, none⟩), .pointer (some ⟨Rb, 0, none⟩)] w fun e w' => e = .returned (.bool true) ∧ Below w.heap.size w w' := by
  obtain ⟨A2, cap2, rfl, hm1, hm2, -, hcy⟩ := hb
  unfold maxLen at hm2
  obtain ⟨b2, o2, rfl, hb2, hcy⟩ := hcy (by rintro rfl; simp at hj)
  obtain ⟨y0, y1, y2⟩ := hcy j hj
  have cQ : w.cell? ⟨Bb, 0, none⟩ = some (.slice (some ⟨b2, o2, none⟩) lb.length cap2) := Lib.cell_of_heap hq 0
  clear hcy hq
  generalize lb[j] = Y at *
  obtain ⟨yk, ys, yn⟩ := Y
  simp only at hk
  subst hk
  go_enter Try.func34, Try.ntmps34
  go_wp2_with fail
  refine (unk_yes yn ys _).mono ?_
  rintro e w1 ⟨rfl, h1⟩
  go_wp2
  go_ret
  exact ⟨rfl, h1⟩

/-- Where Meet's walk stands. -/
structure MK (w : World) (la lb : List L.Nd) (va vb : Value) (M : List L.Nd) (F G : L.Fo) (i j : Nat) (W : World) : Prop where
  pair : W.heap[w.heap.size + 4]? = some (.cells #[va, vb, .func (.func 34) #[] #[.pointer (some ⟨w.heap.size + 1, 0, none⟩), .pointer (some ⟨w.heap.size + 2, 0, none⟩), .pointer (some ⟨w.heap.size, 0, none⟩), .pointer (some ⟨w.heap.size + 3, 0, none⟩)]] 53 (0, 0))
  st : ∃ vt lt rest, MSt w.heap.size (w.heap.size + 5) w.heap.size (w.heap.size + 1) (w.heap.size + 2) (w.heap.size + 3) la lb va vb vt lt rest W ∧ rest ≤ i ∧ lt.length ≤ rest + j ∧ (L.agF F G = true → lt ++ (la.drop rest).take (i - rest) ++ (L.meF F G).flat = M)
  bel : Below w.heap.size w W
  size : w.heap.size + 5 ≤ W.heap.size

theorem apart_me (s : Nat) : Apart s (s + 5) s (s + 1) (s + 2) (s + 3) := by
  constructor <;> omega

theorem take_more {l r : List L.Nd} {rest i : Nat} {x : List L.Nd} (h : l.drop i = x ++ r) (hr : rest ≤ i) : (l.drop rest).take (i + x.length - rest) = (l.drop rest).take (i - rest) ++ x := by
  rw [show i + x.length - rest = (i - rest) + x.length by omega, List.take_add, List.drop_drop, show rest + (i - rest) = i by omega, h]
  simp

set_option maxRecDepth 100000 in
theorem MK.step {w : World} {la lb : List L.Nd} {va vb : Value} {M : List L.Nd} {x : L.Nd} {ks r ls s : L.Fo} {i j : Nat} {W : World} (h : MK w la lb va vb M (.cons x ks r) (.cons x ls s) i j W) (hA : At la lb (.cons x ks r) (.cons x ls s) i j) (h0 : x.kind ≠ 0) (hc : ks.count = ls.count) :
    MK w la lb va vb M (ks.app r) (ls.app s) (i + 1) (j + 1) W := by
  obtain ⟨vt, lt, rest, hm, h1, h2, h3⟩ := h.st
  refine ⟨h.pair, ⟨vt, lt, rest, hm, by omega, by omega, fun hag => ?_⟩, h.bel, h.size⟩
  have e1 := L.wk_app (u := fun _ _ => true) r s hc
  rw [L.wk_ag, L.wk_ag, L.wk_ag] at e1
  rw [e1] at hag
  simp only [Bool.and_eq_true] at hag
  have := h3 (by simp [L.agF, hag.1, hag.2])
  rw [← this]
  have e2 : (L.meF (ks.app r) (ls.app s)).flat = (L.meF ks ls).flat ++ (L.meF r s).flat := by rw [L.me_app r s hc, L.app_flat]
  have e3 : (L.meF (.cons x ks r) (.cons x ls s)).flat = x :: ((L.meF ks ls).flat ++ (L.meF r s).flat) := by simp [L.meF, h0, L.Fo.flat]
  rw [e2, e3]
  have e4 := take_more (rest := rest) (i := i) (x := [x]) (r := (ks.app r).flat) (l := la) (by rw [hA.2.2.1, L.Fo.flat, L.app_flat]; rfl) h1
  simp only [List.length_singleton] at e4
  rw [e4]
  simp

theorem MK.below {w : World} {la lb : List L.Nd} {va vb : Value} {M : List L.Nd} {F G : L.Fo} {i j : Nat} {W W' : World} (h : MK w la lb va vb M F G i j W) (hb : Below W.heap.size W W') : MK w la lb va vb M F G i j W' := by
  obtain ⟨vt, lt, rest, hm, h1⟩ := h.st
  exact ⟨(hb.block _ (heap_lt h.pair)).trans h.pair, ⟨vt, lt, rest, hm.below hb, h1⟩, h.bel.trans (hb.mono h.bel.size), Nat.le_trans h.size hb.size⟩

set_option maxHeartbeats 2000000 in
set_option maxRecDepth 100000 in
theorem MK.call {w : World} {la lb : List L.Nd} (hfa : Few la) (hfb : Few lb) {va vb : Value} {M : List L.Nd} {x y : L.Nd} {ks r ls s : L.Fo} {i j : Nat} {W : World} (h : MK w la lb va vb M (.cons x ks r) (.cons y ls s) i j W) (hA : At la lb (.cons x ks r) (.cons y ls s) i j) (hn : x.name = y.name) (h0 : x.kind = 0 ∨ y.kind = 0) :
    Calls Try.prog 34 #[.int .i64 (i : Int), .int .i64 (j : Int), .pointer (some ⟨w.heap.size + 1, 0, none⟩), .pointer (some ⟨w.heap.size + 2, 0, none⟩), .pointer (some ⟨w.heap.size, 0, none⟩), .pointer (some ⟨w.heap.size + 3, 0, none⟩)] W fun e W' =>
      e = .returned (.bool true) ∧ Below w.heap.size w W' ∧ (true = true → MK w la lb va vb M r s (i + ks.flat.length + 1) (j + ls.flat.length + 1) W') := by
  obtain ⟨vt, lt, rest, hm, h1, h2, h3⟩ := h.st
  obtain ⟨hi, hx, -⟩ := L.drop_flat hA.2.2.1
  obtain ⟨hj, hy, -⟩ := L.drop_flat hA.2.2.2.1
  have hln := hfa.1
  have hmn := hfb.1
  by_cases hk : y.kind = 0
  · refine (meet1_unk (lb := lb) (vb := vb) (w.heap.size + 1) (w.heap.size + 2) w.heap.size (w.heap.size + 3) i j hj (by rw [hy]; exact hk) W hm.b (hm.rb.mono (by have := h.size; omega))).mono fun e W' hh => ?_
    obtain ⟨rfl, hW⟩ := hh
    have h' := h.below hW
    refine ⟨rfl, h'.bel, fun _ => ⟨h'.pair, ⟨vt, lt, rest, hm.below hW, by omega, by omega, fun hag => ?_⟩, h'.bel, h'.size⟩⟩
    have := h3 (by simp [L.agF, hn, hk, hag])
    rw [← this]
    have e4 := take_more (rest := rest) (i := i) (x := x :: ks.flat) (r := r.flat) (l := la) (by rw [hA.2.2.1, L.Fo.flat]; rfl) h1
    simp only [List.length_cons] at e4
    rw [show i + ks.flat.length + 1 = i + (ks.flat.length + 1) by omega, e4]
    simp [L.meF, hk, L.Fo.flat]
  · have hxk : x.kind = 0 := h0.elim id (fun e => absurd e hk)
    obtain rfl := L.kids_nil (L.ok_cons.1 hA.2.2.2.2.1).2.1 hxk
    refine (meet1_kn (apart_me w.heap.size) hfa hfb hm h.size i j h1 hi hj (by rw [hy]; exact hk) (by omega)).mono fun e W' hh => ?_
    obtain ⟨rfl, ⟨v2, hm2⟩, hfr, hsz⟩ := hh
    have hbl : Below w.heap.size w W' := h.bel.trans hfr.1
    refine ⟨rfl, hbl, fun _ => ⟨(hfr.2 _ (by omega) (by omega) (by omega)).trans h.pair, ⟨v2, _, i + 1, hm2, by simp [L.Fo.flat], ?_, fun hag => ?_⟩, hbl, Nat.le_trans h.size hsz⟩⟩
    · rw [L.eat_at hA.2.2.2.1 hA.2.2.2.2.2.1]
      simp
      omega
    · have := h3 (by simp [L.agF, hn, hxk, hag])
      rw [← this, L.eat_at hA.2.2.2.1 hA.2.2.2.2.2.1, hA.2.2.2.1]
      simp [L.meF, hk, hxk, L.Fo.flat]


/-- What prec.Meet answers. -/
def MeetPost (F G : L.Fo) (B : Nat) (v : Value) (c : Int) (w' : World) : Prop :=
  (L.agF F G = true ∧ c = 0 ∧ Own B v (L.meF F G).flat w') ∨ (L.agF F G = false ∧ c = 9 ∧ v = .slice none 0 0)

set_option maxHeartbeats 4000000 in
set_option maxRecDepth 100000 in
theorem meet_any {la lb : List L.Nd} {F G : L.Fo} (ta : Ty la F) (tb : Ty lb G) (va vb : Value) (w : World) (ha : Rd w w.heap.size va la) (hb : Rd w w.heap.size vb lb) :
    Calls Try.prog 13 #[va, vb] w fun e w' => ∃ v c, e = .returned (.tuple #[v, .int .i64 c]) ∧ MeetPost F G w.heap.size v c w' ∧ Below w.heap.size w w' := by
  obtain ⟨w4, hw4⟩ : ∃ w4, w4 = (((w.alloc (.cells #[va] 23)).alloc (.cells #[vb] 23)).alloc (.cells #[.slice none 0 0] 23)).alloc (.cells #[.int .i64 0] 3) := ⟨_, rfl⟩
  have hs4 : w4.heap.size = w.heap.size + 4 := by rw [hw4]; simp
  have hB4 : Below w.heap.size w w4 := by
    rw [hw4]
    exact (((below_new _).trans ((below_new _).mono (by simp))).trans ((below_new _).mono (by simp; omega))).trans ((below_new _).mono (by simp; omega))
  have c0 : w4.heap[w.heap.size]? = some (.cells #[va] 23 (0, 0)) := by
    rw [hw4]
    exact (heap_alloc_old _ _ (by simp; omega)).trans ((heap_alloc_old _ _ (by simp; omega)).trans ((heap_alloc_old _ _ (by simp)).trans (heap_alloc_new _ _)))
  have c1 : w4.heap[w.heap.size + 1]? = some (.cells #[vb] 23 (0, 0)) := by
    rw [hw4]
    have := heap_alloc_new (w.alloc (.cells #[va] 23)) (.cells #[vb] 23)
    rw [show (w.alloc (.cells #[va] 23)).heap.size = w.heap.size + 1 by simp] at this
    exact (heap_alloc_old _ _ (by simp)).trans ((heap_alloc_old _ _ (by simp)).trans this)
  have c2 : w4.heap[w.heap.size + 2]? = some (.cells #[.slice none 0 0] 23 (0, 0)) := by
    rw [hw4]
    have := heap_alloc_new ((w.alloc (.cells #[va] 23)).alloc (.cells #[vb] 23)) (.cells #[.slice none 0 0] 23)
    rw [show ((w.alloc (.cells #[va] 23)).alloc (.cells #[vb] 23)).heap.size = w.heap.size + 2 by simp] at this
    exact (heap_alloc_old _ _ (by simp)).trans this
  have c3 : w4.heap[w.heap.size + 3]? = some (.cells #[.int .i64 0] 3 (0, 0)) := by
    rw [hw4]
    have := heap_alloc_new (((w.alloc (.cells #[va] 23)).alloc (.cells #[vb] 23)).alloc (.cells #[.slice none 0 0] 23)) (.cells #[.int .i64 0] 3)
    rw [show (((w.alloc (.cells #[va] 23)).alloc (.cells #[vb] 23)).alloc (.cells #[.slice none 0 0] 23)).heap.size = w.heap.size + 3 by simp] at this
    exact this
  have ha4 := (ha.below hB4).mono hB4.size
  have hb4 := (hb.below hB4).mono hB4.size
  obtain ⟨w5, hw5⟩ : ∃ w5, w5 = w4.alloc (.cells #[va, vb, .func (.func 34) #[] #[.pointer (some ⟨w.heap.size + 1, 0, none⟩), .pointer (some ⟨w.heap.size + 2, 0, none⟩), .pointer (some ⟨w.heap.size, 0, none⟩), .pointer (some ⟨w.heap.size + 3, 0, none⟩)]] 53) := ⟨_, rfl⟩
  have hB5 : Below w4.heap.size w4 w5 := by rw [hw5]; exact below_new _
  have h05 := hB4.trans (hB5.mono hB4.size)
  have K0 : MK w la lb va vb (L.meF F G).flat F G 0 0 w5 := by
    refine ⟨?_, ⟨_, [], 0, ⟨(hB5.block _ (by omega)).trans c0, (hB5.block _ (by omega)).trans c1, (hB5.block _ (by omega)).trans c2, (hB5.block _ (by omega)).trans c3, Own.nil _ _, ha.low h05, hb.low h05⟩, by omega, by simp, fun _ => by simp⟩, h05, ?_⟩
    · rw [hw5, ← hs4]
      exact heap_alloc_new _ _
    · rw [hw5]
      simp
      omega
  rw [hw5] at K0
  have HV := hid (visit_any la lb ta.few tb.few ta.nm va vb 34 #[.pointer (some ⟨w.heap.size + 1, 0, none⟩), .pointer (some ⟨w.heap.size + 2, 0, none⟩), .pointer (some ⟨w.heap.size, 0, none⟩), .pointer (some ⟨w.heap.size + 3, 0, none⟩)] enter_me (fun _ _ => true) F G (ta.at tb) w4 ha4 hb4 (fun W => Below w.heap.size w W)
    (MK w la lb va vb (L.meF F G).flat)
    (fun _ _ _ _ _ h => h.bel)
    (fun _ _ _ _ W h => ⟨by rw [hs4]; exact h.pair, (ha.below h.bel).mono h.bel.size, (hb.below h.bel).mono h.bel.size⟩)
    (fun _ _ _ _ _ _ h hW => h.below hW) K0
    (fun x ks r ls s i j W h hA h0 hc => h.step hA h0 hc)
    (fun x ks r y ls s i j W h hA hn h0 => h.call ta.few tb.few hA hn h0))
  have HRA := hid ha
  obtain ⟨A, cap, rfl, hl1, hl2, -, hcx⟩ := ha
  obtain ⟨A2, cap2, rfl, -⟩ := hb
  unfold maxLen at hl2
  have hln := ta.few.1
  have hmn := tb.few.1
  have hpos : 0 < la.length := List.length_pos_iff.2 (by
    intro h
    have h1 := ta.flat
    rw [h] at h1
    cases F with
    | nil => exact ta.ne rfl
    | cons x ks r => simp [L.Fo.flat] at h1)
  obtain ⟨b1, o1, rfl, hb1, -⟩ := hcx (by rintro rfl; simp at hpos)
  clear ha4 hb4 K0 h05 hB5 hw5 c0 c1 c2 c3 hB4
  rw [hw4] at HV
  clear hw4 hs4
  cases hag : L.agF F G with
  | false =>
    have HAG := hid hag
    rw [L.wk_ag, hag] at HV
    clear hag
    go_enter Try.func13, Try.ntmps13
    go_wp2_with fail
    refine (HV.out).mono ?_
    rintro e w6 ⟨rfl, h6, -⟩
    go_wp2
    refine bodyPost_ret (v := .tuple #[.slice none 0 0, .int .i64 9]) (by simp [results, Try.results13, go_sem]) rfl ?_
    exact ⟨_, _, rfl, Or.inr ⟨HAG.out, rfl, rfl⟩, h6⟩
  | true =>
    have HAG := hid hag
    rw [L.wk_ag, hag] at HV
    clear hag
    go_enter Try.func13, Try.ntmps13
    go_wp2_with fail
    refine (HV.out).mono ?_
    rintro e w6 ⟨rfl, h6, h7⟩
    obtain ⟨hpr, ⟨vt, lt, rest, hm, hr1, hr2, hr3⟩, -, hsz⟩ := h7 trivial
    have HM := hid hm
    have H6 := hid h6
    have HFL : Hid (lt ++ la.drop rest = (L.meF F G).flat) := hid (by
      have := hr3 rfl
      rw [List.take_of_length_le (by simp)] at this
      simpa [L.meF, L.Fo.flat] using this)
    clear hpr hm h6 h7 hr3
    have hrc : rest ≤ cap := by omega
    by_cases hcr : cap = rest
    · subst hcr
      go_wp2
      obtain ⟨wd, hwd⟩ : ∃ wd, wd = w6.drew := ⟨_, rfl⟩
      have hBd : Below w6.heap.size w6 wd := by rw [hwd]; exact (Below.refl _ _).drew
      have MD := hid (HM.out.below hBd)
      have hsd : w6.heap.size ≤ wd.heap.size := hBd.size
      have hBd2 : w.heap.size + 5 ≤ wd.heap.size := by omega
      have H6D := hid (H6.out.trans (hBd.mono H6.out.size))
      have RD := hid (show Rd wd wd.heap.size (.slice (some ⟨b1, o1, none⟩) 0 0) (la.drop cap) from by
        have hz : la.drop cap = [] := List.drop_eq_nil_of_le (by omega)
        rw [hz]
        exact ⟨some ⟨b1, o1, none⟩, 0, by simp, by simp, by unfold maxLen; omega, fun e => by simp at e, fun e => absurd rfl e⟩)
      have da : wd.cell? ⟨w.heap.size, 0, none⟩ = some (.slice (some ⟨b1, o1, none⟩) la.length cap) := Lib.cell_of_heap MD.out.a 0
      have dt : wd.cell? ⟨w.heap.size + 1 + 1, 0, none⟩ = some vt := Lib.cell_of_heap MD.out.t 0
      have dr : wd.cell? ⟨w.heap.size + 1 + 1 + 1, 0, none⟩ = some (.int .i64 (cap : Int)) := Lib.cell_of_heap MD.out.r 0
      refine wp_region_still_tail 4 (by kernel_rfl) (by kernel_rfl) ?_
      simp only [List.take_succ_cons, List.take_zero, List.drop_succ_cons, List.drop_zero]
      change wpStill _ _ (World.drew _) _ _ _
      rw [← hwd]
      have HWD := hid hwd
      clear hBd hwd
      repeat still_step
      refine wpStill_nil ?_
      change wpList _ _ _ _ _ (World.drew _)
      rw [← HWD.out]
      refine wpList_app2 rfl (.tmp 16) (.tmp 19) rfl rfl (w.heap.size + 5) _ _ lt (la.drop cap) rfl MD.out.own rfl RD.out (by simp; omega) hBd2 ?_
      intro v2 w2 ho hg
      rw [HFL.out] at ho
      have HO := hid ho
      have hB9 : Below w.heap.size w w2 := H6D.out.grown hg H6D.out.size (fun k hk => by have := (Own.lt MD.out.own k hk).1; omega)
      have HB9 := hid hB9
      clear ho hg hB9 da dt dr
      go_wp2
      refine bodyPost_ret (v := .tuple #[v2, .int .i64 0]) (by simp [results, Try.results13, go_sem]) rfl ?_
      exact ⟨_, _, rfl, Or.inl ⟨HAG.out, rfl, HO.out.more (by omega)⟩, HB9.out⟩
    · go_wp2
      obtain ⟨wd, hwd⟩ : ∃ wd, wd = w6.drew := ⟨_, rfl⟩
      have hBd : Below w6.heap.size w6 wd := by rw [hwd]; exact (Below.refl _ _).drew
      have MD := hid (HM.out.below hBd)
      have hsd : w6.heap.size ≤ wd.heap.size := hBd.size
      have hBd2 : w.heap.size + 5 ≤ wd.heap.size := by omega
      have H6D := hid (H6.out.trans (hBd.mono H6.out.size))
      have RD := hid (show Rd wd wd.heap.size (.slice (some ⟨b1, o1 + rest * 3, none⟩) (la.length - rest) (cap - rest)) (la.drop rest) from by
        have := (MD.out.ra.mono (show w.heap.size ≤ wd.heap.size by omega)).cut (p := rest) (n := la.length - rest) (by omega)
        rwa [List.take_of_length_le (by simp)] at this)
      have da : wd.cell? ⟨w.heap.size, 0, none⟩ = some (.slice (some ⟨b1, o1, none⟩) la.length cap) := Lib.cell_of_heap MD.out.a 0
      have dt : wd.cell? ⟨w.heap.size + 1 + 1, 0, none⟩ = some vt := Lib.cell_of_heap MD.out.t 0
      have dr : wd.cell? ⟨w.heap.size + 1 + 1 + 1, 0, none⟩ = some (.int .i64 (rest : Int)) := Lib.cell_of_heap MD.out.r 0
      refine wp_region_still_tail 4 (by kernel_rfl) (by kernel_rfl) ?_
      simp only [List.take_succ_cons, List.take_zero, List.drop_succ_cons, List.drop_zero]
      change wpStill _ _ (World.drew _) _ _ _
      rw [← hwd]
      have HWD := hid hwd
      clear hBd hwd
      repeat still_step
      refine wpStill_nil ?_
      change wpList _ _ _ _ _ (World.drew _)
      rw [← HWD.out]
      refine wpList_app2 rfl (.tmp 16) (.tmp 19) rfl rfl (w.heap.size + 5) _ _ lt (la.drop rest) rfl MD.out.own rfl RD.out (by simp; omega) hBd2 ?_
      intro v2 w2 ho hg
      rw [HFL.out] at ho
      have HO := hid ho
      have hB9 : Below w.heap.size w w2 := H6D.out.grown hg H6D.out.size (fun k hk => by have := (Own.lt MD.out.own k hk).1; omega)
      have HB9 := hid hB9
      clear ho hg hB9 da dt dr
      go_wp2
      refine bodyPost_ret (v := .tuple #[v2, .int .i64 0]) (by simp [results, Try.results13, go_sem]) rfl ?_
      exact ⟨_, _, rfl, Or.inl ⟨HAG.out, rfl, HO.out.more (by omega)⟩, HB9.out⟩

end Go.Proofs.Ytpndbgdimkpfjaa
