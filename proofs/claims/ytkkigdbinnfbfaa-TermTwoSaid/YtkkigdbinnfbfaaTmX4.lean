/-
  The walks of term's extended and kidsOf. Conditions: at most 200 types, none of them empty.
-/
import Derived.Test.YtkkigdbinnfbfaaTmX3
import Derived.Test.YtkkigdbinnfbfaaM2
import Derived.Test.YtkkigdbinnfbfaaTmF
namespace Go.Proofs.Ytkkigdbinnfbfaa.L
open Go
/-- The trees of a row. -/
def Fo.rows : Fo → List (List Nd)
  | .nil => []
  | .cons y ys r => (y :: ys.flat) :: r.rows
theorem rows_flat : ∀ f : Fo, f.rows.flatten = f.flat
  | .nil => rfl
  | .cons y ys r => by simp [Fo.rows, Fo.flat, rows_flat r]
theorem rows_len : ∀ f : Fo, f.rows.length = f.count
  | .nil => rfl
  | .cons y ys r => by simp [Fo.rows, Fo.count, rows_len r]
theorem rows_ne : ∀ (f : Fo), ∀ l ∈ f.rows, l ≠ []
  | .nil, _, h => by cases h
  | .cons y ys r, l, h => by
    simp only [Fo.rows, List.mem_cons] at h
    rcases h with rfl | h
    · simp
    · exact rows_ne r l h
/-- The places of the trees of a row. -/
inductive Kd (l z : List Nd) : List Nat → Fo → Prop
  | nil : Kd l z [] .nil
  | cons {q : Nat} {ps : List Nat} {y : Nd} {ys r : Fo} : l.drop q = (Fo.cons y ys r).flat ++ z → Kd l z ps r → Kd l z (q :: ps) (.cons y ys r)
theorem kd_kids (l z : List Nd) : ∀ (f : Fo) (q : Nat), f.ok = true → l.drop q = f.flat ++ z → Kd l z (kidsL l f.count q) f
  | .nil, _, _, _ => .nil
  | .cons y ys r, q, h, hd => by
    have hq : q < l.length := by
      have := congrArg List.length hd
      simp [Fo.flat] at this
      omega
    have h' := h
    simp only [Fo.ok, Bool.and_eq_true] at h
    rw [Fo.count, kidsL, if_pos hq]
    refine .cons hd ?_
    have e1 : eat 1 (l.drop q) = ys.flat.length + 1 := by
      rw [hd]
      simp only [Fo.flat, List.cons_append, List.append_assoc]
      refine eat_tree (x := y) (ks := ys) ?_ _
      simp only [Fo.ok, Bool.and_eq_true]
      exact ⟨h.1, trivial⟩
    rw [e1]
    refine kd_kids l z r _ h.2 ?_
    rw [← List.drop_drop, hd]
    simp [Fo.flat]
theorem eat_row {l z : List Nd} {q : Nat} {y : Nd} {ys r : Fo} (hd : l.drop q = (Fo.cons y ys r).flat ++ z) (h : (Fo.cons y ys r).ok = true) : eat 1 (l.drop q) = ys.flat.length + 1 := by
  simp only [Fo.ok, Bool.and_eq_true] at h
  rw [hd]
  simp only [Fo.flat, List.cons_append, List.append_assoc]
  refine eat_tree (x := y) (ks := ys) ?_ _
  simp only [Fo.ok, Bool.and_eq_true]
  exact ⟨h.1, trivial⟩
theorem few_ok : ∀ (f : Fo), f.ok = true → ∀ x ∈ f.flat, 0 ≤ many x ∧ many x ≤ 50
  | .nil, _, x, hx => by cases hx
  | .cons y ys r, h, x, hx => by
    simp only [Fo.ok, Bool.and_eq_true] at h
    simp only [Fo.flat, List.mem_cons, List.mem_append] at hx
    rcases hx with rfl | hx | hx
    · exact many_of_numbered h.1.1.1.1
    · exact few_ok ys h.1.2 x hx
    · exact few_ok r h.2 x hx
end Go.Proofs.Ytkkigdbinnfbfaa.L
namespace Go.Proofs.Ytkkigdbinnfbfaa
open Go.RowKit Go.Sort

/-- A row, with more in place of its tail n. -/
def extT (n : Int) (ks more : List VT) : List VT := if L.openB n (ks.map (·.2)) = true then mergeT ks.dropLast more else ks
theorem RdR.init {w : World} {B n cap : Nat} {A : Option Addr} {ts : List VT} (h : RdR w B (.slice A n cap) ts) (h0 : ts ≠ []) : RdR w B (.slice A (n - 1) cap) ts.dropLast := by
  obtain ⟨⟨A', c, e, h1, h2, h3, hx⟩, hr⟩ := h
  simp only [Value.slice.injEq] at e
  obtain ⟨rfl, rfl, rfl⟩ := e
  obtain ⟨b, o, rfl, hb, hcell⟩ := hx h0
  refine ⟨⟨_, cap, by simp, by simp; omega, h2, by simp, fun _ => ⟨b, o, rfl, hb, fun i hi => ?_⟩⟩, fun t ht => hr t (List.dropLast_subset _ ht)⟩
  have hi2 : i < ts.length := by simp at hi; omega
  rw [List.getElem_dropLast]
  exact hcell i hi2

set_option maxHeartbeats 4000000 in
set_option maxRecDepth 100000 in
theorem extended_any (ks more : List VT) (hk : ∀ t ∈ ks, t.2 ≠ []) (hm : ∀ t ∈ more, t.2 ≠ []) (hlk : ks.length ≤ 200) (hlm : more.length ≤ 200) (n : Int) (vk vm : Value) (w : World) (hxk : RdR w w.heap.size vk ks) (hxm : RdR w w.heap.size vm more) :
    Calls Try.prog 23 #[vk, .int .i64 n, vm] w (MergePost (extT n ks more) w) := by
  have HK := hid hxk
  have HM := hid hxm
  have HO := hid (isOpen_any ks hk (by omega) n vk w hxk)
  have HMG := hid (fun (h0 : ks ≠ []) (va : Value) (W : World) (hW : Below w.heap.size w W) (ha : RdR W W.heap.size va ks.dropLast) => merge_any ks.dropLast more (fun t ht => hk t (List.dropLast_subset _ ht)) hm (by simp; omega) hlm va vm W ha (hxm.to hW))
  obtain ⟨Ak, ck, rfl, hk1, hk2⟩ := hxk.val
  obtain ⟨Am, cm, rfl, -⟩ := hxm.val
  unfold maxLen at hk2
  clear hxk hxm hk hm
  go_enter Try.func23, Try.ntmps23
  go_wp2_with fail
  refine (HO.out).mono ?_
  rintro e w1 ⟨rfl, hb1⟩
  have X1 := hid hb1
  clear hb1 HO
  cases ho : L.openB n (ks.map (·.2)) with
  | false =>
    have EX : Hid (MergePost (extT n ks more) w (.returned (.slice Ak ks.length ck)) w1) := hid ⟨_, rfl, by
      unfold extT
      rw [if_neg (by rw [ho]; simp)]
      exact HK.out.to X1.out, X1.out⟩
    clear ho
    go_wp2_with fail
    go_ret
    exact EX.out
  | true =>
    have hne : ks ≠ [] := by rintro rfl; simp [L.openB] at ho
    have hpos := List.length_pos_iff.2 hne
    have HI := hid ((HK.out.to X1.out).init hne)
    have HC := hid (HMG.out hne _ w1 X1.out HI.out)
    have HE : Hid (extT n ks more = mergeT ks.dropLast more) := hid (by unfold extT; rw [if_pos ho])
    have p1 : (1 : Int) ≤ (ks.length : Int) := by omega
    clear ho hne HMG HI
    go_wp2_with fail
    refine (HC.out).mono ?_
    rintro e w2 ⟨v2, rfl, hr, hb2⟩
    have EX : Hid (MergePost (extT n ks more) w (.returned v2) w2) := hid ⟨v2, rfl, by rw [HE.out]; exact hr, X1.out.trans (hb2.mono X1.out.size)⟩
    clear hr hb2 HC
    go_wp2_with fail
    go_ret
    exact EX.out

theorem rdr_one {W : World} {g C : Nat} {vt : Value} {l : List L.Nd} (hg : W.heap[g]? = some (.cells #[vt] 23 (0, 0))) (hC : g < C) (hr : Rd W C vt l) : RdR W C (.slice (some ⟨g, 0, none⟩) 1 1) [(vt, l)] := by
  refine ⟨⟨_, 1, rfl, by simp, by unfold maxLen; omega, by simp, fun _ => ⟨g, 0, rfl, hC, fun i hi => ?_⟩⟩, fun t ht => ?_⟩
  · have : i = 0 := by simp at hi; omega
    subst this
    exact Lib.cell_of_heap hg 0
  · rw [List.mem_singleton.1 ht]; exact hr

set_option maxHeartbeats 4000000 in
set_option maxRecDepth 100000 in
theorem kidsOf_any (x : L.Nd) (kf : L.Fo) (hok : (L.Fo.cons x kf .nil).ok = true) (hl : (x :: kf.flat).length ≤ 10000) (v : Value) (w : World) (hx : Rd w w.heap.size v (x :: kf.flat)) :
    Calls Try.prog 16 #[v] w fun e w' => ∃ ts, ts.map (·.2) = kf.rows ∧ MergePost ts w e w' := by
  have HX := hid hx
  have hok2 := hok
  simp only [L.Fo.ok, Bool.and_eq_true, decide_eq_true_eq] at hok2
  obtain ⟨⟨⟨⟨hnum, hmany⟩, -⟩, hkok⟩, -⟩ := hok2
  have hb50 := L.many_of_numbered hnum
  obtain ⟨l, hlf⟩ : ∃ l, x :: kf.flat = l := ⟨_, rfl⟩
  have hF : Few l := ⟨by rw [← hlf]; omega, fun y hy => L.few_ok _ hok y (by rw [← hlf] at hy; simpa [L.Fo.flat] using hy)⟩
  have hp : 0 < l.length := by rw [← hlf]; simp
  have hl0 : l[0] = x := by simp [← hlf]
  have hd1 : l.drop 1 = kf.flat ++ [] := by rw [← hlf]; simp
  have hK := kids_any l hF v 0 hp w (by rw [hlf] at hx; exact hx)
  rw [hl0, hmany, Int.toNat_natCast] at hK
  have HKD := hid (L.kd_kids l [] kf 1 hkok hd1)
  rw [show (0 + 1) = 1 from rfl] at hK
  obtain ⟨ps, hps⟩ : ∃ ps, L.kidsL l kf.count 1 = ps := ⟨_, rfl⟩
  rw [hps] at hK HKD
  have HK := hid hK
  have HF := hid hF
  have HOK := hid hkok
  have hpsl : ps.length ≤ 50 := by
    have := L.kidsL_length_le l kf.count 1
    rw [hps] at this
    omega
  rw [hlf] at HX hl
  obtain ⟨A, cap, rfl, hl1, hl2, -, hcx⟩ := HX.out
  unfold maxLen at hl2
  obtain ⟨b, o, rfl, hb, -⟩ := hcx (by rintro rfl; simp at hp)
  clear hx hok hnum hmany hkok hb50 hlf hF hl0 hd1 hK hps hcx
  go_enter Try.func16, Try.ntmps16
  go_wp2_with fail
  refine (HK.out).mono ?_
  rintro e w1 ⟨vk, rfl, hO1, hb1⟩
  have B1 := hid hb1
  have O1 := hid hO1
  obtain ⟨Ak, ck, rfl, -⟩ := hO1.rd
  clear hb1 hO1 HK
  go_wp2_with fail
  go_loopw [3, 9] (fun v3 v9 wr => ∃ (i : Nat) (ts : List VT) (po : L.Fo), v9 = .int .i64 i ∧ i ≤ ps.length ∧ Hid (L.Kd l [] (ps.drop i) po) ∧ Hid (po.ok = true) ∧ Hid (OwnV w1.heap.size v3 ts wr) ∧ Hid (∀ t ∈ ts, Rd w w.heap.size t.1 t.2) ∧ Hid (Below w1.heap.size w1 wr) ∧ Hid (ts.map (·.2) ++ po.rows = kf.rows) ∧ Hid (ts.length = i)) (fun _ v9 _ => ps.length - (intOf v9).toNat)
  case atStart => exact ⟨0, [], kf, rfl, by omega, HKD, HOK, hid (World.ownsRow_nil _ _ _ 1), hid (by simp), hid (Below.refl _ _), hid rfl, hid rfl⟩
  case round =>
    obtain ⟨i, ts, po, rfl, hi, hD, hP, hO, hR, hB, hE, hL⟩ := hrel
    by_cases hlt : i < ps.length
    · have hd := hD.out
      rw [List.drop_eq_getElem_cons hlt] at hd
      obtain ⟨A', c', hv', hki⟩ := (O1.out.below (B1.out.trans (hB.out.mono B1.out.size) |> fun _ => hB.out)).rd
      injection hv' with e1 _ e2
      subst e1 e2
      obtain ⟨gk, rfl, hgk, hki⟩ := hki (by intro e; rw [e] at hlt; simp at hlt)
      have k0 := hki i hlt
      cases po with
      | nil => cases hd
      | cons y ys po =>
        obtain ⟨hdq, hd2⟩ : l.drop ps[i] = (L.Fo.cons y ys po).flat ++ [] ∧ L.Kd l [] (ps.drop (i + 1)) po := by
          cases hd with
          | cons a b => exact ⟨a, b⟩
        have he := L.eat_row hdq hP.out
        obtain ⟨hq, -, hy1, -⟩ := L.drop_row hdq
        have hw1 := B1.out.size
        have hwr := hB.out.size
        have hBw : Below w.heap.size w wr := B1.out.trans (hB.out.mono hw1)
        have HBW := hid hBw
        have HE0 := hid (end_any l HF.out (.slice (some ⟨b, o, none⟩) l.length cap) ps[i] hq wr ((HX.out.below hBw).mono hBw.size))
        rw [he] at HE0
        have hye : ps[i] + (ys.flat.length + 1) ≤ l.length := by
          have := congrArg List.length hdq
          simp [L.Fo.flat] at this
          omega
        have hsub : Rd w w.heap.size (.slice (some ⟨b, o + ps[i] * 3, none⟩) (ys.flat.length + 1) (cap - ps[i])) (y :: ys.flat) := by
          have := HX.out.sub (p := ps[i]) (e := ys.flat.length + 1) hye (by omega) rfl
          have e : (l.drop ps[i]).take (ys.flat.length + 1) = y :: ys.flat := by
            rw [hdq]
            simp [L.Fo.flat]
          rwa [e] at this
        have HSUB := hid hsub
        have HD2 := hid hd2
        have HP2 := hid (show po.ok = true by have := hP.out; simp only [L.Fo.ok, Bool.and_eq_true] at this; exact this.2)
        have HE2 := hid (show (y :: ys.flat) :: po.rows = (L.Fo.cons y ys po).rows from rfl)
        obtain ⟨m, hm⟩ : ∃ m, m = ys.flat.length + 1 := ⟨_, rfl⟩
        rw [← hm] at HSUB HE0 hye
        have hm0 : 0 < m := by omega
        clear hd hki hdq hd2 he hy1 hBw hsub hm hD hP
        generalize ps[i] = q at *
        go_wp2_with fail
        refine (HE0.out).mono ?_
        rintro e w2 ⟨rfl, hb2⟩
        have B2 := hid (hB.out.trans (hb2.mono hwr))
        have hs2 := hb2.size
        have BL : Below w2.heap.size w2 (w2.alloc (.cells #[.slice (some ⟨b, o + q * 3, none⟩) m (cap - q)] 23)) := below_new _
        have OV := hid ((hO.out.below hb2).below BL)
        have B3 := hid (B2.out.trans (BL.mono (by omega)))
        have SB := hid (rdr_one (C := (w2.alloc (.cells #[.slice (some ⟨b, o + q * 3, none⟩) m (cap - q)] 23)).heap.size) (heap_alloc_new w2 (.cells #[.slice (some ⟨b, o + q * 3, none⟩) m (cap - q)] 23)) (by simp) ((HSUB.out.low (HBW.out.trans ((hb2.mono (by omega)).trans (BL.mono (by omega))))).mono (by simp; omega)))
        clear hb2 BL HE0 k0
        have hm1 : (q : Int) ≤ ((q + m : Nat) : Int) := by omega
        have hm2 : ((q + m : Nat) : Int) ≤ (cap : Int) := by omega
        go_wp2_with (at_builtin; refine wpList_appR rfl (.tmp 13) (.tmp 20) rfl w1.heap.size _ _ ts _ rfl OV.out rfl SB.out (by have := hL.out; simp; omega) (by simp; omega) ?_)
        intro v5 w5 hO5 hg5
        have O5 := hid hO5
        have B5 := hid (B3.out.grown hg5 (by simp; omega) (fun k hk => (World.ownsRow.lt hO.out k hk).1))
        clear hO5 hg5
        go_wp2_with fail
        go_roundw
        case rel =>
          refine ⟨i + 1, _, po, by go_num, by omega, HD2, HP2, O5, hid (fun t ht => ?_), B5, hid ?_, hid (by have := hL.out; simp; omega)⟩
          · rcases List.mem_append.1 ht with ht | ht
            · exact hR.out t ht
            · rw [List.mem_singleton.1 ht]; exact HSUB.out
          · rw [← hE.out, ← HE2.out]; simp
        case measure => simp [intOf]; omega
    · have hie : i = ps.length := by omega
      have hd := hD.out
      rw [hie, List.drop_length] at hd
      have EX : Hid (∃ ts, ts.map (·.2) = kf.rows ∧ MergePost ts w (.returned u3) wr) := hid (by
        cases hd
        have hbe := B1.out.trans (hB.out.mono B1.out.size)
        refine ⟨ts, by rw [← hE.out]; simp [L.Fo.rows], u3, rfl, hO.out.rdr (C := w.heap.size) (fun t ht => (hR.out t ht).low hbe) hbe.size, hbe⟩)
      clear hd hD hO hR hB hE hL
      subst hie
      go_wp2_with fail
      go_ret
      exact EX.out
end Go.Proofs.Ytkkigdbinnfbfaa
