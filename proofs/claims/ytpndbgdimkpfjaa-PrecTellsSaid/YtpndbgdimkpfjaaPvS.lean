/-
  The closure of prec.Meet: what it stands on, and its walk. Conditions: slices that read as nodes, at most 20000 each.
-/
import Derived.Test.YtpndbgdimkpfjaaPvA
import Derived.Test.YtpndbgdimkpfjaaM7
import Derived.Deep.CutRange
import Derived.Deep.RegionLaw
import Derived.StillTailTactics
namespace Go.Proofs.Ytpndbgdimkpfjaa
open Go.RowKit Go.Sort

/-- An append to a row of the call's own, as one step of a region that draws. -/
theorem step_append_own {P : Program} {ops : Array Oper} {w : World} {o : Oper} {a : Act} {K : Act → World → Prop} {Q : Exit → Act → World → Prop} {E : Prop} (hg : o.guard = none) (s x : Operand) (t : TypeId)
    (ho : o.op = .call { callee := .builtin .append, args := #[s, x], argTypes := #[t, t] })
    (base : Nat) (e : TypeId) (i : TypeInfo) (z : Value) (size bytes : Nat) (ht : P.underlying t = some (.slice e)) (hi : P.info? e = some i) (hz : i.zero = some z)
    (hsize : i.size = size) (hby : i.bytes = bytes) (hzs : z.cells.size = size) (hsz : 0 < size)
    (v : Value) (n : Nat) (xs : List Value) (hs : a.eval s = v) (hown : w.ownsRow base e size v n xs)
    (ad : Addr) (m c : Nat) (news : List Value) (hx : a.eval x = .slice (some ad) m c) (hl : news.length = m * size) (hnews : ∀ j u, news[j]? = some u → w.cell? (ad.add j) = some u) (h1 : ∀ u ∈ news, u.oneCell' = true)
    (h63 : n + m ≤ maxLen) (hbytes : (n + m) * bytes ≤ 140737488355328) (hbase : base ≤ w.heap.size)
    (h : ∀ v' w', w'.ownsRow base e size v' (n + m) (xs ++ news) → w.grownBy w' v.ownBlock → (v' = .slice none 0 0 ↔ v = .slice none 0 0 ∧ m = 0) → K (a.put o.dst v') w') :
    if Region.wanted o (yielded ops a.tmps) = true then Oper.wp P o a w K Q else E := by
  have hw : Region.wanted o (yielded ops a.tmps) = true := by simp [Region.wanted, hg]
  rw [if_pos hw]
  exact wp_append_own w s x t ho base e i z size bytes ht hi hz hsize hby hzs hsz v n xs hs hown ad m c news hx hl hnews h1 h63 hbytes hbase h

theorem set_grown (w : World) (T : Nat) (v : Value) : w.grownBy (w.setCell ⟨T, 0, none⟩ v) (some T) :=
  ⟨rfl, rfl, rfl, by simp, fun i _ hn => heap_setCell_other w ⟨T, 0, none⟩ i _ (fun h => hn (by rw [h]))⟩

/-- What Meet's closure stands on: the boxes of both types, of the row that is made, of the first node that is not in it. -/
structure MSt (E0 B Ab Bb Tb Rb : Nat) (la lb : List L.Nd) (va vb vt : Value) (lt : List L.Nd) (rest : Nat) (w : World) : Prop where
  a : w.heap[Ab]? = some (.cells #[va] 23 (0, 0))
  b : w.heap[Bb]? = some (.cells #[vb] 23 (0, 0))
  t : w.heap[Tb]? = some (.cells #[vt] 23 (0, 0))
  r : w.heap[Rb]? = some (.cells #[.int .i64 (rest : Int)] 3 (0, 0))
  own : Own B vt lt w
  ra : Rd w E0 va la
  rb : Rd w E0 vb lb

/-- The boxes lie apart. -/
structure Apart (E0 B Ab Bb Tb Rb : Nat) : Prop where
  a : E0 ≤ Ab ∧ Ab < B
  b : E0 ≤ Bb ∧ Bb < B
  t : E0 ≤ Tb ∧ Tb < B
  r : E0 ≤ Rb ∧ Rb < B
  at_ : Ab ≠ Tb
  ar : Ab ≠ Rb
  bt : Bb ≠ Tb
  br : Bb ≠ Rb
  tr : Tb ≠ Rb

/-- What may change: the row, its box, the number's box. -/
def Fr (E0 B Tb Rb : Nat) (w w' : World) : Prop := Below E0 w w' ∧ ∀ k, k < B → k ≠ Tb → k ≠ Rb → w'.heap[k]? = w.heap[k]?

theorem Fr.trans {E0 B Tb Rb : Nat} {a b c : World} (h : Fr E0 B Tb Rb a b) (k : Fr E0 B Tb Rb b c) : Fr E0 B Tb Rb a c :=
  ⟨h.1.trans k.1, fun i h1 h2 h3 => (k.2 i h1 h2 h3).trans (h.2 i h1 h2 h3)⟩
theorem Fr.of_below {E0 B Tb Rb : Nat} {a b : World} (h : Below a.heap.size a b) (hB : B ≤ a.heap.size) (hL : E0 ≤ B) : Fr E0 B Tb Rb a b :=
  ⟨h.mono (Nat.le_trans hL hB), fun k hk _ _ => h.block k (Nat.lt_of_lt_of_le hk hB)⟩

section
variable {E0 B Ab Bb Tb Rb : Nat} {la lb : List L.Nd} {va vb vt : Value} {lt : List L.Nd} {rest : Nat} {w : World}

theorem MSt.below {w' : World} (h : MSt E0 B Ab Bb Tb Rb la lb va vb vt lt rest w) (hb : Below w.heap.size w w') : MSt E0 B Ab Bb Tb Rb la lb va vb vt lt rest w' :=
  ⟨(hb.block _ (heap_lt h.a)).trans h.a, (hb.block _ (heap_lt h.b)).trans h.b, (hb.block _ (heap_lt h.t)).trans h.t, (hb.block _ (heap_lt h.r)).trans h.r, h.own.below hb, h.ra.below hb, h.rb.below hb⟩

/-- A row that has grown is laid into its box. -/
theorem MSt.put (h : MSt E0 B Ab Bb Tb Rb la lb va vb vt lt rest w) (P : Apart E0 B Ab Bb Tb Rb) (hB : B ≤ w.heap.size) {v2 : Value} {l2 : List L.Nd} {w2 : World} (ho : Own B v2 l2 w2) (hg : w.grownBy w2 vt.ownBlock) :
    MSt E0 B Ab Bb Tb Rb la lb va vb v2 l2 rest (w2.setCell ⟨Tb, 0, none⟩ v2) ∧ Fr E0 B Tb Rb w (w2.setCell ⟨Tb, 0, none⟩ v2) ∧ w2.cell? ⟨Tb, 0, none⟩ = some vt ∧ w2.frozen? ⟨Tb, 0, none⟩ = false ∧ w.heap.size ≤ (w2.setCell ⟨Tb, 0, none⟩ v2).heap.size := by
  have hlt : ∀ k, vt.ownBlock = some k → B ≤ k := fun k hk => (Own.lt h.own k hk).1
  have hk2 : ∀ k, k < B → k < w.heap.size → w2.heap[k]? = w.heap[k]? := fun k hk hw => hg.block k hw (fun e => by have := hlt k e.symm; omega)
  have hs := set_grown w2 Tb v2
  have hk3 : ∀ k, k < B → k < w.heap.size → k ≠ Tb → (w2.setCell ⟨Tb, 0, none⟩ v2).heap[k]? = w.heap[k]? := fun k hk hw hn => (hs.block k (Nat.lt_of_lt_of_le hw hg.size) (fun e => hn (by injection e))).trans (hk2 k hk hw)
  have ht2 := (hk2 Tb P.t.2 (heap_lt h.t)).trans h.t
  have hz : w.heap.size ≤ (w2.setCell ⟨Tb, 0, none⟩ v2).heap.size := Nat.le_trans hg.size hs.size
  have hkL : ∀ k, k < E0 → (w2.setCell ⟨Tb, 0, none⟩ v2).heap[k]? = w.heap[k]? := fun k hk => hk3 k (by have := P.t; omega) (by have := P.t; have := heap_lt h.t; omega) (by have := P.t; omega)
  have hbL : Below E0 w (w2.setCell ⟨Tb, 0, none⟩ v2) := ⟨hs.os.trans hg.os, hs.tape.trans hg.tape, hs.output.trans hg.output, hz, hkL⟩
  refine ⟨⟨(hk3 Ab P.a.2 (heap_lt h.a) P.at_).trans h.a, (hk3 Bb P.b.2 (heap_lt h.b) P.bt).trans h.b, heap_setCell_same w2 Tb 0 _ _ _ ht2, (hk3 Rb P.r.2 (heap_lt h.r) (Ne.symm P.tr)).trans h.r, ho.kept hs ?_, h.ra.low hbL, h.rb.low hbL⟩, ⟨hbL, fun k h1 h2 _ => ?_⟩, Lib.cell_of_heap ht2 0, Lib.frozen_of_heap ht2 0, hz⟩
  · cases hv : v2.ownBlock with
    | none => exact Or.inl rfl
    | some k =>
      right
      intro e
      injection e with e
      have := (Own.lt ho k hv).1
      have := P.t.2
      omega
  · exact hk3 k h1 (Nat.lt_of_lt_of_le h1 hB) h2
theorem MSt.num (h : MSt E0 B Ab Bb Tb Rb la lb va vb vt lt rest w) (P : Apart E0 B Ab Bb Tb Rb) (hB : B ≤ w.heap.size) (i : Nat) :
    MSt E0 B Ab Bb Tb Rb la lb va vb vt lt i (w.setCell ⟨Rb, 0, none⟩ (.int .i64 (i : Int))) ∧ Fr E0 B Tb Rb w (w.setCell ⟨Rb, 0, none⟩ (.int .i64 (i : Int))) ∧ w.heap.size ≤ (w.setCell ⟨Rb, 0, none⟩ (.int .i64 (i : Int))).heap.size := by
  have hs := set_grown w Rb (.int .i64 (i : Int))
  have hk : ∀ k, k < w.heap.size → k ≠ Rb → (w.setCell ⟨Rb, 0, none⟩ (.int .i64 (i : Int))).heap[k]? = w.heap[k]? := fun k hk hn => hs.block k hk (fun e => hn (by injection e))
  have hb : Below E0 w (w.setCell ⟨Rb, 0, none⟩ (.int .i64 (i : Int))) := ⟨hs.os, hs.tape, hs.output, hs.size, fun k hk1 => hk k (by have := P.t; omega) (by have := P.r; omega)⟩
  refine ⟨⟨(hk Ab (heap_lt h.a) P.ar).trans h.a, (hk Bb (heap_lt h.b) P.br).trans h.b, (hk Tb (heap_lt h.t) P.tr).trans h.t, heap_setCell_same w Rb 0 _ _ _ h.r, h.own.kept hs ?_, h.ra.low hb, h.rb.low hb⟩, ⟨hb, fun k h1 _ h3 => hk k (Nat.lt_of_lt_of_le h1 hB) h3⟩, hs.size⟩
  cases hv : vt.ownBlock with
  | none => exact Or.inl rfl
  | some k =>
    right
    intro e
    injection e with e
    have := (Own.lt h.own k hv).1
    have := P.r.2
    omega
end

/-- A piece of a slice that reads as nodes. -/
theorem Rd.cut {w : World} {B b o n0 cap p n : Nat} {l : List L.Nd} (h : Rd w B (.slice (some ⟨b, o, none⟩) n0 cap) l) (hp : p + n ≤ l.length) :
    Rd w B (.slice (some ⟨b, o + p * 3, none⟩) n (cap - p)) ((l.drop p).take n) := by
  have hlen : n0 = l.length := by
    obtain ⟨A, c, hv, -⟩ := h
    injection hv
  subst hlen
  by_cases h0 : 0 < n
  · exact h.sub hp h0 rfl
  · obtain rfl : n = 0 := by omega
    obtain ⟨A, c, hv, h1, h2, _, hb⟩ := h
    injection hv with _ _ hv
    subst hv
    exact ⟨some ⟨b, o + p * 3, none⟩, cap - p, by simp, by simp, by omega, fun e => by simp at e, fun e => by simp at e⟩

theorem Rd.srcs {w : World} {B n c : Nat} {a : Addr} {l : List L.Nd} (h : Rd w B (.slice (some a) n c) l) : ∀ j u, (cellsN l)[j]? = some u → w.cell? (a.add j) = some u := by
  rcases h.src with ⟨h1, -⟩ | ⟨a2, c2, h1, h2⟩
  · simp at h1
  · injection h1 with e1
    injection e1 with e1
    subst e1
    exact h2

set_option maxHeartbeats 2000000 in
set_option maxRecDepth 100000 in
theorem meet1_kn {E0 B Ab Bb Tb Rb : Nat} (P : Apart E0 B Ab Bb Tb Rb) {la lb : List L.Nd} (hfa : Few la) (hfb : Few lb) {va vb vt : Value} {lt : List L.Nd} {rest : Nat} {w : World} (h : MSt E0 B Ab Bb Tb Rb la lb va vb vt lt rest w) (hB : B ≤ w.heap.size) (i j : Nat) (hr : rest ≤ i) (hi : i < la.length) (hj : j < lb.length) (hk : lb[j].kind ≠ 0) (hl : lt.length ≤ 60000) :
    Calls Try.prog 34 #[.int .i64 (i : Int), .int .i64 (j : Int), .pointer (some ⟨Bb, 0, none⟩), .pointer (some ⟨Tb, 0, none⟩), .pointer (some ⟨Ab, 0, none⟩), .pointer (some ⟨Rb, 0, none⟩)] w fun e w' =>
      e = .returned (.bool true) ∧ (∃ v2, MSt E0 B Ab Bb Tb Rb la lb va vb v2 (lt ++ (la.drop rest).take (i - rest) ++ (lb.drop j).take (L.eat 1 (lb.drop j))) (i + 1) w') ∧ Fr E0 B Tb Rb w w' ∧ w.heap.size ≤ w'.heap.size := by
  obtain ⟨i0, hi0, hz0, hz1, hz2⟩ := info_parts infoNode
  have HM := hid h
  obtain ⟨A, cap, rfl, hl1, hl2, -, hcx⟩ := h.ra
  obtain ⟨A2, cap2, rfl, hm1, hm2, -, hcy⟩ := h.rb
  unfold maxLen at hl2 hm2
  obtain ⟨b1, o1, rfl, hb1, -⟩ := hcx (by rintro rfl; simp at hi)
  obtain ⟨b2, o2, rfl, hb2, hcy⟩ := hcy (by rintro rfl; simp at hj)
  obtain ⟨y0, y1, y2⟩ := hcy j hj
  have cB : w.cell? ⟨Bb, 0, none⟩ = some (.slice (some ⟨b2, o2, none⟩) lb.length cap2) := Lib.cell_of_heap h.b 0
  have hln := hfa.1
  have hmn := hfb.1
  have HFB := hid hfb
  obtain ⟨l2, hl2e⟩ : ∃ l2, lt ++ (la.drop rest).take (i - rest) = l2 := ⟨_, rfl⟩
  have hl2n : l2.length ≤ 100000 := by rw [← hl2e]; simp; omega
  have HL2 := hid hl2e
  rw [hl2e]
  have he1 : 0 < L.eat 1 (lb.drop j) := L.eat_pos (by omega) (by intro h; have := congrArg List.length h; simp at this; omega)
  have he2 := L.eat_le 1 (lb.drop j)
  rw [List.length_drop] at he2
  obtain ⟨eN, heN⟩ : ∃ eN : Nat, j + L.eat 1 (lb.drop j) = eN := ⟨_, rfl⟩
  have HEN := hid heN
  have heq : L.eat 1 (lb.drop j) = eN - j := by omega
  rw [heq]
  have hen1 : j < eN := by omega
  have hen2 : eN ≤ lb.length := by omega
  have HNL : Hid (((lb.drop j).take (eN - j)).length = eN - j) := hid (by simp; omega)
  obtain ⟨l3, hl3e⟩ : ∃ l3, l2 ++ (lb.drop j).take (eN - j) = l3 := ⟨_, rfl⟩
  have HL3 := hid hl3e
  rw [hl3e]
  clear heN heq he1 he2 hl3e
  clear hcx hcy h hl2e
  generalize lb[j] = Y at *
  obtain ⟨yk, ys, yn⟩ := Y
  simp only at hk y0 y1 y2
  go_enter Try.func34, Try.ntmps34
  go_wp2_with fail
  refine (unk_no hk yn ys _).mono ?_
  rintro e w1 ⟨rfl, h1⟩
  have M1 := hid (HM.out.below h1)
  have F1 := hid (Fr.of_below (E0 := E0) (B := B) (Tb := Tb) (Rb := Rb) h1 hB (by have := P.t; omega))
  have hB1 : B ≤ w1.heap.size := Nat.le_trans hB h1.size
  have hs1 := h1.size
  clear h1 y0 y1 y2 cB HM
  have ca : w1.cell? ⟨Ab, 0, none⟩ = some (.slice (some ⟨b1, o1, none⟩) la.length cap) := Lib.cell_of_heap M1.out.a 0
  have ct : w1.cell? ⟨Tb, 0, none⟩ = some vt := Lib.cell_of_heap M1.out.t 0
  have cr : w1.cell? ⟨Rb, 0, none⟩ = some (.int .i64 (rest : Int)) := Lib.cell_of_heap M1.out.r 0
  go_upto_region 2 with fail
  go_cut [] from 15 to 30 (fun wx => ∃ v2, Hid (MSt E0 B Ab Bb Tb Rb la lb (.slice (some ⟨b1, o1, none⟩) la.length cap) (.slice (some ⟨b2, o2, none⟩) lb.length cap2) v2 l2 rest wx) ∧ Hid (Fr E0 B Tb Rb w wx) ∧ w.heap.size ≤ wx.heap.size)
  case first =>
    obtain ⟨wd, hwd⟩ : ∃ wd, wd = w1.drew := ⟨_, rfl⟩
    have hBd : Below w1.heap.size w1 wd := by rw [hwd]; exact (Below.refl _ _).drew
    have MD := hid (M1.out.below hBd)
    have hsd : w1.heap.size ≤ wd.heap.size := hBd.size
    have FD := hid (F1.out.trans (Fr.of_below (E0 := E0) (B := B) (Tb := Tb) (Rb := Rb) hBd hB1 (by have := P.t; omega)))
    have RD := hid ((MD.out.ra.mono (show E0 ≤ wd.heap.size by have := P.t; omega)).cut (p := rest) (n := i - rest) (by omega))
    have da : wd.cell? ⟨Ab, 0, none⟩ = some (.slice (some ⟨b1, o1, none⟩) la.length cap) := Lib.cell_of_heap MD.out.a 0
    have dt : wd.cell? ⟨Tb, 0, none⟩ = some vt := Lib.cell_of_heap MD.out.t 0
    have dr : wd.cell? ⟨Rb, 0, none⟩ = some (.int .i64 (rest : Int)) := Lib.cell_of_heap MD.out.r 0
    have hle : (lt.length + ((la.drop rest).take (i - rest)).length) ≤ 4000000 := by simp; omega
    have hBd2 : B ≤ wd.heap.size := by omega
    have hic : i ≤ cap := by omega
    have hcr : ¬ cap = rest := by omega
    refine wp_region_still_tail 5 (by kernel_rfl) (by kernel_rfl) ?_
    simp only [List.take_succ_cons, List.take_zero, List.drop_succ_cons, List.drop_zero]
    change wpStill _ _ (World.drew _) _ _ _
    rw [← hwd]
    have HWD := hid hwd
    clear ca ct cr hBd hwd
    repeat still_step
    refine wpStill_nil ?_
    change wpList _ _ _ _ _ (World.drew _)
    rw [← HWD.out]
    refine wpList_app2 rfl (.tmp 15) (.tmp 19) rfl rfl B _ _ lt ((la.drop rest).take (i - rest)) rfl MD.out.own rfl RD.out hle hBd2 ?_
    intro v2 w2 ho hg
    rw [HL2.out] at ho
    obtain ⟨m1, m2, m3, m4, m5⟩ := MD.out.put P hBd2 ho hg
    obtain ⟨A3, c3, rfl, -⟩ := ho.rd
    have HM1 := hid m1
    have HM2 := hid (FD.out.trans m2)
    have HM5 := hid (Nat.le_trans (show w.heap.size ≤ wd.heap.size by omega) m5)
    clear m1 m2 m5 ho hg da dt dr
    go_wp2_with fail
    go_meet
    exact ⟨_, HM1, HM2, HM5.out⟩
  case rest =>
    obtain ⟨wq, hwq⟩ : ∃ wq, wq = wc := ⟨_, rfl⟩
    subst hwq
    obtain ⟨v2, M2, F2, hs2⟩ := hcut
    clear ca ct cr
    have hB2 : B ≤ wq.heap.size := by omega
    have ct : wq.cell? ⟨Tb, 0, none⟩ = some v2 := Lib.cell_of_heap M2.out.t 0
    have cb : wq.cell? ⟨Bb, 0, none⟩ = some (.slice (some ⟨b2, o2, none⟩) lb.length cap2) := Lib.cell_of_heap M2.out.b 0
    go_wp2_with fail
    go_cut [] from 21 to 30 (fun wx => ∃ v3, Hid (MSt E0 B Ab Bb Tb Rb la lb (.slice (some ⟨b1, o1, none⟩) la.length cap) (.slice (some ⟨b2, o2, none⟩) lb.length cap2) v3 l3 rest wx) ∧ Hid (Fr E0 B Tb Rb w wx) ∧ w.heap.size ≤ wx.heap.size)
    case first =>
      have hE : ∀ W (hW : Below wq.heap.size wq W), Calls Try.prog 36 #[.slice (some ⟨b2, o2, none⟩) lb.length cap2, .int .i64 (j : Int)] W fun e W' => e = .returned (.int .i64 (eN : Int)) ∧ Below W.heap.size W W' := fun W hW => by
        have := end_any lb HFB.out (.slice (some ⟨b2, o2, none⟩) lb.length cap2) j hj W ((M2.out.rb.low (hW.mono (show E0 ≤ wq.heap.size by have := P.t; omega))).mono (Nat.le_trans (show E0 ≤ wq.heap.size by have := P.t; omega) hW.size))
        rw [HEN.out] at this
        exact this
      have HE := hid hE
      have hec : eN ≤ cap2 := by omega
      have hcj : ¬ cap2 = j := by omega
      have hje : j ≤ eN := by omega
      clear hE
      go_region_law (first
        | (go_simp; go_at_call 36; refine (HE.out _ (below_drewN (Below.refl _ _) 1)).mono ?_; rintro e w4 ⟨rfl, hb4⟩
           have hbq := (below_drewN (Below.refl wq.heap.size wq) 1).trans hb4
           have M4 := hid (M2.out.below hbq)
           have F4 := hid (F2.out.trans (Fr.of_below (E0 := E0) (B := B) (Tb := Tb) (Rb := Rb) hbq hB2 (by have := P.t; omega)))
           have hs4 := hbq.size
           have ct4 : w4.cell? ⟨Tb, 0, none⟩ = some v2 := Lib.cell_of_heap M4.out.t 0
           have cb4 : w4.cell? ⟨Bb, 0, none⟩ = some (.slice (some ⟨b2, o2, none⟩) lb.length cap2) := Lib.cell_of_heap M4.out.b 0
           have hsr4 := hid ((M4.out.rb.cut (p := j) (n := eN - j) (by omega)).srcs)
           have hcl4 : Hid ((cellsN ((lb.drop j).take (eN - j))).length = (eN - j) * 3) := hid (by rw [cellsN_len, HNL.out])
           have h63 : Hid (l2.length + (eN - j) ≤ maxLen) := hid (by unfold maxLen; omega)
           have hby : Hid ((l2.length + (eN - j)) * 32 ≤ 140737488355328) := hid (by omega)
           have hB4 : Hid (B ≤ w4.heap.size) := hid (by omega)
           clear hb4 hbq)
        | (refine step_append_own rfl (.tmp 21) (.tmp 27) 23 rfl B 39 i0 (.agg #[.int .i64 0, .string ⟨#[]⟩, .int .i64 0]) 3 32 Try.underlying23 hi0 hz0 hz1 hz2 rfl (by decide) v2 l2.length (cellsN l2) rfl M4.out.own ⟨b2, o2 + j * 3, none⟩ (eN - j) (cap2 - j) (cellsN ((lb.drop j).take (eN - j))) rfl hcl4.out hsr4.out (cellsN_one _) h63.out hby.out hB4.out ?_
           intro v5 w5 hown hgrow hnil
           have ho5 : Own B v5 l3 w5 := by rw [← HL3.out]; exact Own.append (by rw [HNL.out]; exact hown)
           obtain ⟨m1, m2, m3, m4, m5⟩ := M4.out.put P hB4.out ho5 hgrow
           obtain ⟨A5, c5, rfl, -⟩ := ho5.rd
           have HM1 := hid m1
           have HM2 := hid (F4.out.trans m2)
           have HM5 := hid (Nat.le_trans (show w.heap.size ≤ w4.heap.size by omega) m5)
           clear m1 m2 m5 hown hgrow hnil ct4 cb4))
      all_goals go_wp2_with fail
      all_goals go_meet
      all_goals exact ⟨_, HM1, HM2, HM5.out⟩
    case rest =>
      obtain ⟨v3, M3, F3, hs3⟩ := hcut
      clear ct cb
      have hB3 : B ≤ wc.heap.size := by omega
      have cr : wc.cell? ⟨Rb, 0, none⟩ = some (.int .i64 (rest : Int)) := Lib.cell_of_heap M3.out.r 0
      have cf : wc.frozen? ⟨Rb, 0, none⟩ = false := Lib.frozen_of_heap M3.out.r 0
      obtain ⟨n1, n2, n3⟩ := M3.out.num P hB3 (i + 1)
      have N1 := hid n1
      have N2 := hid (F3.out.trans n2)
      have N3 := hid (Nat.le_trans hs3 n3)
      clear n1 n2 n3
      go_wp2
      go_ret
      exact ⟨rfl, ⟨v3, N1.out⟩, N2.out, N3.out⟩

end Go.Proofs.Ytpndbgdimkpfjaa
