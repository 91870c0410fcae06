/-
  The walk of ty.Row. Conditions: at most 200 labels of at most 2000000 bytes, at most 200 types, none empty, of at most 20000 nodes each.
-/
import Derived.Test.YtimlblbmfckeiaaDoorTyN
import Derived.Deep.RegionLaw
namespace Go.Proofs.YtimlblbmfckeiaaDoor
open Go.RowKit

/-- A slice of types that is read. -/
def RdT (w : World) (v : Value) (ts : List (Value × List L.Nd)) : Prop :=
  (∃ (A : Option Addr) (cap : Nat), v = .slice A ts.length cap ∧ (ts ≠ [] → ∃ b o, A = some ⟨b, o, none⟩ ∧ b < w.heap.size ∧ ∀ (i : Nat) (h : i < ts.length), w.cell? ⟨b, o + i, none⟩ = some ts[i].1)) ∧
  ∀ t ∈ ts, Rd w w.heap.size t.1 t.2

theorem RdT.below {w w' : World} {v : Value} {ts : List (Value × List L.Nd)} (h : RdT w v ts) (hb : Below w.heap.size w w') : RdT w' v ts := by
  obtain ⟨⟨A, cap, hv, hc⟩, hr⟩ := h
  refine ⟨⟨A, cap, hv, fun hn => ?_⟩, fun t ht => ((hr t ht).below hb).size⟩
  obtain ⟨b, o, ha, hlt, hx⟩ := hc hn
  refine ⟨b, o, ha, Nat.lt_of_lt_of_le hlt hb.size, fun i hi => ?_⟩
  rw [hb.cell (p := ⟨b, o + i, none⟩) hlt]
  exact hx i hi

theorem OwnI.more {B B' : Nat} {v : Value} {l : List Nat} {w : World} (h : OwnI B v l w) (hB : B' ≤ B) : OwnI B' v l w :=
  ⟨h.1, h.2.imp id fun ⟨g, cp, cur, h1, h2, h3⟩ => ⟨g, cp, cur, h1, Nat.le_trans hB h2, h3⟩⟩

/-- The nodes of the children of these numbers, each with its label. -/
def rowsL (ss : List ByteArray) (ts : List (Value × List L.Nd)) (ks : List Nat) : List L.Nd := ks.flatMap fun k => L.setName (ts.getD k (.nilFunc, [])).2 (ss.getD k ⟨#[]⟩)

/-- What Row tells. -/
def RowPost (kind : Int) (ss : List ByteArray) (ts : List (Value × List L.Nd)) (w : World) (e : Ending) (w' : World) : Prop :=
  Below w.heap.size w w' ∧
  ((L.isRow kind ss (ts.length : Int) = false ∧ e = .returned (.tuple #[.slice none 0 0, .int .i64 1])) ∨
   (L.isRow kind ss (ts.length : Int) = true ∧ ∃ ks : List Nat, ks.Perm (List.range ss.length) ∧ ks.Pairwise (fun i j => 0 ≤ Lib.compareBytes (ss.getD j ⟨#[]⟩).data.toList (ss.getD i ⟨#[]⟩).data.toList) ∧
     ((∃ j, 0 < j ∧ ∃ h : j < ks.length, ss.getD ks[j] ⟨#[]⟩ = ss.getD (ks[j - 1]'(by omega)) ⟨#[]⟩) ∧ e = .returned (.tuple #[.slice none 0 0, .int .i64 7]) ∨
      (∀ (j : Nat) (h : j < ks.length), 0 < j → ss.getD ks[j] ⟨#[]⟩ ≠ ss.getD (ks[j - 1]'(by omega)) ⟨#[]⟩) ∧ ∃ v', e = .returned (.tuple #[v', .int .i64 0]) ∧ Own w.heap.size v' (⟨kind, ⟨#[]⟩, (ts.length : Int)⟩ :: rowsL ss ts ks) w')))

theorem rowsL_len {ss : List ByteArray} {ts : List (Value × List L.Nd)} (h : ∀ t ∈ ts, t.2.length ≤ 20000) (ks : List Nat) : (rowsL ss ts ks).length ≤ ks.length * 20000 := by
  induction ks with
  | nil => simp [rowsL]
  | cons k ks ih =>
    have h1 : (ts.getD k (.nilFunc, [])).2.length ≤ 20000 := by
      by_cases hk : k < ts.length
      · have := h _ (List.getElem_mem hk)
        simpa [List.getD, hk] using this
      · simp [List.getD, Nat.le_of_not_lt hk]
    simp only [rowsL, List.flatMap_cons, List.length_append, List.length_cons, L.setName_length] at ih ⊢
    omega

theorem Own.slice {B : Nat} {v : Value} {l : List L.Nd} {w : World} (h : Own B v l w) (hn : l ≠ []) : ∃ g cap, v = .slice (some ⟨g, 0, none⟩) l.length cap ∧ ∀ j u, (cellsN l)[j]? = some u → w.cell? ((⟨g, 0, none⟩ : Addr).add j) = some u := by
  rcases h.rd.src with ⟨_, hz⟩ | ⟨a, cap, hv, hs⟩
  · exact absurd hz hn
  · rcases h.2 with ⟨hv2, _⟩ | ⟨g, cap2, cur, hv2, _⟩
    · rw [hv] at hv2; cases hv2
    · rw [hv] at hv2
      simp only [Value.slice.injEq, Option.some.injEq, true_and] at hv2
      obtain ⟨rfl, rfl⟩ := hv2
      exact ⟨g, cap, hv, hs⟩

theorem Own.heap {B : Nat} {v : Value} {l : List L.Nd} {w w' : World} (h : Own B v l w) (e : w'.heap = w.heap) : Own B v l w' := by
  unfold Own World.ownsRow at h ⊢
  rw [e]
  exact h
theorem OwnI.heap {B : Nat} {v : Value} {l : List Nat} {w w' : World} (h : OwnI B v l w) (e : w'.heap = w.heap) : OwnI B v l w' := by
  unfold OwnI World.ownsRow at h ⊢
  rw [e]
  exact h

/-- A row of numbers stays where a row of nodes grows. -/
theorem OwnI.aside {B : Nat} {v vo : Value} {l : List L.Nd} {ks : List Nat} {w w' : World} (h : OwnI B vo ks w) (ho : Own B v l w) (hg : w.grownBy w' v.ownBlock) : OwnI B vo ks w' := by
  unfold OwnI at h ⊢
  refine h.kept hg ?_
  rcases h.2 with ⟨hv, _⟩ | ⟨g, cap, cur, hv, _, hh, _⟩
  · left; rw [hv]; rfl
  · right
    rcases ho.2 with ⟨hv2, _⟩ | ⟨g2, cap2, cur2, hv2, _, hh2, _⟩
    · rw [hv, hv2]; simp [Value.ownBlock]
    · rw [hv, hv2]
      simp only [Value.ownBlock, ne_eq, Option.some.injEq]
      rintro rfl
      rw [hh] at hh2
      injection hh2 with hh2
      injection hh2 with _ h2
      exact absurd h2 (by decide)

theorem isRow_facts {kind n : Int} {ss : List ByteArray} (h : L.isRow kind ss n = true) : (ss.length : Int) = n ∧ n ≤ 50 := by
  simp only [L.isRow, Bool.and_eq_true, Bool.or_eq_true, decide_eq_true_eq] at h
  obtain ⟨h1, h2, h3, _⟩ := h
  refine ⟨h2, ?_⟩
  unfold L.numbered at h3
  rcases h1 with rfl | rfl <;> simp at h3 <;> omega

theorem Rd.heap {w w' : World} {B : Nat} {v : Value} {l : List L.Nd} (h : Rd w B v l) (e : w'.heap = w.heap) : Rd w' B v l := h.kept fun b _ _ => by rw [e]

/-- An append to a row of the call's own, as one step of a region that draws. -/
theorem step_append_own {P : Program} {ops : Array Oper} {w : World} {o : Oper} {a : Act} {K : Act → World → Prop} {Q : Exit → Act → World → Prop} {E : Prop} (hg : o.guard = none) (s x : Operand) (t : TypeId)
    (ho : o.op = .call { callee := .builtin .append, args := #[s, x], argTypes := #[t, t] })
    (base : Nat) (e : TypeId) (i : TypeInfo) (z : Value) (size bytes : Nat) (ht : P.underlying t = some (.slice e)) (hi : P.info? e = some i) (hz : i.zero = some z)
    (hsize : i.size = size) (hby : i.bytes = bytes) (hzs : z.cells.size = size) (hsz : 0 < size)
    (v : Value) (n : Nat) (xs : List Value) (hs : a.eval s = v) (hown : w.ownsRow base e size v n xs)
    (ad : Addr) (m c : Nat) (news : List Value) (hx : a.eval x = .slice (some ad) m c) (hl : news.length = m * size) (hnews : ∀ j u, news[j]? = some u → w.cell? (ad.add j) = some u) (h1 : ∀ u ∈ news, u.oneCell' = true)
    (h63 : n + m ≤ maxLen) (hbytes : (n + m) * bytes ≤ 140737488355328) (hbase : base ≤ w.heap.size)
    (h : ∀ v' w', w'.ownsRow base e size v' (n + m) (xs ++ news) → w.grownBy w' v.ownBlock → (v' = .slice none 0 0 ↔ v = .slice none 0 0 ∧ m = 0) → K (a.put o.dst v') w') :
    if Region.wanted o (yielded ops a.tmps) = true then Oper.wp P o a w K Q else E := by
  have hw : Region.wanted o (yielded ops a.tmps) = true := by simp [Region.wanted, hg]
  rw [if_pos hw]
  exact wp_append_own w s x t ho base e i z size bytes ht hi hz hsize hby hzs hsz v n xs hs hown ad m c news hx hl hnews h1 h63 hbytes hbase h

set_option maxHeartbeats 4000000 in
set_option maxRecDepth 100000 in
theorem row_any (kind : Int) (ss : List ByteArray) (ts : List (Value × List L.Nd)) (hsz : ∀ s ∈ ss, s.size ≤ 2000000) (hsn : ss.length ≤ 200) (htn : ts.length ≤ 200) (ht0 : ∀ t ∈ ts, t.2 ≠ []) (htl : ∀ t ∈ ts, t.2.length ≤ 20000)
    (vs vt : Value) (w : World) (hxs : RdS w w.heap.size vs ss) (hxt : RdT w vt ts) :
    Calls Tryd.prog 19 #[.int .i64 kind, vs, vt] w (RowPost kind ss ts w) := by
  obtain ⟨i0, hi, hz0, hz1, hz2⟩ := info_parts infoNode
  have HXS := hid hxs
  have HXT := hid hxt
  have HT0 := hid ht0
  have HTL := hid htl
  obtain ⟨A, cap, rfl, -⟩ := hxs
  obtain ⟨⟨A2, cap2, rfl, -⟩, -⟩ := hxt
  have HIR := hid (isRow_any kind (ts.length : Int) ss hsz (by omega) _ w HXS.out)
  clear hsz ht0 htl
  cases hir : L.isRow kind ss (ts.length : Int) with
  | false =>
    rw [hir] at HIR
    have HZ := hid hir
    clear hir
    go_enter Tryd.func19, Tryd.ntmps19
    go_wp2_with fail
    refine (HIR.out).mono ?_
    rintro e w1 ⟨rfl, hb1⟩
    go_wp2
    go_ret2
    exact ⟨hb1, Or.inl ⟨HZ.out, rfl⟩⟩
  | true =>
    rw [hir] at HIR
    have HZ := hid hir
    obtain ⟨hn1, hn2⟩ := isRow_facts hir
    have hn : ss.length = ts.length := by omega
    have HN := hid hn
    have hts : ts.length ≤ 50 := by omega
    clear hir hn1 hn2 hn
    go_enter Tryd.func19, Tryd.ntmps19
    go_wp2_with fail
    refine (HIR.out).mono ?_
    rintro e w1 ⟨rfl, hb1⟩
    have HSO := hid (sorted_any ss (by omega) _ (w1.alloc (.cells #[.int .i64 kind, .string ⟨#[]⟩, .int .i64 (ts.length : Int)] 44)) (HXS.out.below (hb1.trans ((below_new _).mono hb1.size))))
    go_wp2_with fail
    refine (HSO.out).mono ?_
    rintro e w2 ⟨vo, rfl, ks, hp, hs, hO, hb2⟩
    have hkl : ks.length = ss.length := by rw [hp.length_eq]; simp
    have hkr : ∀ (j : Nat) (h : j < ks.length), ks[j] < ss.length := fun j h => by
      have := hp.mem_iff.1 (List.getElem_mem h)
      simpa using this
    have HP := hid hp
    have HS := hid hs
    have HKR := hid hkr
    obtain ⟨Ao, capo, hvo, hoc⟩ := hO.rd
    subst hvo
    have HOC := hid hoc
    have hB2 : Below w.heap.size w w2 := (hb1.trans ((below_new _).mono hb1.size)).trans (hb2.mono (by have := hb1.size; simp; omega))
    have HT2 : Hid (Own w.heap.size (.slice (some ⟨w1.heap.size, 0, none⟩) 1 1) [⟨kind, ⟨#[]⟩, (ts.length : Int)⟩] w2) := hid ((lit_own w1 w.heap.size hb1.size kind (ts.length : Int) ⟨#[]⟩).below hb2)
    have HKL := hid hkl
    have HO2 := hid hO
    have hzw1 : w.heap.size ≤ w1.heap.size + 1 := by have := hb1.size; omega
    have hkl3 : ks.length ≤ 50 := by have := HN.out; omega
    clear hp hs hkr hO hoc hb2 hb1 hkl
    go_wp2
    go_loopw [8, 27] (fun v8 vi wr => ∃ k : Nat, vi = .int .i64 k ∧ k ≤ ks.length ∧ Own w.heap.size v8 (⟨kind, ⟨#[]⟩, (ts.length : Int)⟩ :: rowsL ss ts (ks.take k)) wr ∧ OwnI w.heap.size (.slice Ao ks.length capo) ks wr ∧ Below w.heap.size w wr ∧
      Hid (∀ (j : Nat) (h : j < ks.length), j < k → 0 < j → ss.getD ks[j] ⟨#[]⟩ ≠ ss.getD (ks[j - 1]'(by omega)) ⟨#[]⟩)) (fun _ vi _ => ks.length - (intOf vi).toNat)
    case atStart => exact ⟨0, rfl, by omega, HT2.out, HO2.out.more (by simp; omega), hB2, hid fun j h hj _ => by omega⟩
    case round =>
      obtain ⟨k, rfl, hk, hO, hOI, hB, hD⟩ := hrel
      by_cases hlt : k < ks.length
      · have hr1 := HKR.out k hlt
        obtain ⟨Ao', capo', hvo', hoc'⟩ := hOI.rd
        simp only [Value.slice.injEq, true_and] at hvo'
        obtain ⟨rfl, -⟩ := hvo'
        obtain ⟨go, rfl, hgo, hoc⟩ := hoc' (by rintro rfl; simp at hlt)
        have hss0 : ss ≠ [] := by rintro rfl; simp at hr1
        obtain ⟨b, o, hA, hb, hcx⟩ : ∃ b o, A = some ⟨b, o, none⟩ ∧ b < w.heap.size ∧ ∀ (i : Nat) (h : i < ss.length), w.cell? ⟨b, o + i, none⟩ = some (.string ss[i]) := by
          obtain ⟨A', c', hv, hc⟩ := HXS.out
          simp only [Value.slice.injEq, true_and] at hv
          obtain ⟨rfl, -⟩ := hv
          exact hc hss0
        subst hA
        have hlab : ∀ (i : Nat) (h : i < ss.length), wr.cell? ⟨b, o + i, none⟩ = some (.string (ss.getD i ⟨#[]⟩)) := fun i h => by
          rw [hB.cell (p := ⟨b, o + i, none⟩) hb, hcx i h]
          simp [List.getD, h]
        have hr2 : ks[k] < ts.length := by have := HN.out; omega
        obtain ⟨b2, o2, hA2, hb2, hcx2⟩ : ∃ b o, A2 = some ⟨b, o, none⟩ ∧ b < w.heap.size ∧ ∀ (i : Nat) (h : i < ts.length), w.cell? ⟨b, o + i, none⟩ = some ts[i].1 := by
          obtain ⟨⟨A', c', hv, hc⟩, _⟩ := HXT.out
          simp only [Value.slice.injEq, true_and] at hv
          obtain ⟨rfl, -⟩ := hv
          exact hc (by rintro rfl; simp at hr2)
        subst hA2
        have c1 := hoc k hlt
        have l1 := hlab ks[k] hr1
        have t1 := (hB.cell (p := ⟨b2, o2 + ks[k], none⟩) hb2).trans (hcx2 ks[k] hr2)
        have hm := List.getElem_mem hr2
        have hRt : Rd wr wr.heap.size ts[ks[k]].1 ts[ks[k]].2 := ((HXT.out.2 _ hm).below hB).size
        have h0t := HT0.out _ hm
        have hlt2 := HTL.out _ hm
        have HTG : Hid ((ts.getD ks[k] (.nilFunc, [])).2 = ts[ks[k]].2) := hid (by simp [List.getD, hr2])
        have hstep : Hid (rowsL ss ts (ks.take (k + 1)) = rowsL ss ts (ks.take k) ++ L.setName ts[ks[k]].2 (ss.getD ks[k] ⟨#[]⟩)) := hid (by
          unfold rowsL
          rw [List.take_succ_eq_append_getElem hlt, List.flatMap_append]
          simp only [List.flatMap_cons, List.flatMap_nil, List.append_nil]
          rw [HTG.out])
        obtain ⟨A3, cp3, hv3, -⟩ := id hRt
        rw [hv3] at t1 hRt
        have HRT := hid hRt
        have H0T := hid h0t
        have HLC := hid (fun (W : World) (hW : W.heap = wr.heap) => labelled_any _ h0t hlt2 _ (ss.getD ks[k] ⟨#[]⟩) W ((HRT.out.heap hW).size))
        have hr1z : (ks[k] : Int) < (ss.length : Int) := by omega
        have hr2z : (ks[k] : Int) < (ts.length : Int) := by omega
        have HOO := hid hO
        have HOI := hid hOI
        have HOC2 := hid hoc
        have HLAB := hid hlab
        clear hcx hcx2 hlab hoc hoc' hm hRt h0t hv3 hO hOI HTG
        generalize hK : ks[k] = K at *
        generalize hLb : ss.getD K ⟨#[]⟩ = Lb at *
        generalize ts[K].2 = TT at *
        by_cases hk0 : k = 0
        · subst hk0
          go_wp2
          go_quiet (fail)
          go_wp2
          have HLC1 := hid (HLC.out (wr.drewN (nq + 1)) rfl)
          have HOW : Hid (Own w.heap.size u8 (⟨kind, ⟨#[]⟩, (ts.length : Int)⟩ :: rowsL ss ts (ks.take 0)) (wr.drewN (nq + 1))) := hid (HOO.out.heap rfl)
          have HIW : Hid (OwnI w.heap.size (.slice (some ⟨go, 0, none⟩) ks.length capo) ks (wr.drewN (nq + 1))) := hid (HOI.out.heap rfl)
          have hBW : Below w.heap.size w (wr.drewN (nq + 1)) := below_drewN hB _
          have hbw : w.heap.size ≤ (wr.drewN (nq + 1)).heap.size := hB.size
          have HLEN := hid (rowsL_len (ss := ss) HTL.out (ks.take 0))
          have hlt3 : (ks.take 0).length ≤ 50 := by rw [List.length_take]; omega
          have hTl := hlt2
          go_region_law (first
            | (refine step_append_own rfl (.tmp 49) (.tmp 58) 23 rfl w.heap.size 44 i0 (.agg #[.int .i64 0, .string ⟨#[]⟩, .int .i64 0]) 3 32 Tryd.underlying23 hi hz0 hz1 hz2 rfl (by decide) _ _ _ rfl (HOW.out.below HB3.out) ⟨g3, 0, none⟩ TT.length cp4 (cellsN (L.setName TT Lb)) rfl hcl.out hs3.out (cellsN_one _) h63.out hby.out hsz3.out ?_; intro v4 w4 hown hgrow hnil)
            | (go_simp; go_at_call 38; refine (HLC1.out).mono ?_; rintro e w3 ⟨v', rfl, hO3, hb3⟩
               obtain ⟨g3, cp4, rfl, hs3⟩ := hO3.slice (by intro h; have := congrArg List.length h; rw [L.setName_length] at this; exact H0T.out (List.eq_nil_of_length_eq_zero this))
               rw [L.setName_length]
               have hs3 := hid hs3
               have hcl : Hid ((cellsN (L.setName TT Lb)).length = TT.length * 3) := hid (by rw [cellsN_len, L.setName_length])
               have h63 : Hid ((⟨kind, ⟨#[]⟩, (ts.length : Int)⟩ :: rowsL ss ts (ks.take 0)).length + TT.length ≤ maxLen) := hid (by have := HLEN.out; unfold maxLen; simp only [List.length_cons]; omega)
               have hby : Hid (((⟨kind, ⟨#[]⟩, (ts.length : Int)⟩ :: rowsL ss ts (ks.take 0)).length + TT.length) * 32 ≤ 140737488355328) := hid (by have := HLEN.out; simp only [List.length_cons]; omega)
               have hsz3 : Hid (w.heap.size ≤ w3.heap.size) := hid (Nat.le_trans hbw hb3.size)
               have HB3 := hid hb3
               clear hO3 hb3))
          all_goals have hO4 := Own.append (l := ⟨kind, ⟨#[]⟩, (ts.length : Int)⟩ :: rowsL ss ts (ks.take 0)) (r := L.setName TT Lb) (by rw [L.setName_length]; exact hown)
          all_goals have hI4 := (HIW.out.below HB3.out).aside (HOW.out.below HB3.out) hgrow
          all_goals have hB4 := (hBW.trans (HB3.out.mono hbw)).grown hgrow hsz3.out (fun k hk => (Own.lt (HOW.out.below HB3.out) k hk).1)
          all_goals clear hown hgrow hnil
          all_goals go_wp2
          all_goals go_roundw
          all_goals first
            | (refine ⟨0 + 1, by go_num, by omega, ?_, hI4, hB4, hid fun j h hj h0 => ?_⟩
               · rw [hstep.out]; exact hO4
               · omega)
            | (simp [intOf]; omega)
          
        · obtain ⟨p, rfl⟩ : ∃ p, k = p + 1 := ⟨k - 1, by omega⟩
          have hp : p < ks.length := by omega
          have c2 := HOC2.out p hp
          have hr3 := HKR.out p hp
          have l2 := HLAB.out ks[p] hr3
          have hr3z : (ks[p] : Int) < (ss.length : Int) := by omega
          have HPK : Hid (ks[p + 1 - 1]'(by omega) = ks[p]) := hid rfl
          have he := eqS Lb (ss.getD ks[p] ⟨#[]⟩)
          generalize hK2 : ks[p] = K2 at *
          generalize hLb2 : ss.getD K2 ⟨#[]⟩ = Lb2 at *
          have HK1 := hid hK
          have HK2 := hid hK2
          have HL1 := hid hLb
          have HL2 := hid hLb2
          clear hK hK2 hLb hLb2
          have hp0 : (0 : Int) < (p : Int) + 1 := by omega
          by_cases hEq : Lb = Lb2
          · subst hEq
            clear he
            go_wp2
            go_quiet (fail)
            go_wp2
            go_ret2
            refine ⟨below_drewN hB _, Or.inr ⟨HZ.out, ks, HP.out, HS.out, Or.inl ⟨⟨p + 1, by omega, hlt, ?_⟩, rfl⟩⟩⟩
            rw [HK1.out, HPK.out, HL1.out, HL2.out]
          · have e2 : (Lb.toList == Lb2.toList) = false := by rw [he]; simp [hEq]
            clear he
            go_wp2
            go_quiet (fail)
            go_wp2
            have HLC1 := hid (HLC.out (wr.drewN (nq + 1)) rfl)
            have HOW : Hid (Own w.heap.size u8 (⟨kind, ⟨#[]⟩, (ts.length : Int)⟩ :: rowsL ss ts (ks.take (p + 1))) (wr.drewN (nq + 1))) := hid (HOO.out.heap rfl)
            have HIW : Hid (OwnI w.heap.size (.slice (some ⟨go, 0, none⟩) ks.length capo) ks (wr.drewN (nq + 1))) := hid (HOI.out.heap rfl)
            have hBW : Below w.heap.size w (wr.drewN (nq + 1)) := below_drewN hB _
            have hbw : w.heap.size ≤ (wr.drewN (nq + 1)).heap.size := hB.size
            have HLEN := hid (rowsL_len (ss := ss) HTL.out (ks.take (p + 1)))
            have hlt3 : (ks.take (p + 1)).length ≤ 50 := by rw [List.length_take]; omega
            have hTl := hlt2
            go_region_law (first
              | (refine step_append_own rfl (.tmp 49) (.tmp 58) 23 rfl w.heap.size 44 i0 (.agg #[.int .i64 0, .string ⟨#[]⟩, .int .i64 0]) 3 32 Tryd.underlying23 hi hz0 hz1 hz2 rfl (by decide) _ _ _ rfl (HOW.out.below HB3.out) ⟨g3, 0, none⟩ TT.length cp4 (cellsN (L.setName TT Lb)) rfl hcl.out hs3.out (cellsN_one _) h63.out hby.out hsz3.out ?_; intro v4 w4 hown hgrow hnil)
              | (go_simp; go_at_call 38; refine (HLC1.out).mono ?_; rintro e w3 ⟨v', rfl, hO3, hb3⟩
                 obtain ⟨g3, cp4, rfl, hs3⟩ := hO3.slice (by intro h; have := congrArg List.length h; rw [L.setName_length] at this; exact H0T.out (List.eq_nil_of_length_eq_zero this))
                 rw [L.setName_length]
                 have hs3 := hid hs3
                 have hcl : Hid ((cellsN (L.setName TT Lb)).length = TT.length * 3) := hid (by rw [cellsN_len, L.setName_length])
                 have h63 : Hid ((⟨kind, ⟨#[]⟩, (ts.length : Int)⟩ :: rowsL ss ts (ks.take (p + 1))).length + TT.length ≤ maxLen) := hid (by have := HLEN.out; unfold maxLen; simp only [List.length_cons]; omega)
                 have hby : Hid (((⟨kind, ⟨#[]⟩, (ts.length : Int)⟩ :: rowsL ss ts (ks.take (p + 1))).length + TT.length) * 32 ≤ 140737488355328) := hid (by have := HLEN.out; simp only [List.length_cons]; omega)
                 have hsz3 : Hid (w.heap.size ≤ w3.heap.size) := hid (Nat.le_trans hbw hb3.size)
                 have HB3 := hid hb3
                 clear hO3 hb3))
            all_goals have hO4 := Own.append (l := ⟨kind, ⟨#[]⟩, (ts.length : Int)⟩ :: rowsL ss ts (ks.take (p + 1))) (r := L.setName TT Lb) (by rw [L.setName_length]; exact hown)
            all_goals have hI4 := (HIW.out.below HB3.out).aside (HOW.out.below HB3.out) hgrow
            all_goals have hB4 := (hBW.trans (HB3.out.mono hbw)).grown hgrow hsz3.out (fun k hk => (Own.lt (HOW.out.below HB3.out) k hk).1)
            all_goals clear hown hgrow hnil
            all_goals go_wp2
            all_goals go_roundw
            all_goals first
              | (refine ⟨(p + 1) + 1, by go_num, by omega, ?_, hI4, hB4, hid fun j h hj h0 => ?_⟩
                 · rw [hstep.out]; exact hO4
                 · rcases Nat.lt_or_ge j (p + 1) with hh | hh
                   · exact hD.out j h hh h0
                   · obtain rfl : j = p + 1 := by omega
                     rw [HK1.out, HPK.out, HL1.out, HL2.out]
                     exact hEq)
              | (simp [intOf]; omega)
            
      · obtain rfl : k = ks.length := by omega
        rw [List.take_length] at hO
        have HOO := hid hO
        go_wp2
        go_ret2
        exact ⟨hB, Or.inr ⟨HZ.out, ks, HP.out, HS.out, Or.inr ⟨fun j h h0 => hD.out j h h h0, _, rfl, HOO.out⟩⟩⟩

end Go.Proofs.YtimlblbmfckeiaaDoor
