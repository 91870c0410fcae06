/-
  TermGround is true for any type, any number. No conditions.
-/
import Derived.Test.YtmifcjiakiddkaaRows
import Derived.Test.YtmifcjiakiddkaaTmLp
import Derived.Test.YtmifcjiakiddkaaTmW4
namespace Go.Proofs.Ytmifcjiakiddkaa.termGround
open Go.ChangeShapes Go.WideShapes Go.ChangeAt Go.RowKit

theorem own : ownKnob Try.prog.godebug = none := by kernel_rfl

abbrev Post (w : World) (e : Ending) (w' : World) : Prop := e = .returned (.bool true) ∧ Below w.heap.size w w'

theorem plain_false {l : List L.Nd} (h : l.any L.varN = false) : L.plainL l = true := by unfold L.plainL; rw [h]; rfl

/-- Where a node of what is left comes from. -/
theorem ground_from : ∀ (f : L.Fo), ∀ y ∈ f.ground.flat, y ∈ f.flat ∨ ((y.kind = 4 ∨ y.kind = 6 ∨ y.kind = 7) ∧ ∃ x ∈ f.flat, y.name = x.name)
  | .nil, y, h => by cases h
  | .cons x ks r, y, h => by
    have hk := ground_from ks
    have hr := ground_from r
    have hr2 : y ∈ r.ground.flat → y ∈ (L.Fo.cons x ks r).flat ∨ ((y.kind = 4 ∨ y.kind = 6 ∨ y.kind = 7) ∧ ∃ z ∈ (L.Fo.cons x ks r).flat, y.name = z.name) := fun h => by
      rcases hr y h with h | ⟨h, z, hz, e⟩
      · exact Or.inl (by simp [L.Fo.flat, h])
      · exact Or.inr ⟨h, z, by simp [L.Fo.flat, hz], e⟩
    have hk2 : y ∈ ks.ground.flat → y ∈ (L.Fo.cons x ks r).flat ∨ ((y.kind = 4 ∨ y.kind = 6 ∨ y.kind = 7) ∧ ∃ z ∈ (L.Fo.cons x ks r).flat, y.name = z.name) := fun h => by
      rcases hk y h with h | ⟨h, z, hz, e⟩
      · exact Or.inl (by simp [L.Fo.flat, h])
      · exact Or.inr ⟨h, z, by simp [L.Fo.flat, hz], e⟩
    rw [L.Fo.ground] at h
    split at h
    · exact hr2 h
    split at h
    · simp only [L.Fo.flat, List.mem_cons, List.nil_append] at h
      rcases h with rfl | h
      · exact Or.inr ⟨Or.inl rfl, x, by simp [L.Fo.flat], rfl⟩
      · exact hr2 h
    split at h
    · simp only [L.Fo.flat, List.mem_cons, List.nil_append] at h
      rcases h with rfl | h
      · exact Or.inr ⟨Or.inl rfl, x, by simp [L.Fo.flat], rfl⟩
      · exact hr2 h
    split at h
    · rename_i h67
      simp only [L.Fo.flat, List.mem_cons, List.mem_append] at h
      rcases h with rfl | h | h
      · exact Or.inr ⟨Or.inr h67, x, by simp [L.Fo.flat], rfl⟩
      · exact hk2 h
      · exact hr2 h
    · simp only [L.Fo.flat, List.mem_cons, List.mem_append] at h
      rcases h with rfl | h | h
      · exact Or.inl (by simp [L.Fo.flat])
      · exact hk2 h
      · exact hr2 h
theorem ground_small (f : L.Fo) (hok : f.ground.ok = true) (hn : ∀ y ∈ f.flat, y.n ≤ 9223372036854775807) (hs : L.Short f.flat) : (∀ y ∈ f.ground.flat, y.n ≤ 9223372036854775807) ∧ ∀ y ∈ f.ground.flat, y.name.size ≤ 100 := by
  refine ⟨fun y hy => ?_, fun y hy => ?_⟩
  · rcases ground_from f y hy with h | ⟨h, -⟩
    · exact hn y h
    · have h2 := L.numbered_flat _ hok y hy
      unfold L.numbered at h2
      rcases h with h | h | h
      · simp [h] at h2; omega
      · simp [h] at h2; omega
      · simp [h] at h2; omega
  · rcases ground_from f y hy with h | ⟨-, x, hx, e⟩
    · exact hs y h
    · rw [e]; exact hs x hx
theorem fresh_name : ∀ (t : List L.Nd) (n : Int), L.Short t → L.Short (L.freshL t n)
  | [], _, _ => fun x h => by cases h
  | x :: t, n, h => by
    have h1 := fun n => fresh_name t n fun y hy => h y (by simp [hy])
    intro y hy
    rw [L.freshL] at hy
    split at hy
    · simp only [List.mem_cons] at hy
      rcases hy with rfl | hy
      · exact h x (by simp)
      · exact h1 _ y hy
    · simp only [List.mem_cons] at hy
      rcases hy with rfl | hy
      · exact h _ (by simp)
      · exact h1 _ y hy

set_option maxHeartbeats 8000000 in
set_option maxRecDepth 100000 in
theorem ground_true {W : World} (v : Value) (l : List L.Nd) (hR : Rd W W.heap.size v l) (hn : ∀ y ∈ l, InN y) (n : Int) (_hnw : (Lit.int .i64 n).wf = true) :
    Calls Try.prog 3 #[v, .int .i64 n] W (Post W) := by
  have HF := hid (fews_one W v l hR hn)
  have HA := hid (fun w => alive_any w)
  have HR := hid hR
  have HN := hid hn
  obtain ⟨A, cap, rfl, hl1, hl2⟩ := hR.len
  unfold maxLen at hl2
  clear hR hn
  go_enter Try.func3, Try.ntmps3
  cases hfw : L.fewL 60 l with
  | false =>
    rw [hfw] at HF
    go_wp2_with fail
    refine (HF.out).mono ?_
    rintro e w1 ⟨rfl, hb⟩
    have HB := hid hb
    have HAL := hid (HA.out w1)
    clear hb HF
    go_wp2_with fail
    refine (HAL.out).mono ?_
    rintro e w2 ⟨rfl, hb⟩
    have HB2 := hid (HB.out.trans (hb.mono HB.out.size))
    clear hb HAL
    go_wp2_with fail
    go_ret
    exact ⟨rfl, HB2.out⟩
  | true =>
    rw [hfw] at HF
    by_cases h0 : n < 0
    · go_wp2_with fail
      refine (HF.out).mono ?_
      rintro e w1 ⟨rfl, hb⟩
      have HB := hid hb
      have HAL := hid (HA.out w1)
      clear hb HF
      go_wp2_with fail
      refine (HAL.out).mono ?_
      rintro e w2 ⟨rfl, hb⟩
      have HB2 := hid (HB.out.trans (hb.mono HB.out.size))
      clear hb HAL
      go_wp2_with fail
      go_ret
      exact ⟨rfl, HB2.out⟩
    by_cases h1 : 1000000 < n
    · go_wp2_with fail
      refine (HF.out).mono ?_
      rintro e w1 ⟨rfl, hb⟩
      have HB := hid hb
      have HAL := hid (HA.out w1)
      clear hb HF
      go_wp2_with fail
      refine (HAL.out).mono ?_
      rintro e w2 ⟨rfl, hb⟩
      have HB2 := hid (HB.out.trans (hb.mono HB.out.size))
      clear hb HAL
      go_wp2_with fail
      go_ret
      exact ⟨rfl, HB2.out⟩
    obtain ⟨x, ks, hxl, hT⟩ := L.few_get hfw
    subst hxl
    have hl60 := hT.len
    have hgr := L.ground_right (Nat.le_trans hl60 (by omega)) hT.b hT.ok (by have := deep_le ks; simp only [List.length_cons] at hl60; omega)
    have hfl : (L.Fo.cons x ks .nil).flat = x :: ks.flat := by simp [L.Fo.flat]
    have hpl := plain_false (L.ground_plain (.cons x ks .nil))
    have hst : L.staticL (L.Fo.cons x ks .nil).ground.flat = L.staticL (x :: ks.flat) := by
      unfold L.staticL
      rw [L.ground_static _ hT.ok, hfl]
    have hsm : L.plainL (x :: ks.flat) = true → (L.Fo.cons x ks .nil).ground.flat = x :: ks.flat := fun h => by
      rw [L.ground_same _ hT.ok (by unfold L.plainL at h; rw [hfl]; simpa using h), hfl]
    have htw := L.ground_twice _ hT.ok
    have hgl := L.ground_len (.cons x ks .nil)
    have hgok := L.ground_ok _ hT.ok
    have hgc := L.ground_count (.cons x ks .nil)
    have hsm2 := ground_small (.cons x ks .nil) hgok (by rw [hfl]; exact fun y hy => (HN.out y hy).1) (by rw [hfl]; exact hT.sh)
    have HG := hid (fun (v : Value) (w : World) (hx : Rd w w.heap.size v (x :: ks.flat)) => ground_any (.cons x ks .nil) hT.ok (by simp [L.Fo.count]) (by rw [hfl]; omega) (by rw [hfl]; exact fun y hy => (HN.out y hy).1) v w (by rw [hfl]; exact hx))
    have HGG := hid (fun (v : Value) (w : World) (hx : Rd w w.heap.size v (L.Fo.cons x ks .nil).ground.flat) => ground_any (L.Fo.cons x ks .nil).ground hgok (Nat.le_trans hgc (by simp [L.Fo.count])) (by rw [hfl] at hgl; omega) hsm2.1 v w hx)
    have HGR := hid (fun (v : Value) (w : World) (hx : Rd w w.heap.size v (L.Fo.cons x ks .nil).ground.flat) => refRight_any _ (fun y hy => by have := hsm2.2 y hy; omega) v w hx)
    have hgne : (L.Fo.cons x ks .nil).ground.flat ≠ [] := fun e => by rw [e] at hgr; simp [L.rightL] at hgr
    have HFR := hid (fun (v : Value) (w : World) (hx : Rd w w.heap.size v (x :: ks.flat)) => show Calls Try.prog 10 #[v, .int .i64 n] w (fun e w' => ∃ v', e = .returned (.tuple #[v', .int .i64 (n + L.dyns (x :: ks.flat))]) ∧ Own w.heap.size v' (L.freshL (x :: ks.flat) n) w' ∧ Below w.heap.size w w') from fresh_any (x :: ks.flat) (by simp) (by omega) n (by omega) (by omega) v w hx)
    have hfrr := L.right_rel (L.fresh_rels (x :: ks.flat) n (by omega) (by rw [← hfl]; exact L.numbered_flat _ hT.ok)) hT.right
    have HRR := hid (fun (v : Value) (w : World) (hx : Rd w w.heap.size v (L.freshL (x :: ks.flat) n)) => refRight_any _ (fun y hy => by have := fresh_name _ n hT.sh y hy; omega) v w hx)
    have hfst := L.fresh_static (x :: ks.flat) n
    have hflen := L.fresh_len (x :: ks.flat) n
    have hdy := L.dyns_static (x :: ks.flat)
    have hdl : L.dyns (x :: ks.flat) ≤ 60 := Nat.le_trans List.countP_le_length hl60
    rw [htw] at HGG
    rw [hgr] at HGR
    rw [hfrr] at HRR
    clear hgr hfl htw hgl hgok hgc hsm2 hfrr hT hfw HN
    have hln : Hid ((x :: ks.flat) ≠ []) := hid (by simp)
    generalize (L.Fo.cons x ks .nil).ground.flat = gl at *
    generalize hfd : L.freshL (x :: ks.flat) n = fl at *
    clear hfd
    generalize L.dyns (x :: ks.flat) = d at *
    generalize x :: ks.flat = l at *
    have HFE := hid (show fl.length = l.length from hflen)
    have HPL := hid hpl
    have HST := hid hst
    have HSM := hid hsm
    have HDY := hid hdy
    have HFS := hid hfst
    have hgl0 : ((gl.length : Int) == 0) = false := by
      have := List.length_pos_iff.2 hgne
      simp; intro e; simp [e] at this
    clear hpl hst hsm hdy hfst hgne
    go_wp2_with fail
    refine (HF.out).mono ?_
    rintro e w1 ⟨rfl, hb⟩
    have HB1 := hid hb
    have HR1 := hid ((HR.out.below hb).mono hb.size)
    clear hb HF
    have HC := hid (HG.out _ w1 HR1.out)
    go_wp2_with fail
    refine (HC.out).mono ?_
    rintro e w2 ⟨vg, rfl, hO, hb⟩
    have HB2 := hid (HB1.out.trans (hb.mono HB1.out.size))
    have HG2 := hid (hO.more (Nat.zero_le _))
    have HR2 := hid ((HR1.out.below hb).mono hb.size)
    clear hb hO HC
    have HC := hid (HFR.out _ w2 HR2.out)
    obtain ⟨Ag, cg, rfl, -⟩ := HG2.out.rd.len
    go_wp2_with fail
    refine (HC.out).mono ?_
    rintro e w3 ⟨vf, rfl, hO, hb⟩
    have HB3 := hid (HB2.out.trans (hb.mono HB2.out.size))
    have HF3 := hid (hO.more (Nat.zero_le _))
    have HG3 := hid (HG2.out.below hb)
    have HR3 := hid ((HR2.out.below hb).mono hb.size)
    clear hb hO HC
    have HC := hid (HGR.out _ w3 HG3.out.rd)
    obtain ⟨Af, cf, rfl, -⟩ := HF3.out.rd.len
    rw [HFE.out] at HF3
    have step : ∀ (w w' : World) (B : Hid (Below W.heap.size W w)) (R : Hid (Rd w w.heap.size (.slice A l.length cap) l)) (G : Hid (Own 0 (.slice Ag gl.length cg) gl w)) (F : Hid (Own 0 (.slice Af l.length cf) fl w)), Below w.heap.size w w' → Hid (Below W.heap.size W w' ∧ Rd w' w'.heap.size (.slice A l.length cap) l ∧ Own 0 (.slice Ag gl.length cg) gl w' ∧ Own 0 (.slice Af l.length cf) fl w') :=
      fun _ _ B R G F hb => hid ⟨B.out.trans (hb.mono B.out.size), (R.out.below hb).mono hb.size, G.out.below hb, F.out.below hb⟩
    have HS := hid step
    clear step HR HR1 HR2 HB1 HB2 HG2
    have HC := hid (HGR.out _ w3 HG3.out.rd)
    go_wp2_with fail
    refine (HC.out).mono ?_
    rintro e w4 ⟨rfl, hb⟩
    have H4 := HS.out _ _ HB3 HR3 HG3 HF3 hb
    clear hb HC HB3 HR3 HG3 HF3
    have HC := hid (ref_plain gl _ w4 H4.out.2.2.1.rd)
    rw [HPL.out] at HC
    go_wp2_with fail
    refine (HC.out).mono ?_
    rintro e w5 ⟨rfl, rfl⟩
    clear HC
    have HC := hid (ref_static l _ w5 H4.out.2.1)
    go_wp2_with fail
    refine (HC.out).mono ?_
    rintro e w6 ⟨rfl, rfl⟩
    clear HC
    have HC := hid (ref_static gl _ w6 H4.out.2.2.1.rd)
    rw [HST.out] at HC
    go_wp2_with fail
    refine (HC.out).mono ?_
    rintro e w7 ⟨rfl, rfl⟩
    clear HC
    have HC := hid (ref_plain l _ w7 H4.out.2.1)
    go_wp2_with fail
    refine (HC.out).mono ?_
    rintro e w8 ⟨rfl, rfl⟩
    clear HC
    cases hpl : L.plainL l with
    | true =>
      have HC := hid (one_any gl l _ _ w8 H4.out.2.2.1.rd H4.out.2.1)
      rw [decide_eq_true (HSM.out hpl)] at HC
      clear hpl
      go_wp2_with fail
      refine (HC.out).mono ?_
      rintro e w8b ⟨rfl, hb⟩
      have H8 := HS.out _ _ (hid H4.out.1) (hid H4.out.2.1) (hid H4.out.2.2.1) (hid H4.out.2.2.2) hb
      clear hb HC H4
      have H4 := hid H8.out
      clear H8
      have HAL := hid (HA.out w8b)
      go_wp2_with fail
      refine (HAL.out).mono ?_
      rintro e w9 ⟨rfl, hb⟩
      have H9 := HS.out _ _ (hid H4.out.1) (hid H4.out.2.1) (hid H4.out.2.2.1) (hid H4.out.2.2.2) hb
      clear hb HAL H4
      have HC := hid (HGG.out _ w9 H9.out.2.2.1.rd)
      go_wp2_with fail
      refine (HC.out).mono ?_
      rintro e w10 ⟨vgg, rfl, hO, hb⟩
      have H10 := HS.out _ _ (hid H9.out.1) (hid H9.out.2.1) (hid H9.out.2.2.1) (hid H9.out.2.2.2) hb
      have HC := hid (one_any gl gl vgg _ w10 hO.rd H10.out.2.2.1.rd)
      rw [decide_eq_true rfl] at HC
      obtain ⟨Agg, cgg, rfl, -⟩ := hO.rd.len
      clear hO hb H9
      go_wp2_with fail
      refine (HC.out).mono ?_
      rintro e w11 ⟨rfl, hb⟩
      have H11 := HS.out _ _ (hid H10.out.1) (hid H10.out.2.1) (hid H10.out.2.2.1) (hid H10.out.2.2.2) hb
      clear hb HC H10
      have HC := hid (HRR.out _ w11 H11.out.2.2.2.rd)
      go_wp2_with fail
      refine (HC.out).mono ?_
      rintro e w12 ⟨rfl, hb⟩
      have H12 := HS.out _ _ (hid H11.out.1) (hid H11.out.2.1) (hid H11.out.2.2.1) (hid H11.out.2.2.2) hb
      clear hb HC H11
      have HC := hid (ref_static fl _ w12 H12.out.2.2.2.rd)
      rw [HFS.out] at HC
      go_wp2_with fail
      refine (HC.out).mono ?_
      rintro e w13 ⟨rfl, rfl⟩
      clear HC
      have HC := hid (ref_static l _ w13 H12.out.2.1)
      have hd : decide (n + (d : Int) = n) = L.staticL l := by
        rw [Bool.eq_iff_iff, decide_eq_true_eq, ← HDY.out]
        omega
      have HD := hid hd
      clear hd
      cases hs : L.staticL l with
      | true =>
        rw [hs] at HC HD
        have hd0 : d = 0 := by
          have := of_decide_eq_true HD.out
          omega
        subst hd0
        clear hs HD
        go_wp2_with fail
        refine (HC.out).mono ?_
        rintro e w14 ⟨rfl, rfl⟩
        go_wp2_with fail
        go_ret
        exact ⟨ret_bool (by simp), H12.out.1⟩
      | false =>
        rw [hs] at HC HD
        have hd0 : ((n + (d : Int)) == n) = false := by
          have := of_decide_eq_false HD.out
          simpa using this
        clear hs HD
        go_wp2_with fail
        refine (HC.out).mono ?_
        rintro e w14 ⟨rfl, rfl⟩
        go_wp2_with fail
        go_ret
        exact ⟨ret_bool (by simp; omega), H12.out.1⟩
    | false =>
      clear hpl
      have HAL := hid (HA.out w8)
      go_wp2_with fail
      refine (HAL.out).mono ?_
      rintro e w9 ⟨rfl, hb⟩
      have H9 := HS.out _ _ (hid H4.out.1) (hid H4.out.2.1) (hid H4.out.2.2.1) (hid H4.out.2.2.2) hb
      clear hb HAL H4
      have HC := hid (HGG.out _ w9 H9.out.2.2.1.rd)
      go_wp2_with fail
      refine (HC.out).mono ?_
      rintro e w10 ⟨vgg, rfl, hO, hb⟩
      have H10 := HS.out _ _ (hid H9.out.1) (hid H9.out.2.1) (hid H9.out.2.2.1) (hid H9.out.2.2.2) hb
      have HC := hid (one_any gl gl vgg _ w10 hO.rd H10.out.2.2.1.rd)
      rw [decide_eq_true rfl] at HC
      obtain ⟨Agg, cgg, rfl, -⟩ := hO.rd.len
      clear hO hb H9
      go_wp2_with fail
      refine (HC.out).mono ?_
      rintro e w11 ⟨rfl, hb⟩
      have H11 := HS.out _ _ (hid H10.out.1) (hid H10.out.2.1) (hid H10.out.2.2.1) (hid H10.out.2.2.2) hb
      clear hb HC H10
      have HC := hid (HRR.out _ w11 H11.out.2.2.2.rd)
      go_wp2_with fail
      refine (HC.out).mono ?_
      rintro e w12 ⟨rfl, hb⟩
      have H12 := HS.out _ _ (hid H11.out.1) (hid H11.out.2.1) (hid H11.out.2.2.1) (hid H11.out.2.2.2) hb
      clear hb HC H11
      have HC := hid (ref_static fl _ w12 H12.out.2.2.2.rd)
      rw [HFS.out] at HC
      go_wp2_with fail
      refine (HC.out).mono ?_
      rintro e w13 ⟨rfl, rfl⟩
      clear HC
      have HC := hid (ref_static l _ w13 H12.out.2.1)
      have hd : decide (n + (d : Int) = n) = L.staticL l := by
        rw [Bool.eq_iff_iff, decide_eq_true_eq, ← HDY.out]
        omega
      have HD := hid hd
      clear hd
      cases hs : L.staticL l with
      | true =>
        rw [hs] at HC HD
        have hd0 : d = 0 := by
          have := of_decide_eq_true HD.out
          omega
        subst hd0
        clear hs HD
        go_wp2_with fail
        refine (HC.out).mono ?_
        rintro e w14 ⟨rfl, rfl⟩
        go_wp2_with fail
        go_ret
        exact ⟨ret_bool (by simp), H12.out.1⟩
      | false =>
        rw [hs] at HC HD
        have hd0 : ((n + (d : Int)) == n) = false := by
          have := of_decide_eq_false HD.out
          simpa using this
        clear hs HD
        go_wp2_with fail
        refine (HC.out).mono ?_
        rintro e w14 ⟨rfl, rfl⟩
        go_wp2_with fail
        go_ret
        exact ⟨ret_bool (by simp; omega), H12.out.1⟩

set_option maxRecDepth 100000 in
theorem termGround_lifted (os : Os) (started : os.Started) (H : Type) (enc : TypeId × Value → H) :
    ReturnsInHanded {} Try.checked os 3 .any (Rows.termGroundSpec.pre6 enc Try.prog Try.f3 Rows.termGroundRow.domain false) (Rows.termGroundSpec.post enc Try.prog Try.f3 false true false false) := by
  refine returnsInHanded_of_change (C := Try.checked) own started (by kernel_rfl) Try.func3
    (ChangeSpec.witness6 (enc := enc) (C := Try.checked) false ⟨#[], #[.slice none 0 0, .int .i64 0], []⟩ 8 (by kernel_rfl) (by kernel_rfl) (by kernel_rfl) (by kernel_rfl)) ?_
  intro W base args ds gs before hval0 hW hcnd _
  have hlts := hW.lt
  have hval : ∀ (j : Nat) t v, Try.f3.params[j]? = some t → args[j]? = some v → Value.okWide Try.prog W .any base t v := hval0
  have hW' := hW
  obtain ⟨p, q, hA0, hV, rfl, hfz, hnd⟩ := hW
  have hA : DataW.TrodAll enc Try.prog W 0 (fun _ => true) true Try.f3.params.toList args.toList ds p := hA0
  rw [Try.params3] at hA hval
  obtain ⟨v0, vs0, d0, ds0, p0, q0, hargs0, rfl, rfl, h0, r0⟩ := trodAll_cons hA
  obtain ⟨v1, vs1, d1, ds1, p1, q1, hargs1, rfl, rfl, h1, r1⟩ := trodAll_cons r0
  obtain ⟨hn, rfl, rfl⟩ := trodAll_nil r1
  obtain rfl : args = #[v0, v1] := by cases args; simp_all
  obtain ⟨rfl, rfl⟩ := trodVars_none hV
  obtain ⟨sa0, sl0, sc0, hsv0⟩ := okWide_slice Try.underlying23 (hval 0 23 v0 rfl rfl)
  obtain ⟨fuel0, hf0⟩ := h0
  obtain ⟨u0, l0, hu0, hR0, hn0⟩ := rd3_of_trod hf0
  obtain rfl : v0 = u0 := by
    rw [hsv0] at hu0
    rw [hsv0]
    simpa [Value.cells] using hu0
  obtain ⟨a1, rfl, rfl, rfl, w1⟩ := open_int Try.underlying3 (hval 1 3 v1 rfl rfl) h1
  clear hA0 hval0
  simp only [List.append_nil] at hW' hlts
  refine (ground_true v0 l0 hR0 hn0 a1 w1 (W := W)).mono fun e W' ⟨he, hB⟩ => ?_
  subst he
  refine ⟨_, rfl, _, _, _, [], (p0 ++ []), [], by simpa using hW', ?_, ?_, ?_, hB.frame _, fun h => by cases h⟩
  · exact trodAll_cons_mk (shut_bool Try.underlying4 _) trodAll_mk0
  · exact (trodAll_cons_mk (Below.trod (by kernel_rfl) (by kernel_rfl) (of_decide_eq_true (by kernel_rfl)) ⟨fuel0, hf0⟩ hB (fun x hx => hlts x (by simp [hx]))) (trodAll_cons_mk (shut_int Try.underlying3 w1) trodAll_mk0))
  · rfl

/-- TermGround: the given statement. -/
theorem termGround_holds : Rows.TermGroundSaid :=
  OpenClaim.holds_of_wide 3 Try.f3 rfl rfl rfl rfl rfl rfl rfl ⟨rfl, rfl, rfl, rfl, rfl⟩ rfl rfl rfl rfl rfl (by kernel_rfl) Try.func3 (by kernel_rfl)
    (of_decide_eq_true (by kernel_rfl)) (by unfold Func.isWrapper; first | (rw [if_pos (by decide +kernel)]; kernel_rfl) | (rw [if_neg (by decide +kernel)]; exact ⟨rfl, rfl⟩))
    (fun os started H enc _ => termGround_lifted os started H enc)

end Go.Proofs.Ytmifcjiakiddkaa.termGround
