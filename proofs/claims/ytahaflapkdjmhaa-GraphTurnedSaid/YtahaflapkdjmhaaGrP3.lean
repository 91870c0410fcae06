/-
  The walk of graph's left. Conditions: few rows of few numbers.
-/
import Derived.Test.YtahaflapkdjmhaaGrP2
import Derived.StillTailTactics
import Derived.IntWalk
namespace Go.Proofs.Ytahaflapkdjmhaa
open Go.RowKit Go.Deep

theorem fn_more (tk : List Nat) (k v : Nat) (hk : k < tk.length) (hv : Gr.fn tk k + 1 = v) : Gr.fn (tk.set k v) = fun a => if a = k then Gr.fn tk k + 1 else Gr.fn tk a := by
  subst hv
  funext i
  simp only [Gr.fn, List.getD, List.getElem?_set]
  by_cases e : k = i
  · subst e; simp [hk]
  · have : ¬ i = k := fun h => e h.symm
    simp [e, this]

def LeftPost (rows : List (List Nat)) (n : Nat) (w : World) (e : Ending) (w' : World) : Prop := ∃ v D disc, e = .returned v ∧ w'.ownsRow w.heap.size 3 1 v D.length (numV D) ∧ Below w.heap.size w w' ∧ Gr.Left (Gr.rowsF rows) n disc D

set_option maxHeartbeats 8000000 in
set_option maxRecDepth 1000000 in
theorem left_any (rows : List (List Nat)) (n b : Nat) (hrl : rows.length = n) (hn : n ≤ 20) (hr : ∀ r ∈ rows, ∀ k ∈ r, k < n) (hl : ∀ r ∈ rows, r.length ≤ 400) (w : World) (hx : RdG w w.heap.size (.slice (some ⟨b, 0, none⟩) n n) rows) :
    Calls Try.prog 22 #[.slice (some ⟨b, 0, none⟩) n n] w (LeftPost rows n w) := by
  have hnx : ∀ i, i < n → ∀ k ∈ Gr.rowsF rows i, k < n := fun i hi k hk => by
    have h1 : i < rows.length := by rw [hrl]; exact hi
    simp only [Gr.rowsF, List.getElem?_eq_getElem h1, Option.getD_some] at hk
    exact hr _ (List.getElem_mem h1) k hk
  have HNX := hid hnx
  have HX := hid hx
  have HRL := hid hrl
  have HR := hid hr
  have HLL := hid hl
  obtain ⟨i0, hi0, hz0, hz1, hz2⟩ := info_parts info_int
  have hmk1 := run_make_row' (P := Try.prog) 30 3 (.int .i64 0) 8 Try.underlying30 info_int rfl .i64 .i64 n (by omega) (by omega)
  have hmk2 := run_make_row' (P := Try.prog) 66 4 (.bool false) 1 Try.underlying66 info_bool rfl .i64 .i64 n (by omega) (by omega)
  have HS := hid (LfS.start w n (by omega))
  clear hnx hrl hr hl hx
  go_enter Try.func22, Try.ntmps22
  go_wp2_with fail
  go_loopw [3, 20] (fun vd vi wr => ∃ (k : Nat) (S D tk : List Nat) (Ad : Option Addr) (cd : Nat) (A : Option Addr) (c : Nat), vd = .slice Ad D.length cd ∧ vi = .int .i64 k ∧ k ≤ n ∧ Hid (Gr.St (Gr.rowsF rows) n S [] D (Gr.fn tk) ∧ ∀ j, j < k → j ∈ S) ∧ LfS wr w.heap.size n A c S [] tk Ad cd D ∧ Below w.heap.size w wr) (fun _ vi _ => n - (intOf vi).toNat)
  case atStart => exact ⟨0, [], [], _, none, 0, none, 0, rfl, rfl, by omega, hid ⟨by
    have e : Gr.fn (List.replicate n 0) = fun _ => 0 := by
      funext i
      simp [Gr.fn, List.getD, List.getElem?_replicate]
      split <;> rfl
    rw [e]
    exact Gr.St.start _ _, fun j hj => by omega⟩, HS.out.1, HS.out.2⟩
  case round =>
    clear HS
    obtain ⟨k, S, D, tk, Ad, cd, A, c, rfl, rfl, hk, hE, hL, hbel⟩ := hrel
    obtain ⟨wo, hwo⟩ : ∃ wo : World, wo = wr := ⟨_, rfl⟩
    subst hwo
    have HL := hid hL
    have HB := hid hbel
    have hsz := hbel.size
    clear hL hbel
    by_cases hlt : k < n
    · have hkz : (k : Int) < (n : Int) := by omega
      have HC := hid (enter_any HL.out (by simp) hlt)
      have HST := hid (show Gr.St (Gr.rowsF rows) n (if k ∈ S then S else S ++ [k]) (if k ∈ S then [] else [] ++ [k]) D (Gr.fn tk) ∧ ∀ j, j < k + 1 → j ∈ (if k ∈ S then S else S ++ [k]) from by
        by_cases hm : k ∈ S
        · simp only [if_pos hm]
          exact ⟨hE.out.1, fun j hj => by
            by_cases e : j = k
            · rw [e]; exact hm
            · exact hE.out.2 j (by omega)⟩
        · simp only [if_neg hm]
          exact ⟨hE.out.1.enter hm hlt (fun a ha => by cases ha), fun j hj => by
            by_cases e : j = k
            · rw [e]; simp
            · exact List.mem_append_left _ (hE.out.2 j (by omega))⟩)
      obtain ⟨S1, hS1⟩ : ∃ S1, S1 = (if k ∈ S then S else S ++ [k]) := ⟨_, rfl⟩
      obtain ⟨P1, hP1⟩ : ∃ P1 : List Nat, P1 = (if k ∈ S then [] else [] ++ [k]) := ⟨_, rfl⟩
      rw [← hS1, ← hP1] at HC HST
      clear hS1 hP1 hE
      go_wp2_with fail
      refine (HC.out).mono ?_
      rintro e w1 ⟨rfl, A1, c1, hL1, hb1⟩
      have HL1 := hid hL1
      have HB1 := hid (HB.out.trans hb1)
      clear hL1 hb1 HC HL HB
      go_wp2_with fail
      go_loopg [3] (Gr.left2 (Gr.rowsF rows) n P1 (Gr.fn tk)) (fun g vd wi => ∃ (S P D tk : List Nat) (Ad : Option Addr) (cd : Nat) (A : Option Addr) (c : Nat), vd = .slice Ad D.length cd ∧ Hid (Gr.left2 (Gr.rowsF rows) n P (Gr.fn tk) = g ∧ Gr.St (Gr.rowsF rows) n S P D (Gr.fn tk) ∧ ∀ j, j < k + 1 → j ∈ S) ∧ LfS wi w.heap.size n A c S P tk Ad cd D ∧ Below w.heap.size w wi)
      case atStart => exact ⟨S1, P1, D, tk, Ad, cd, A1, c1, rfl, hid ⟨rfl, HST.out⟩, HL1.out, HB1.out⟩
      case round =>
        clear HST HL1 HB1
        obtain ⟨S, P, D, tk, Ad, cd, A, c, rfl, hE, hL, hbel⟩ := hrel
        have HL := hid hL
        have HB := hid hbel
        have hsz1 := hbel.size
        obtain ⟨wj, hwj⟩ : ∃ wj : World, wj = wr := ⟨_, rfl⟩
        subst hwj
        clear hL hbel
        rcases List.eq_nil_or_concat P with hP | ⟨P0, q, hP⟩
        · subst hP
          obtain ⟨y1, -⟩ := HL.out.cp
          have HE := hid hE.out.2
          clear hE
          go_wp2_with fail
          go_roundw
          case rel => exact ⟨k + 1, S, D, tk, Ad, cd, A, c, rfl, by go_num, by omega, HE, HL.out, HB.out⟩
          case measure => simp [intOf]; omega
        · rw [List.concat_eq_append] at hP
          subst hP
          obtain ⟨g0, rfl, y2, hpc, hcm⟩ := HL.out.last
          unfold maxLen at hcm
          obtain ⟨y1, y1f⟩ := HL.out.cp
          have hqS : q ∈ S := (hE.out.2.1.mem q).2 (Or.inl (by simp))
          have hqn := hE.out.2.1.slt q hqS
          obtain ⟨y3, y3f⟩ := HL.out.took hqn
          have hqr : q < rows.length := by rw [HRL.out]; exact hqn
          obtain ⟨Aq, cq, hbb, y4w, HKS⟩ := HX.out.atv (Below.refl _ _) hqr
          have hPn : (P0 ++ [q]).length ≤ n := by
            have h1 := Gr.nodup_le n (P0 ++ [q]) (by
              have := hE.out.2.1.rise
              exact this.imp fun {a b} h e => by rw [e] at h; omega) (fun x hx => hE.out.2.1.slt x ((hE.out.2.1.mem x).2 (Or.inl hx)))
            exact h1
          rw [List.length_append, List.length_singleton] at y1 hPn
          obtain ⟨m, hm⟩ : ∃ m, m = P0.length := ⟨_, rfl⟩
          rw [← hm] at y1 y2 hpc hPn
          have HM := hid hm
          obtain ⟨t, ht⟩ : ∃ t, Gr.fn tk q = t := ⟨_, rfl⟩
          rw [ht] at y3
          have hrf : Gr.rowsF rows q = rows[q] := by simp [Gr.rowsF, hqr]
          have hkl := HLL.out _ (List.getElem_mem hqr)
          have hkn := HR.out _ (List.getElem_mem hqr)
          obtain ⟨ks, hks⟩ : ∃ ks, rows[q] = ks := ⟨_, rfl⟩
          rw [hks] at y4w HKS hrf hkl hkn
          have Y4 := hid (fun (W : World) (hW : Below w.heap.size w W) => (hW.cell (p := ⟨b, q, none⟩) hbb).trans y4w)
          have y4 := Y4.out _ HB.out
          clear y4w
          have htl : t ≤ ks.length := by have := hE.out.2.1.tkl q; rw [hrf, ht] at this; exact this
          have HT := hid ht
          have HRF := hid hrf
          have HKN := hid hkn
          have HKS := hid HKS
          have hqz : (q : Int) < (n : Int) := by omega
          have e1 : ((m : Int) + 1).toNat = m + 1 := by omega
          clear hm ht hks hrf hkn
          by_cases htk : t = ks.length
          · have htz : ((t : Int) == (ks.length : Int)) = true := by simp [htk]
            have HTK := hid htk
            clear htk
            go_wp2_with fail
            go_quiet (fail)
            obtain ⟨wq, hwq⟩ : ∃ wq, wj.drewN nq = wq := ⟨_, rfl⟩
            have HLQ := hid (HL.out.heap (w' := wq) (by rw [← hwq]; rfl))
            have HBQ := hid (show Below w.heap.size w wq from hwq ▸ HB.out.trans (below_drewN _ _ _))
            rw [hwq]
            clear hwq y1 y1f y2 y3 y3f y4
            obtain ⟨y1, y1f⟩ := HLQ.out.cp
            rw [List.length_append, List.length_singleton, ← HM.out] at y1
            have HLP := HLQ.out.pop
            rw [← HM.out] at HLP
            have HLP := hid HLP
            have HBP := hid (HBQ.out.setCell (p := ⟨w.heap.size, 0, none⟩) (Nat.le_refl _) (.slice (some ⟨g0, 0, none⟩) m c))
            have hszp := HBP.out.size
            have HRO := hid HLP.out.done
            have HNW : Hid (∀ j u, [Value.int .i64 (q : Int)][j]? = some u → ((wq.setCell ⟨w.heap.size, 0, none⟩ (.slice (some ⟨g0, 0, none⟩) m c)).alloc (.cells #[.int .i64 (q : Int)] 3)).cell? ((⟨wq.heap.size, 0, none⟩ : Addr).add j) = some u) := hid (by
              have := cell_one_new (wq.setCell ⟨w.heap.size, 0, none⟩ (.slice (some ⟨g0, 0, none⟩) m c)) (.int .i64 (q : Int)) 3
              rw [World.size_setCell] at this
              exact this)
            have hDn : D.length ≤ n := Gr.nodup_le n D hE.out.2.1.dnd (fun x hx => hE.out.2.1.slt x ((hE.out.2.1.mem x).2 (Or.inr hx)))
            have HP := hid (hE.out.2.1.pop (by rw [HT.out, HRF.out]; exact HTK.out))
            have HLE := hid (Gr.left2_pop (Gr.rowsF rows) n P0 (Gr.fn tk) q)
            have HLM := hid (fun (o : Obj) (w1 : World) (g' cap' : Nat) => HLP.out.more (w1 := w1) (o := o) (i := q) (g' := g') (cap' := cap'))
            go_wp2_with (at_builtin; refine wpList_append_own_at _ rfl _ _ 30 rfl w.heap.size 3 i0 (.int .i64 0) 1 8 Try.underlying30 hi0 hz0 hz1 hz2 rfl (by decide) _ _ _ rfl (HRO.out.alloc _) ⟨wq.heap.size, 0, none⟩ 1 1 [.int .i64 (q : Int)] rfl rfl HNW.out (ints_oneCell .i64 [(q : Int)]) (by unfold maxLen; omega) (by omega) (by simp at hszp ⊢; omega) ?_; intro v' w2 hown' hgrow hnil hloc; obtain ⟨g', cap', rfl⟩ := row_succ hown'; have HV := hid (HLM.out _ _ _ _ hown' hgrow hloc); clear hown' hgrow hnil hloc)
            go_roundg (Gr.left2 (Gr.rowsF rows) n P0 (Gr.fn tk))
            case measure => have h1 := HLE.out; have h2 := hE.out.1; omega
            case rel => exact ⟨S, P0, D ++ [q], tk, _, _, _, _, by simp, hid ⟨rfl, HP.out, hE.out.2.2⟩, HV.out.1, HBP.out.trans HV.out.2⟩
          · have htz : ((t : Int) == (ks.length : Int)) = false := by simp; omega
            have htlt : t < ks.length := by omega
            have HTK := hid htlt
            clear htk
            go_wp2_with fail
            go_quiet (fail)
            obtain ⟨wq, hwq⟩ : ∃ wq, wj.drewN nq = wq := ⟨_, rfl⟩
            have HLQ := hid (HL.out.heap (w' := wq) (by rw [← hwq]; rfl))
            have HBQ := hid (show Below w.heap.size w wq from hwq ▸ HB.out.trans (below_drewN _ _ _))
            rw [hwq]
            clear hwq y1 y1f y2 y3 y3f y4
            obtain ⟨y3, y3f⟩ := HLQ.out.took hqn
            rw [HT.out] at y3
            obtain ⟨t1, ht1⟩ : ∃ t1, t + 1 = t1 := ⟨_, rfl⟩
            have et : (t : Int) + 1 = (t1 : Int) := by omega
            have et2 : (t1 : Int) - 1 = (t : Int) := by omega
            have HLT := hid (HLQ.out.tset q t1)
            have HBT := hid (HBQ.out.setCell (p := ⟨w.heap.size + 1, q, none⟩) (by simp) (.int .i64 (t1 : Int)))
            go_wp2_with fail
            obtain ⟨wt, hwt⟩ : ∃ wt, wq.setCell ⟨w.heap.size + 1, q, none⟩ (.int .i64 (t1 : Int)) = wt := ⟨_, rfl⟩
            rw [hwt] at HLT HBT ⊢
            clear hwt y3 y3f
            have y4 := Y4.out _ HBT.out
            have y3 := (HLT.out.took hqn).1
            have HF := hid (fn_more tk q t1 (by rw [HL.out.tlen]; exact hqn) (by rw [HT.out]; exact ht1))
            have hft : Gr.fn (tk.set q t1) q = t1 := by rw [HF.out]; simp; rw [HT.out]; exact ht1
            rw [hft] at y3
            obtain ⟨bk, rfl, -, y5⟩ := HKS.out.atv HBT.out htlt
            have hvn := HKN.out (ks[t]'htlt) (List.getElem_mem htlt)
            have hgt : ∀ h, (Gr.rowsF rows q)[t]'h = ks[t]'htlt := by rw [HRF.out]; intro h; rfl
            have HGT := hid hgt
            obtain ⟨v, hv⟩ : ∃ v, ks[t]'htlt = v := ⟨_, rfl⟩
            rw [hv] at y5 hvn
            simp only [hv] at HGT
            have htz2 : (t : Int) < (ks.length : Int) := by omega
            clear hv hgt hft ht1
            obtain ⟨wd, hwd⟩ : ∃ wd, wd = wt.drew := ⟨_, rfl⟩
            refine wp_region_still_tail 12 (by kernel_rfl) (by kernel_rfl) ?_
            simp only [List.take_succ_cons, List.take_zero, List.drop_succ_cons, List.drop_zero]
            change wpStill _ _ (World.drew _) _ _ _
            rw [← hwd]
            have HLD := hid (HLT.out.heap (w' := wd) (by rw [hwd]; rfl))
            have HBD := hid (show Below w.heap.size w wd from hwd ▸ HBT.out.drew)
            have d3 : wd.cell? ⟨w.heap.size + 1, q, none⟩ = some (.int .i64 (t1 : Int)) := by rw [hwd]; exact y3
            have d4 : wd.cell? ⟨b, q, none⟩ = some (.slice (some ⟨bk, 0, none⟩) ks.length cq) := by rw [hwd]; exact y4
            have d5 : wd.cell? ⟨bk, t, none⟩ = some (.int .i64 (v : Int)) := by rw [hwd]; exact y5
            have HC := hid (enter_any HLD.out (by have := HM.out; simp; omega) hvn)
            have HQN : Hid (∀ Q tk', Q.length ≤ (P0 ++ [q]).length + 1 → tk' = (fun a => if a = q then Gr.fn tk q + 1 else Gr.fn tk a) → Gr.left2 (Gr.rowsF rows) n Q tk' < Gr.left2 (Gr.rowsF rows) n (P0 ++ [q]) (Gr.fn tk)) := hid (fun Q tk' h1 h2 => by
              rw [h2]
              exact Gr.left2_take _ _ _ _ _ _ hqn (by rw [HT.out, HRF.out]; exact HTK.out) h1)
            have HST := hid (show Gr.St (Gr.rowsF rows) n (if v ∈ S then S else S ++ [v]) (if v ∈ S then P0 ++ [q] else P0 ++ [q] ++ [v]) D (Gr.fn (tk.set q t1)) ∧ ∀ j, j < k + 1 → j ∈ (if v ∈ S then S else S ++ [v]) from by
              have hlt : Gr.fn tk q < (Gr.rowsF rows q).length := by rw [HT.out, HRF.out]; exact HTK.out
              have hv : (Gr.rowsF rows q)[Gr.fn tk q]'hlt = v := by simp only [HT.out]; exact HGT.out _
              rw [HF.out]
              by_cases hm : v ∈ S
              · simp only [if_pos hm]
                exact ⟨hE.out.2.1.take hqS hlt (by rw [hv]; exact hm), hE.out.2.2⟩
              · simp only [if_neg hm]
                have hqv : Gr.Rch (Gr.rowsF rows) q v := .one (by rw [← hv]; exact List.getElem_mem hlt)
                have h1 := hE.out.2.1.enter hm hvn (fun a ha => by
                  rcases List.mem_append.1 ha with h | h
                  · exact ((List.pairwise_append.1 hE.out.2.1.way).2.2 a h q (by simp)).trans hqv
                  · rw [List.mem_singleton.1 h]; exact hqv)
                exact ⟨h1.take (List.mem_append_left _ hqS) hlt (by rw [hv]; simp), fun j hj => List.mem_append_left _ (hE.out.2.2 j hj)⟩)
            have HWD := hid hwd
            clear y3 y4 y5 hwd
            have ew : IntKind.i64.wrap (t : Int) = (t : Int) := IntWalk.i64_in _ (by omega)
            have ew2 : IntKind.i64.wrap ((t1 : Int) - 1) = (t : Int) := by rw [et2]; exact ew
            repeat still_step
            refine wpStill_nil ?_
            change wpList _ _ _ _ _ (World.drew _)
            rw [← HWD.out]
            clear d3 d4 d5
            obtain ⟨S1, hS1⟩ : ∃ S1, S1 = (if v ∈ S then S else S ++ [v]) := ⟨_, rfl⟩
            obtain ⟨Q1, hQ1⟩ : ∃ Q1 : List Nat, Q1 = (if v ∈ S then P0 ++ [q] else P0 ++ [q] ++ [v]) := ⟨_, rfl⟩
            have HQ1 : Hid (Q1.length ≤ (P0 ++ [q]).length + 1) := hid (by rw [hQ1]; split <;> simp)
            rw [← hS1, ← hQ1] at HC HST
            clear hS1 hQ1
            go_wp2_with fail
            refine (HC.out).mono ?_
            rintro e w3 ⟨rfl, A3, c3, hL3, hb3⟩
            have HL3 := hid hL3
            have HB3 := hid (HBD.out.trans hb3)
            clear hL3 hb3
            go_wp2_with fail
            go_roundg (Gr.left2 (Gr.rowsF rows) n Q1 (Gr.fn (tk.set q t1)))
            case measure => have h1 := HQN.out Q1 _ HQ1.out HF.out; have h2 := hE.out.1; omega
            case rel => exact ⟨S1, Q1, D, tk.set q t1, Ad, cd, A3, c3, rfl, hid ⟨rfl, HST.out⟩, HL3.out, HB3.out⟩
    · have hkz : ¬ (k : Int) < (n : Int) := by omega
      have HE := hid (show Gr.Left (Gr.rowsF rows) n (fun i => S.idxOf i) D from hE.out.1.end_ (fun i hi => hE.out.2 i (by omega)))
      have HV := hid HL.out.done
      clear hE
      go_wp2_with fail
      go_ret
      exact ⟨_, D, _, rfl, HV.out, HB.out, HE.out⟩

end Go.Proofs.Ytahaflapkdjmhaa
