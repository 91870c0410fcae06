/-
  The walks of the reference's least and ready. Conditions: few modules, short names.
-/
import Derived.Test.YtifcilhcjghmkaaGrXb
namespace Go.Proofs.Ytifcilhcjghmkaa
open Go.RowKit

namespace Gr
theorem bestI_lt {b : Option Nat} {n : Nat} (h : ∀ m, b = some m → m < n) : bestI b < n := by
  cases b with
  | none => simp [bestI]; omega
  | some m => have := h m rfl; simp [bestI]; omega
end Gr

set_option maxRecDepth 1000000 in
set_option maxHeartbeats 8000000 in
theorem rleast_any (l : List Gr.Md) (hn : l.length ≤ 20) (M : Nat → Bool) (v : Value) (b : Nat) (w : World) (hx : RdM w w.heap.size v l) (hb : b < w.heap.size) (hm : ∀ i, i < l.length → w.cell? ⟨b, i, none⟩ = some (.bool (M i))) :
    Calls Try.prog 27 #[v, .slice (some ⟨b, 0, none⟩) l.length l.length] w fun e w' => e = .returned (.int .i64 (Gr.bestI (Gr.leastL (Gr.nlt l) none ((List.range l.length).filter M)))) ∧ w'.heap = w.heap ∧ Below w.heap.size w w' := by
  have HX := hid hx
  have HM := hid hm
  obtain ⟨A, cap, rfl, -, -, -⟩ := hx
  clear hm
  go_enter Try.func27, Try.ntmps27
  go_wp2_with fail
  go_loopw [5, 6] (fun vb vi wr => ∃ (k : Nat) (bo : Option Nat), vb = .int .i64 (Gr.bestI bo) ∧ vi = .int .i64 k ∧ k ≤ l.length ∧ Hid ((∀ m, bo = some m → m < l.length) ∧ Gr.leastL (Gr.nlt l) bo (((List.range l.length).drop k).filter M) = Gr.leastL (Gr.nlt l) none ((List.range l.length).filter M)) ∧ wr.heap = w.heap ∧ Below w.heap.size w wr) (fun _ vi _ => l.length - (intOf vi).toNat)
  case atStart => exact ⟨0, none, rfl, rfl, by omega, hid ⟨by simp, rfl⟩, rfl, Below.refl _ _⟩
  case round =>
    obtain ⟨k, bo, rfl, rfl, hk, hE, hh, hbel⟩ := hrel
    obtain ⟨wo, hwo⟩ : ∃ wo : World, wo = wr := ⟨_, rfl⟩
    subst hwo
    by_cases hlt : k < l.length
    · have hkz : (k : Int) < (l.length : Int) := by omega
      have m1 : wo.cell? ⟨b, k, none⟩ = some (.bool (M k)) := (hbel.cell (p := ⟨b, k, none⟩) hb).trans (HM.out k hlt)
      have hst := hE.out.2
      rw [Gr.leastB _ _ _ hlt] at hst
      have HBO := hid hE.out.1
      have HH := hid (And.intro hh hbel)
      clear hE hh
      by_cases hM : M k = true
      · rw [hM, if_pos rfl] at hst
        rw [hM] at m1
        cases bo with
        | none =>
          rw [Gr.better] at hst
          have HV := hid hst
          clear hst hM
          rw [Gr.bestI]
          go_wp2_with fail
          go_quiet (fail)
          obtain ⟨wq, hwq⟩ : ∃ wq, wo.drewN nq = wq := ⟨_, rfl⟩
          have HQ := hid (show wq.heap = w.heap ∧ Below w.heap.size w wq from hwq ▸ ⟨HH.out.1, HH.out.2.trans (below_drewN _ _ _)⟩)
          rw [hwq]
          clear hwq m1
          go_wp2_with fail
          go_roundw
          case rel => exact ⟨k + 1, some k, by rw [Gr.bestI], by go_num, by omega, hid ⟨fun m e => by injection e with e; omega, HV.out⟩, HQ.out.1, HQ.out.2⟩
          case measure => simp [intOf]; omega
        | some m =>
          have hml := HBO.out m rfl
          obtain ⟨bl, ol, cl, Ai, ci, Ad, nd, cd, As, ns, cs, hv, hbl, y1, -⟩ := HX.out.at_ hbel hlt
          simp only [Value.slice.injEq, true_and] at hv
          obtain ⟨rfl, rfl⟩ := hv
          obtain ⟨bl', ol', cl', Ai', ci', Ad', nd', cd', As', ns', cs', hv', hbl', y2, -⟩ := HX.out.at_ hbel hml
          simp only [Value.slice.injEq, Option.some.injEq, Addr.mk.injEq, and_true, true_and] at hv'
          obtain ⟨⟨rfl, rfl⟩, rfl⟩ := hv'
          have hnl : Gr.nlt l k m = Op.bytesLess l[k].name.toList l[m].name.toList := by simp [Gr.nlt, Gr.nm_at hlt, Gr.nm_at hml]
          obtain ⟨sk, hsk⟩ : ∃ s, s = l[k].name := ⟨_, rfl⟩
          obtain ⟨sm, hsm⟩ : ∃ s, s = l[m].name := ⟨_, rfl⟩
          rw [← hsk] at y1 hnl
          rw [← hsm] at y2 hnl
          rw [Gr.better] at hst
          have hmz : (m : Int) < (l.length : Int) := by omega
          obtain ⟨bb, hbb⟩ : ∃ bb, Op.bytesLess sk.toList sm.toList = bb := ⟨_, rfl⟩
          rw [hnl, hbb] at hst
          have HV := hid hst
          clear hst hM hsk hsm hnl hbel
          rw [Gr.bestI]
          cases bb with
          | true =>
            go_wp2_with fail
            go_quiet (fail)
            obtain ⟨wq, hwq⟩ : ∃ wq, wo.drewN nq = wq := ⟨_, rfl⟩
            have HQ := hid (show wq.heap = w.heap ∧ Below w.heap.size w wq from hwq ▸ ⟨HH.out.1, HH.out.2.trans (below_drewN _ _ _)⟩)
            rw [hwq]
            clear hwq m1 y1 y2
            go_wp2_with fail
            go_roundw
            case rel => exact ⟨k + 1, some k, by rw [Gr.bestI], by go_num, by omega, hid ⟨fun m e => by injection e with e; omega, HV.out⟩, HQ.out.1, HQ.out.2⟩
            case measure => simp [intOf]; omega
          | false =>
            go_wp2_with fail
            go_quiet (fail)
            obtain ⟨wq, hwq⟩ : ∃ wq, wo.drewN nq = wq := ⟨_, rfl⟩
            have HQ := hid (show wq.heap = w.heap ∧ Below w.heap.size w wq from hwq ▸ ⟨HH.out.1, HH.out.2.trans (below_drewN _ _ _)⟩)
            rw [hwq]
            clear hwq m1 y1 y2
            go_wp2_with fail
            go_roundw
            case rel => exact ⟨k + 1, some m, by rw [Gr.bestI], by go_num, by omega, hid ⟨fun x e => by injection e with e; omega, HV.out⟩, HQ.out.1, HQ.out.2⟩
            case measure => simp [intOf]; omega
      · have hM2 : M k = false := by simpa using hM
        rw [hM2, if_neg (by simp)] at hst
        rw [hM2] at m1
        have HV := hid hst
        clear hst hM hM2
        obtain ⟨bi, hbi⟩ : ∃ bi, bi = Gr.bestI bo := ⟨_, rfl⟩
        rw [← hbi]
        have HBI := hid hbi
        clear hbi
        go_wp2_with fail
        go_quiet (fail)
        obtain ⟨wq, hwq⟩ : ∃ wq, wo.drewN nq = wq := ⟨_, rfl⟩
        have HQ := hid (show wq.heap = w.heap ∧ Below w.heap.size w wq from hwq ▸ ⟨HH.out.1, HH.out.2.trans (below_drewN _ _ _)⟩)
        rw [hwq]
        clear hwq m1
        go_wp2_with fail
        go_roundw
        case rel => exact ⟨k + 1, bo, by rw [HBI.out], by go_num, by omega, hid ⟨HBO.out, HV.out⟩, HQ.out.1, HQ.out.2⟩
        case measure => simp [intOf]; omega
    · have hkz : ¬ (k : Int) < (l.length : Int) := by omega
      have HV := hid (show bo = Gr.leastL (Gr.nlt l) none ((List.range l.length).filter M) from by
        have := hE.out.2
        rw [List.drop_eq_nil_of_le (by simp; omega), List.filter_nil] at this
        exact (by simpa [Gr.leastL] using this))
      have HH := hid (And.intro hh hbel)
      clear hE hh hbel
      obtain ⟨bi, hbi⟩ : ∃ bi, bi = Gr.bestI bo := ⟨_, rfl⟩
      rw [← hbi]
      have HBI := hid hbi
      clear hbi
      go_wp2_with fail
      go_ret
      exact ⟨ret_int (by rw [HBI.out, HV.out]), HH.out.1, HH.out.2⟩

set_option maxRecDepth 1000000 in
set_option maxHeartbeats 4000000 in
theorem ready_any (l : List Gr.Md) (hq : Gr.Few l) (v vc : Value) (i : Nat) (hi : i < l.length) (come : List Nat) (hc : come.length ≤ 1000) (w : World) (hx : RdM w w.heap.size v l) (hxc : RdN w w.heap.size vc come) :
    Calls Try.prog 28 #[v, .int .i64 (i : Int), vc] w fun e w' => e = .returned (.bool (Gr.readyB l l[i].imps come)) ∧ w = w' := by
  have HX := hid hx
  have HC := hid hxc
  have hil := hq.imps l[i] (List.getElem_mem hi)
  have hn := hq.n
  obtain ⟨b, o, cap, Ai, ci, Ad, nd, cd, As, ns, cs, rfl, hb, x0, x1, x2, x3, hS⟩ := hx.at_ (Below.refl _ _) hi
  obtain ⟨A2, c2, rfl, -, -, -⟩ := hxc
  obtain ⟨is, hni⟩ : ∃ is, l[i].imps = is := ⟨_, rfl⟩
  rw [hni] at x1 hS hil ⊢
  have HS := hid hS
  have hiz : (i : Int) < (l.length : Int) := by omega
  have HIN := hid (fun x => in_any (come.map fun k : Nat => (k : Int)) (by simp; omega) x _ w HC.out.rdi)
  clear hni hS x0 x2 x3 hq
  go_enter Try.func28, Try.ntmps28
  go_wp2_with fail
  go_loop [7] (fun vi => ∃ k : Nat, vi = .int .i64 k ∧ k ≤ is.length ∧ Hid (Gr.readyB l (is.drop k) come = Gr.readyB l is come)) (fun vi => is.length - (intOf vi).toNat)
  case atStart => exact ⟨0, rfl, by omega, hid rfl⟩
  case round =>
    obtain ⟨k, rfl, hk, hE⟩ := hrel
    by_cases hlt : k < is.length
    · have hkz : (k : Int) < (is.length : Int) := by omega
      obtain ⟨b2, o2, c', hv, hb2, y0⟩ := HS.out.at_ (Below.refl _ _) hlt
      simp only [Value.slice.injEq, true_and] at hv
      obtain ⟨rfl, rfl⟩ := hv
      have hst := hE.out
      rw [List.drop_eq_getElem_cons hlt, Gr.readyB, List.all_cons] at hst
      obtain ⟨s, hs⟩ : ∃ s, s = is[k] := ⟨_, rfl⟩
      rw [← hs] at y0 hst
      have HF := hid (find_any l s _ w HX.out)
      obtain ⟨q, hqe⟩ : ∃ q, Gr.find s l 0 = q := ⟨_, rfl⟩
      rw [hqe] at hst HF
      have HI := hid (HIN.out q)
      obtain ⟨bb, hbb⟩ : ∃ bb, ((come.map fun k : Nat => (k : Int)).any fun x => decide (x = q)) = bb := ⟨_, rfl⟩
      rw [hbb] at hst HI
      clear hs hE hqe hbb
      cases bb with
      | true =>
        rw [Bool.true_and] at hst
        have HV := hid hst
        clear hst
        go_wp2_with fail
        refine (HF.out).mono ?_
        rintro e w2 ⟨rfl, rfl⟩
        go_wp2_with fail
        refine (HI.out).mono ?_
        rintro e w2 ⟨rfl, rfl⟩
        go_wp2_with fail
        go_round
        case rel => exact ⟨k + 1, by go_num, by omega, HV⟩
        case measure => simp [intOf]; omega
      | false =>
        rw [Bool.false_and] at hst
        have HV := hid hst
        clear hst
        go_wp2_with fail
        refine (HF.out).mono ?_
        rintro e w2 ⟨rfl, rfl⟩
        go_wp2_with fail
        refine (HI.out).mono ?_
        rintro e w2 ⟨rfl, rfl⟩
        go_wp2_with fail
        go_ret
        exact ⟨ret_bool HV.out, rfl⟩
    · have hkz : ¬ (k : Int) < (is.length : Int) := by omega
      have HV : Hid (Gr.readyB l is come = true) := hid (by rw [← hE.out, List.drop_eq_nil_of_le (by omega)]; rfl)
      clear hE
      go_wp2_with fail
      go_ret
      exact ⟨ret_bool HV.out.symm, rfl⟩

end Go.Proofs.Ytifcilhcjghmkaa
