/-
  The walk of the reference's reached. Conditions: few modules, short names.
-/
import Derived.Test.YtifcilhcjghmkaaGrU2
import Derived.Test.YtifcilhcjghmkaaGrR
namespace Go.Proofs.Ytifcilhcjghmkaa
open Go.RowKit

namespace Gr
/-- One mark more. -/
def mark1 (M : Nat → Bool) (a : Nat) : Nat → Bool := fun j => M j || decide (j = a)
theorem more_nil (M : Nat → Bool) : more M [] = M := by funext j; simp [more]
theorem more_cons (M : Nat → Bool) (a : Nat) (l : List Nat) : more M (a :: l) = more (mark1 M a) l := by
  funext j
  simp only [more, mark1, List.mem_cons, Bool.or_assoc]
  congr 1
  rw [Bool.eq_iff_iff]
  simp
theorem more_none (l : List Md) (M : Nat → Bool) (s : ByteArray) (ss : List ByteArray) (h : atN l s = none) : more M ((s :: ss).filterMap (atN l)) = more M (ss.filterMap (atN l)) := by
  rw [List.filterMap_cons, h]
theorem more_some (l : List Md) (M : Nat → Bool) (s : ByteArray) (ss : List ByteArray) {a : Nat} (h : atN l s = some a) : more M ((s :: ss).filterMap (atN l)) = more (mark1 M a) (ss.filterMap (atN l)) := by
  rw [List.filterMap_cons, h]
  exact more_cons _ _ _
theorem nxL_at {l : List Md} {k : Nat} (hk : k < l.length) : nxL l k = l[k].imps.filterMap (atN l) := by
  simp [nxL, rowsF, linksL, hk, rowOf]
/-- What the reference marks. -/
def reachM (l : List Md) (i : Nat) : Nat → Bool := rnds (nxL l) l.length i (l.length + 1) (fun _ => false)
theorem reachM_iff {l : List Md} {i : Nat} (hi : i < l.length) (j : Nat) : reachM l i j = true ↔ ∃ k ∈ nxL l i, Rch (nxL l) k j := rnds_reach (nxL_lt l) hi j
theorem rnd_step (nx : Nat → List Nat) (i n k : Nat) (hk : k < n) (M : Nat → Bool) : rnd nx i ((List.range n).drop k) M = rnd nx i ((List.range n).drop (k + 1)) (if decide (k = i) || M k then more M (nx k) else M) := by
  rw [List.drop_eq_getElem_cons (by simpa using hk), rnd]
  simp
end Gr

def mkV (n : Nat) (M : Nat → Bool) : List Value := (List.range n).map fun i => Value.bool (M i)
theorem mkV_at {n i : Nat} (M : Nat → Bool) (hi : i < n) : (mkV n M)[i]? = some (.bool (M i)) := by simp [mkV, hi]
theorem mkV_set {n i : Nat} (M : Nat → Bool) (hi : i < n) : (mkV n M).set i (.bool true) = mkV n (Gr.mark1 M i) := by
  apply List.ext_getElem?
  intro k
  rw [List.getElem?_set]
  by_cases hk : k < n
  · by_cases e : i = k
    · subst e; simp [mkV, hk, Gr.mark1]
    · have : ¬ k = i := fun h => e h.symm
      simp [mkV, hk, e, this, Gr.mark1]
  · by_cases e : i = k
    · omega
    · simp [mkV, hk, e]
/-- A row of marks of the call's own. -/
def OwnB (w : World) (b n : Nat) (M : Nat → Bool) : Prop := w.ownsRow b 4 1 (.slice (some ⟨b, 0, none⟩) n n) n (mkV n M)
theorem OwnB.lt {w : World} {b n : Nat} {M : Nat → Bool} (h : OwnB w b n M) : b < w.heap.size := (World.ownsRow.lt h b rfl).2
theorem OwnB.at_ {w : World} {b n : Nat} {M : Nat → Bool} (h : OwnB w b n M) {i : Nat} (hi : i < n) : w.cell? ⟨b, i, none⟩ = some (.bool (M i)) ∧ w.frozen? ⟨b, i, none⟩ = false := by
  refine ⟨?_, World.ownsRow.frozenAt h i⟩
  rw [World.ownsRow.cellAt h i (by omega)]
  exact mkV_at _ hi
theorem OwnB.set {w : World} {b n : Nat} {M : Nat → Bool} (h : OwnB w b n M) {i : Nat} (hi : i < n) : OwnB (w.setCell ⟨b, i, none⟩ (.bool true)) b n (Gr.mark1 M i) := by
  have h1 := (World.ownsRow.stored h i (.bool true)).1
  rw [mkV_set _ hi] at h1
  exact h1
theorem OwnB.below {w w' : World} {b n : Nat} {M : Nat → Bool} (h : OwnB w b n M) (hb : w'.heap[b]? = w.heap[b]?) : OwnB w' b n M :=
  row_kept h (fun g hg => by
    simp only [Value.ownBlock, Option.some.injEq] at hg
    subst hg
    exact hb)
theorem OwnB.made (w : World) (n : Nat) (hn : n ≤ 1000000) : OwnB (w.alloc (.cells (madeCells #[.bool false] n) 4)) w.heap.size n (fun _ => false) := by
  have := World.ownsRow_lit (base := w.heap.size) (e := 4) (size := 1) w (madeCells #[.bool false] n) n (Nat.le_refl _) (by unfold maxLen; omega) (by simp [size_madeCells])
  rw [toList_madeCells_one] at this
  have e : mkV n (fun _ => false) = List.replicate n (.bool false) := by
    apply List.ext_getElem?
    intro j
    by_cases hj : j < n <;> simp [hj, mkV]
  unfold OwnB
  rw [e]
  exact this

set_option maxRecDepth 1000000 in
set_option maxHeartbeats 8000000 in
theorem reached_any (l : List Gr.Md) (hq : Gr.Few l) (v : Value) (i : Nat) (hi : i < l.length) (w : World) (hx : RdM w w.heap.size v l) :
    Calls Try.prog 26 #[v, .int .i64 (i : Int)] w fun e w' => e = .returned (.slice (some ⟨w.heap.size, 0, none⟩) l.length l.length) ∧ OwnB w' w.heap.size l.length (Gr.reachM l i) ∧ Below w.heap.size w w' := by
  have HX := hid hx
  have HQ := hid hq
  have hn := hq.n
  clear hq
  obtain ⟨A, cap, rfl, -, -, -⟩ := hx
  have hmk := run_make_row' (P := Try.prog) 39 4 (.bool false) 1 Try.underlying39 info_bool rfl .i64 .i64 l.length (by omega) (by omega)
  go_enter Try.func26, Try.ntmps26
  go_wp2_with fail
  go_loopw [6] (fun vi wr => ∃ (r : Nat) (M : Nat → Bool), vi = .int .i64 r ∧ r ≤ l.length + 1 ∧ Hid (Gr.rnds (Gr.nxL l) l.length i (l.length + 1 - r) M = Gr.reachM l i) ∧ OwnB wr w.heap.size l.length M ∧ Below w.heap.size w wr) (fun vi _ => l.length + 1 - (intOf vi).toNat)
  case atStart => exact ⟨0, _, rfl, by omega, hid rfl, OwnB.made w l.length (by omega), below_new _⟩
  case round =>
    obtain ⟨r, M, rfl, hr, hE, hO, hbel⟩ := hrel
    by_cases hlt : r ≤ l.length
    · have hrz : (r : Int) ≤ (l.length : Int) := by omega
      have HE := hid (show Gr.rnds (Gr.nxL l) l.length i (l.length - r) (Gr.rnd (Gr.nxL l) i ((List.range l.length).drop 0) M) = Gr.reachM l i from by
        rw [← hE.out, show l.length + 1 - r = (l.length - r) + 1 by omega, Gr.rnds, List.drop_zero])
      have HO0 := hid hO
      have HB0 := hid hbel
      clear hE hO hbel
      go_wp2_with fail
      go_loopw [7] (fun vk wi => ∃ (k : Nat) (M : Nat → Bool), vk = .int .i64 k ∧ k ≤ l.length ∧ Hid (Gr.rnds (Gr.nxL l) l.length i (l.length - r) (Gr.rnd (Gr.nxL l) i ((List.range l.length).drop k) M) = Gr.reachM l i) ∧ OwnB wi w.heap.size l.length M ∧ Below w.heap.size w wi) (fun vk _ => l.length - (intOf vk).toNat)
      case atStart => exact ⟨0, M, rfl, by omega, HE, HO0.out, HB0.out⟩
      case round =>
        clear HE HO0 HB0
        obtain ⟨k, M, rfl, hk, hE, hO, hbel⟩ := hrel
        by_cases hkl : k < l.length
        · have hkz : (k : Int) < (l.length : Int) := by omega
          have hst := hE.out
          rw [Gr.rnd_step _ _ _ _ hkl] at hst
          obtain ⟨m1, m2⟩ := hO.at_ hkl
          obtain ⟨wo, hwo⟩ : ∃ wo : World, wo = wr := ⟨_, rfl⟩
          subst hwo
          have HO := hid hO
          have HB := hid hbel
          clear hE hO hbel
          by_cases g : (decide (k = i) || M k) = true
          · rw [if_pos g, Gr.nxL_at hkl] at hst
            obtain ⟨G, hG⟩ : ∃ G : (Nat → Bool) → Prop, ∀ M, G M ↔ Gr.rnds (Gr.nxL l) l.length i (l.length - r) (Gr.rnd (Gr.nxL l) i ((List.range l.length).drop (k + 1)) M) = Gr.reachM l i := ⟨_, fun _ => Iff.rfl⟩
            have HST := hid ((hG _).2 hst)
            have HG := hid hG
            clear hst hG
            by_cases hki : k = i
            case' pos =>
              have hkb : ((k : Int) != (i : Int)) = false := by simp; omega
              clear g hki m1 m2
              go_wp2_with fail
              obtain ⟨wq, hwq⟩ : ∃ wq, wo = wq := ⟨_, rfl⟩
              have HOQ := hid (HO.out.below (w' := wq) (by rw [← hwq]))
              have HBQ := hid (show Below w.heap.size w wq from hwq ▸ HB.out)
            case' neg =>
              have hkb : ((k : Int) != (i : Int)) = true := by simp; omega
              have hM : M k = true := by simpa [hki] using g
              rw [hM] at m1
              clear g hki hM
              go_wp2_with fail
              clear m1 m2
              obtain ⟨wq, hwq⟩ : ∃ wq, wo = wq := ⟨_, rfl⟩
              have HOQ := hid (HO.out.below (w' := wq) (by rw [← hwq]))
              have HBQ := hid (show Below w.heap.size w wq from hwq ▸ HB.out)
            all_goals
              clear hkb
              rw [hwq]
              clear hwq HO HB
              obtain ⟨b, o, c', Ai, ci, Ad, nd, cd, As, ns, cs, hv, hb, x0, x1, x2, x3, hS⟩ := HX.out.at_ HBQ.out hkl
              simp only [Value.slice.injEq, true_and] at hv
              obtain ⟨rfl, rfl⟩ := hv
              have hil := HQ.out.imps l[k] (List.getElem_mem hkl)
              obtain ⟨is, hni⟩ : ∃ is, l[k].imps = is := ⟨_, rfl⟩
              rw [hni] at x1 hS hil HST
              have HS := hid hS
              have X1 := hid (fun (W : World) (hW : Below w.heap.size w W) => (hW.cell (p := ⟨b, o + k * 4 + 1, none⟩) hb).trans (((HBQ.out.cell (p := ⟨b, o + k * 4 + 1, none⟩) hb).symm.trans x1)))
              clear hni hS x0 x2 x3
              go_wp2_with fail
              go_loopw [8] (fun vj wi => ∃ (j : Nat) (M : Nat → Bool), vj = .int .i64 j ∧ j ≤ is.length ∧ Hid (G (Gr.more M ((is.drop j).filterMap (Gr.atN l)))) ∧ OwnB wi w.heap.size l.length M ∧ Below w.heap.size w wi) (fun vj _ => is.length - (intOf vj).toNat)
              case atStart => exact ⟨0, M, rfl, by omega, by simpa using HST, HOQ.out, HBQ.out⟩
              case round =>
                clear HST HOQ HBQ x1
                obtain ⟨j, M, rfl, hj, hE, hO, hbel⟩ := hrel
                obtain ⟨wj, hwj⟩ : ∃ wj : World, wj = wr := ⟨_, rfl⟩
                subst hwj
                have x1 := X1.out _ hbel
                by_cases hjl : j < is.length
                · have hjz : (j : Int) < (is.length : Int) := by omega
                  obtain ⟨b2, o2, c', hv, hb2, y0⟩ := HS.out.at_ hbel hjl
                  simp only [Value.slice.injEq, true_and] at hv
                  obtain ⟨rfl, rfl⟩ := hv
                  have hst := hE.out
                  rw [List.drop_eq_getElem_cons hjl] at hst
                  obtain ⟨s, hs⟩ : ∃ s, s = is[j] := ⟨_, rfl⟩
                  rw [← hs] at y0 hst
                  have hF := hid (find_any l s (.slice (some ⟨b, o, none⟩) l.length cap) wj ((HX.out.below hbel).mono hbel.size))
                  have hat : Gr.atN l s = if 0 ≤ Gr.find s l 0 then some (Gr.find s l 0).toNat else none := rfl
                  have hfl := (Gr.find_lt s l).2
                  have HO := hid hO
                  have HB := hid hbel
                  clear hs hE hO hbel
                  by_cases gf : 0 ≤ Gr.find s l 0
                  · obtain ⟨q, hqe⟩ : ∃ q : Nat, Gr.find s l 0 = q := ⟨(Gr.find s l 0).toNat, by omega⟩
                    rw [hqe] at hF hfl hat
                    rw [if_pos (by omega), Int.toNat_natCast] at hat
                    rw [Gr.more_some l _ _ _ hat] at hst
                    have HST := hid hst
                    have hql : q < l.length := by omega
                    obtain ⟨m1, m2⟩ := HO.out.at_ hql
                    clear hst hat gf hqe
                    go_wp2_with fail
                    refine (hF.out).mono ?_
                    rintro e w2 ⟨rfl, rfl⟩
                    go_wp2_with fail
                    go_roundw
                    case rel => exact ⟨j + 1, _, by go_num, by omega, HST, HO.out.set hql, HB.out.setCell (Nat.le_refl _) _⟩
                    case measure => simp [intOf]; omega
                  · rw [if_neg gf] at hat
                    rw [Gr.more_none l _ _ _ hat] at hst
                    have HST := hid hst
                    obtain ⟨q, hqe⟩ : ∃ q : Int, Gr.find s l 0 = q := ⟨_, rfl⟩
                    rw [hqe] at hF hfl gf
                    clear hst hat hqe
                    go_wp2_with fail
                    refine (hF.out).mono ?_
                    rintro e w2 ⟨rfl, rfl⟩
                    go_wp2_with fail
                    go_roundw
                    case rel => exact ⟨j + 1, M, by go_num, by omega, HST, HO.out, HB.out⟩
                    case measure => simp [intOf]; omega
                · have hjz : ¬ (j : Int) < (is.length : Int) := by omega
                  have HST := hid hE.out
                  rw [show is.drop j = [] from List.drop_eq_nil_of_le (by omega), List.filterMap_nil, Gr.more_nil] at HST
                  have HO := hid hO
                  have HB := hid hbel
                  clear hE hO hbel
                  go_wp2_with fail
                  go_roundw
                  case rel => exact ⟨k + 1, M, by go_num, by omega, (HG.out _).1 HST.out, HO.out, HB.out⟩
                  case measure => simp [intOf]; omega
          · rw [if_neg g] at hst
            have HST := hid hst
            clear hst
            have hki : ((k : Int) != (i : Int)) = true := by simp at g ⊢; omega
            have hM : M k = false := by simp at g; exact g.2
            rw [hM] at m1
            clear g hM
            go_wp2_with fail
            go_roundw
            case rel => exact ⟨k + 1, M, by go_num, by omega, HST, HO.out, HB.out⟩
            case measure => simp [intOf]; omega
        · have hkz : ¬ (k : Int) < (l.length : Int) := by omega
          have HST := hid hE.out
          rw [List.drop_eq_nil_of_le (by simp; omega), Gr.rnd] at HST
          have HO := hid hO
          have HB := hid hbel
          clear hE hO hbel
          go_wp2_with fail
          go_roundw
          case rel => exact ⟨r + 1, M, by go_num, by omega, by rw [show l.length + 1 - (r + 1) = l.length - r by omega]; exact HST, HO.out, HB.out⟩
          case measure => simp [intOf]; omega
    · have hrz : ¬ (r : Int) ≤ (l.length : Int) := by omega
      have HST := hid hE.out
      rw [show l.length + 1 - r = 0 by omega, Gr.rnds] at HST
      have HO := hid hO
      have HB := hid hbel
      clear hE hO hbel
      go_wp2_with fail
      go_ret
      exact ⟨rfl, HST.out ▸ HO.out, HB.out⟩

end Go.Proofs.Ytifcilhcjghmkaa
