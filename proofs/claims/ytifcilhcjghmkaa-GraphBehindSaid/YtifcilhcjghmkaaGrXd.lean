/-
  The walks of the reference's Needs and Few. Conditions: few modules, short names; modules that come in.
-/
import Derived.Test.YtifcilhcjghmkaaGrXc
namespace Go.Proofs.Ytifcilhcjghmkaa
open Go.RowKit

/-- Numbers of the call's own. -/
def OwnN (w : World) (B : Nat) (A : Option Addr) (c : Nat) (l : List Nat) : Prop := w.ownsRow B 3 1 (.slice A l.length c) l.length (numV l)
theorem OwnN.lit (w : World) : OwnN (w.alloc (.cells #[] 3)) w.heap.size (some ⟨w.heap.size, 0, none⟩) 0 [] := World.ownsRow_lit w #[] 0 (Nat.le_refl _) (by decide) rfl
theorem OwnN.rd {w : World} {B c : Nat} {A : Option Addr} {l : List Nat} (h : OwnN w B A c l) : RdN w w.heap.size (.slice A l.length c) l := own_rd h
theorem OwnN.lt {w : World} {B c : Nat} {A : Option Addr} {l : List Nat} (h : OwnN w B A c l) : ∀ g, A.map (·.block) = some g → B ≤ g ∧ g < w.heap.size := fun g hg => World.ownsRow.lt h g (by rw [ownBlock_slice]; exact hg)
theorem OwnN.mono {w : World} {B B' c : Nat} {A : Option Addr} {l : List Nat} (h : OwnN w B A c l) (hb : ∀ g, A.map (·.block) = some g → B' ≤ g) : OwnN w B' A c l := by
  refine ⟨h.1, ?_⟩
  rcases h.2 with h1 | ⟨g, cap, cur, e, h1, h2⟩
  · exact Or.inl h1
  · refine Or.inr ⟨g, cap, cur, e, ?_, h2⟩
    simp only [Value.slice.injEq] at e
    exact hb g (by rw [e.1]; rfl)
theorem OwnN.kept {w w' : World} {B c : Nat} {A : Option Addr} {l : List Nat} (h : OwnN w B A c l) (hk : ∀ g, A.map (·.block) = some g → w'.heap[g]? = w.heap[g]?) : OwnN w' B A c l := row_kept h (fun g hg => hk g (by rw [ownBlock_slice] at hg; exact hg))
/-- What an append has made. -/
theorem OwnN.more {w w1 : World} {B c g' cap' k : Nat} {A : Option Addr} {l : List Nat} {o : Obj} (h : OwnN w B A c l) (hB : B ≤ w.heap.size)
    (hown : w1.ownsRow B 3 1 (.slice (some ⟨g', 0, none⟩) (l.length + 1) cap') (l.length + 1) (numV l ++ [.int .i64 (k : Int)])) (hg : (w.alloc o).grownBy w1 (Value.slice A l.length c).ownBlock)
    (hat : (Value.slice (some ⟨g', 0, none⟩) (l.length + 1) cap').ownBlock = (Value.slice A l.length c).ownBlock ∨ (Value.slice (some ⟨g', 0, none⟩) (l.length + 1) cap').ownBlock = some (w.alloc o).heap.size) :
    OwnN w1 B (some ⟨g', 0, none⟩) cap' (l ++ [k]) ∧ Below B w w1 ∧ (∀ x, x < w.heap.size → A.map (·.block) ≠ some x → w1.heap[x]? = w.heap[x]?) ∧ (A.map (·.block) = some g' ∨ w.heap.size ≤ g') := by
  rw [ownBlock_slice] at hg
  rw [ownBlock_slice, ownBlock_slice] at hat
  refine ⟨?_, ?_, ?_, ?_⟩
  · have e : (l ++ [k]).length = l.length + 1 := by simp
    unfold OwnN
    rw [e, numV_snoc]
    exact hown
  · exact ((Below.refl B w).alloc hB o).grown hg (by simp; omega) (fun x hx => (h.lt x hx).1)
  · intro x hx hne
    exact (hg.block x (by simp; omega) (fun e => hne e.symm)).trans (Below.heap_alloc _ _ _ hx)
  · rcases hat with e | e
    · left; rw [← e]; rfl
    · right; simp at e; omega

def RNeedsPost (l : List Gr.Md) (i : Int) (w : World) (e : Ending) (w' : World) : Prop := ∃ v ns, e = .returned v ∧ RdN w' w'.heap.size v ns ∧ Gr.NeedsAns l i ns ∧ ns.length ≤ l.length ∧ Below w.heap.size w w'

set_option maxRecDepth 1000000 in
set_option maxHeartbeats 8000000 in
theorem rneeds_any (l : List Gr.Md) (hq : Gr.Few l) (v : Value) (i : Int) (hi1 : -9223372036854775808 ≤ i) (hi2 : i < 9223372036854775808) (w : World) (hx : RdM w w.heap.size v l) :
    Calls Try.prog 15 #[v, .int .i64 i] w (RNeedsPost l i w) := by
  have HX := hid hx
  have HQ := hid hq
  have hn := hq.n
  obtain ⟨i0, hi0, hz0, hz1, hz2⟩ := info_parts info_int
  obtain ⟨A, cap, rfl, -, -, -⟩ := hx
  have HX0 := hid ((HX.out.below (below_new (.cells #[] 3))).mono (show w.heap.size ≤ (w.alloc (.cells #[] 3)).heap.size by simp))
  clear hq
  go_enter Try.func15, Try.ntmps15
  by_cases h0 : i < 0
  · have H0 := hid h0
    go_wp2_with fail
    go_ret
    exact ⟨_, [], rfl, (OwnN.lit w).rd, .out (Or.inl H0.out) rfl, by simp, below_new _⟩
  · by_cases h1 : i < (l.length : Int)
    · obtain ⟨q, rfl⟩ : ∃ k : Nat, i = k := ⟨i.toNat, by omega⟩
      have hql : q < l.length := by omega
      have HQL := hid hql
      have HR := reached_any l HQ.out _ q hql _ HX0.out
      rw [show (w.alloc (.cells #[] 3)).heap.size = w.heap.size + 1 by simp] at HR
      have HR := hid HR
      clear hi1 hi2 hql
      go_wp2_with fail
      refine (HR.out).mono ?_
      rintro e w1 ⟨rfl, hO, hb⟩
      have HO := hid hO
      have HB := hid (((below_new (.cells #[] 3)).trans (hb.mono (by omega)) : Below w.heap.size w w1))
      have HN0 := hid ((OwnN.lit w).kept (w' := w1) (fun g hg => hb.block g (by simp at hg; omega)))
      clear hO hb HR
      go_wp2_with fail
      go_loopw [5, 7] (fun vo vi wr => ∃ (k g c : Nat), vo = .slice (some ⟨g, 0, none⟩) ((List.range k).filter fun j => Gr.reachM l q j || decide (j = q)).length c ∧ vi = .int .i64 k ∧ k ≤ l.length ∧ OwnN wr w.heap.size (some ⟨g, 0, none⟩) c ((List.range k).filter fun j => Gr.reachM l q j || decide (j = q)) ∧ g ≠ w.heap.size + 1 ∧ OwnB wr (w.heap.size + 1) l.length (Gr.reachM l q) ∧ Below w.heap.size w wr) (fun _ vi _ => l.length - (intOf vi).toNat)
      case atStart => exact ⟨0, _, _, rfl, rfl, by omega, HN0.out, by omega, HO.out, HB.out⟩
      case round =>
        clear HN0 HO HB
        obtain ⟨k, g, c, rfl, rfl, hk, hN, hne, hO, hbel⟩ := hrel
        obtain ⟨wo, hwo⟩ : ∃ wo : World, wo = wr := ⟨_, rfl⟩
        subst hwo
        have hsz := hO.lt
        by_cases hlt : k < l.length
        · have hkz : (k : Int) < (l.length : Int) := by omega
          obtain ⟨m1, m2⟩ := hO.at_ hlt
          have hst := Gr.range_filter_next k (fun j => Gr.reachM l q j || decide (j = q))
          have hlen := Gr.range_filter_len k (fun j => Gr.reachM l q j || decide (j = q))
          obtain ⟨bb, hbb⟩ : ∃ bb, Gr.reachM l q k = bb := ⟨_, rfl⟩
          simp only [hbb] at hst
          rw [hbb] at m1
          obtain ⟨xs, hxs⟩ : ∃ xs, (List.range k).filter (fun j => Gr.reachM l q j || decide (j = q)) = xs := ⟨_, rfl⟩
          rw [hxs] at hst hlen hN ⊢
          have HN := hid hN
          have HO := hid hO
          have HB := hid hbel
          clear hxs hbb hN hO hbel
          by_cases hg : (bb || decide (k = q)) = true
          · rw [if_pos hg] at hst
            have HST := hid hst
            clear hst
            cases bb with
            | true =>
              clear hg
              go_wp2_with (at_builtin; refine wpList_append_own_at _ rfl _ _ 25 rfl w.heap.size 3 i0 (.int .i64 0) 1 8 Try.underlying25 hi0 hz0 hz1 hz2 rfl (by decide) _ _ _ rfl (World.ownsRow.alloc HN.out _) ⟨wo.heap.size, 0, none⟩ 1 1 [.int .i64 (k : Int)] rfl rfl (cell_one_new _ _ _) (ints_oneCell .i64 [(k : Int)]) (by unfold maxLen; omega) (by omega) (by simp; omega) ?_; intro v' w1 hown' hgrow hnil hloc; obtain ⟨g', cap', rfl⟩ := row_succ hown'; obtain ⟨z1, z2, z3, z4⟩ := HN.out.more HB.out.size hown' hgrow hloc; clear hown' hgrow hnil hloc)
              go_roundw
              case rel =>
                refine ⟨k + 1, g', cap', by rw [HST.out]; simp, by go_num, by omega, by rw [HST.out]; exact z1, ?_, ?_, HB.out.trans z2⟩
                · rcases z4 with h | h
                  · simp at h; omega
                  · omega
                · exact HO.out.below (z3 _ hsz (by simpa using hne))
              case measure => simp [intOf]; omega
            | false =>
              have hkq : ((k : Int) == (q : Int)) = true := by simp at hg ⊢; omega
              clear hg
              go_wp2_with (at_builtin; refine wpList_append_own_at _ rfl _ _ 25 rfl w.heap.size 3 i0 (.int .i64 0) 1 8 Try.underlying25 hi0 hz0 hz1 hz2 rfl (by decide) _ _ _ rfl (World.ownsRow.alloc HN.out _) ⟨wo.heap.size, 0, none⟩ 1 1 [.int .i64 (k : Int)] rfl rfl (cell_one_new _ _ _) (ints_oneCell .i64 [(k : Int)]) (by unfold maxLen; omega) (by omega) (by simp; omega) ?_; intro v' w1 hown' hgrow hnil hloc; obtain ⟨g', cap', rfl⟩ := row_succ hown'; obtain ⟨z1, z2, z3, z4⟩ := HN.out.more HB.out.size hown' hgrow hloc; clear hown' hgrow hnil hloc)
              go_roundw
              case rel =>
                refine ⟨k + 1, g', cap', by rw [HST.out]; simp, by go_num, by omega, by rw [HST.out]; exact z1, ?_, ?_, HB.out.trans z2⟩
                · rcases z4 with h | h
                  · simp at h; omega
                  · omega
                · exact HO.out.below (z3 _ hsz (by simpa using hne))
              case measure => simp [intOf]; omega
          · rw [if_neg hg] at hst
            have HST := hid hst
            clear hst
            have hb0 : bb = false := by cases bb <;> simp_all
            subst hb0
            have hkq : ((k : Int) == (q : Int)) = false := by simp at hg ⊢; omega
            clear hg
            go_wp2_with fail
            go_roundw
            case rel => exact ⟨k + 1, g, c, by rw [HST.out], by go_num, by omega, by rw [HST.out]; exact HN.out, hne, HO.out, HB.out⟩
            case measure => simp [intOf]; omega
        · have hkz : ¬ (k : Int) < (l.length : Int) := by omega
          have e : k = l.length := by omega
          subst e
          have HN := hid hN
          have HB := hid hbel
          have HA := hid (Gr.needsM_ans HQL.out)
          have HL := hid (Gr.range_filter_len l.length (fun j => Gr.reachM l q j || decide (j = q)))
          obtain ⟨xs, hxs⟩ : ∃ xs, (List.range l.length).filter (fun j => Gr.reachM l q j || decide (j = q)) = xs := ⟨_, rfl⟩
          rw [hxs] at HN HA HL ⊢
          clear hN hbel hO hxs
          go_wp2_with fail
          go_ret
          exact ⟨_, xs, rfl, HN.out.rd, HA.out, HL.out, HB.out⟩
    · have H1 := hid h1
      go_wp2_with fail
      go_ret
      exact ⟨_, [], rfl, (OwnN.lit w).rd, .out (Or.inr (by have := H1.out; omega)) rfl, by simp, below_new _⟩

end Go.Proofs.Ytifcilhcjghmkaa
