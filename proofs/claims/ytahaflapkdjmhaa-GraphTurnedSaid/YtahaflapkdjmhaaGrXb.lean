/-
  The walks of the reference's least, ready and Needs, and of Ints. Conditions: few modules, short names; rows of few numbers.
-/
import Derived.Test.YtahaflapkdjmhaaGrXa
namespace Go.Proofs.Ytahaflapkdjmhaa
open Go.RowKit

namespace Gr
theorem eqDrop {a b : List Nat} {k : Nat} (h1 : k < a.length) (h2 : k < b.length) : (a.drop k = b.drop k) ↔ (a[k] = b[k] ∧ a.drop (k + 1) = b.drop (k + 1)) := by
  rw [List.drop_eq_getElem_cons h1, List.drop_eq_getElem_cons h2, List.cons.injEq]
/-- Numbers that rise, and are the same ones: they are the same row. -/
theorem rising_one : ∀ {a b : List Nat}, a.Pairwise (· < ·) → b.Pairwise (· < ·) → (∀ j, j ∈ a ↔ j ∈ b) → a = b
  | [], [], _, _, _ => rfl
  | [], x :: b, _, _, h => by have := (h x).2 (by simp); cases this
  | x :: a, [], _, _, h => by have := (h x).1 (by simp); cases this
  | x :: a, y :: b, ha, hb, h => by
    rw [List.pairwise_cons] at ha hb
    have e : x = y := by
      have h1 := (h x).1 (by simp)
      have h2 := (h y).2 (by simp)
      rcases List.mem_cons.1 h1 with h1 | h1
      · exact h1
      · rcases List.mem_cons.1 h2 with h2 | h2
        · exact h2.symm
        · have := ha.1 y h2; have := hb.1 x h1; omega
    subst e
    congr 1
    refine rising_one ha.2 hb.2 fun j => ?_
    have h1 := h j
    simp only [List.mem_cons] at h1
    constructor
    · intro hj
      have h2 := ha.1 j hj
      rcases h1.1 (Or.inr hj) with h3 | h3
      · omega
      · exact h3
    · intro hj
      have h2 := hb.1 j hj
      rcases h1.2 (Or.inr hj) with h3 | h3
      · omega
      · exact h3
theorem NeedsAns.one {l : List Md} {i : Int} {a b : List Nat} (h : NeedsAns l i a) (g : NeedsAns l i b) : a = b := by
  cases h with
  | out h1 h2 =>
    cases g with
    | out g1 g2 => rw [h2, g2]
    | of k hk hl => omega
  | of k hk hl h1 h2 =>
    cases g with
    | out g1 g2 => omega
    | of k' hk' hl' g1 g2 =>
      have e : k = k' := by omega
      subst e
      exact rising_one h1 g1 fun j => (h2 j).trans (g2 j).symm
theorem range_filter_rising (n : Nat) (p : Nat → Bool) : ((List.range n).filter p).Pairwise (· < ·) := List.Pairwise.filter p List.pairwise_lt_range
theorem range_filter_next (k : Nat) (p : Nat → Bool) : (List.range (k + 1)).filter p = if p k then (List.range k).filter p ++ [k] else (List.range k).filter p := by
  rw [List.range_succ, List.filter_append]
  by_cases h : p k = true <;> simp [h]
theorem range_filter_len (k : Nat) (p : Nat → Bool) : ((List.range k).filter p).length ≤ k := by
  have := List.length_filter_le p (List.range k)
  simpa using this
theorem needsM_ans {l : List Md} {i : Nat} (hi : i < l.length) : NeedsAns l i ((List.range l.length).filter fun j => reachM l i j || decide (j = i)) := by
  refine .of i rfl hi (range_filter_rising _ _) fun j => ?_
  simp only [List.mem_filter, List.mem_range, Bool.or_eq_true, decide_eq_true_eq, reachM_iff hi]
  constructor
  · rintro ⟨_, ⟨k, hk, hr⟩ | e⟩
    · exact .step hk hr
    · rw [e]; exact .refl i
  · intro h
    refine ⟨h.lt (nxL_lt l) hi, ?_⟩
    cases h with
    | refl => exact Or.inr rfl
    | step h1 h2 => exact Or.inl ⟨_, h1, h2⟩
/-- Have all its imports come? -/
def readyB (l : List Md) (is : List ByteArray) (come : List Nat) : Bool := is.all fun s => (come.map fun k : Nat => (k : Int)).any fun x => decide (x = find s l 0)
theorem leastB (l : List Md) (M : Nat → Bool) (k : Nat) (hk : k < l.length) (b : Option Nat) : leastL (nlt l) b (((List.range l.length).drop k).filter M) = leastL (nlt l) (if M k then better (nlt l) b k else b) (((List.range l.length).drop (k + 1)).filter M) := by
  rw [List.drop_eq_getElem_cons (by simpa using hk), List.filter_cons]
  by_cases h : M k = true <;> simp [h, leastL]
end Gr

theorem RdN.rdi {w : World} {B : Nat} {v : Value} {l : List Nat} (h : RdN w B v l) : RdI w B v (l.map fun k : Nat => (k : Int)) := by
  obtain ⟨A, cap, rfl, -, -, hc⟩ := h
  refine ⟨A, cap, by simp, fun hne => ?_⟩
  obtain ⟨b, rfl, hlt, hc⟩ := hc (fun e => hne (by rw [e]; rfl))
  refine ⟨b, 0, rfl, hlt, fun i hi => ?_⟩
  have := hc i (by simpa using hi)
  simpa using this

set_option maxRecDepth 1000000 in
set_option maxHeartbeats 4000000 in
theorem ints_any (a b : List Nat) (ha : a.length ≤ 1000) (hb : b.length ≤ 1000) (va vb : Value) (w : World) (hxa : RdN w w.heap.size va a) (hxb : RdN w w.heap.size vb b) :
    Calls Try.prog 9 #[va, vb] w fun e w' => e = .returned (.bool (decide (a = b))) ∧ w'.heap = w.heap ∧ Below w.heap.size w w' := by
  have HA := hid hxa
  have HB := hid hxb
  obtain ⟨A1, c1, rfl, -, -, -⟩ := hxa
  obtain ⟨A2, c2, rfl, -, -, -⟩ := hxb
  go_enter Try.func9, Try.ntmps9
  by_cases hl : a.length = b.length
  · have hlz : ((a.length : Int) != (b.length : Int)) = false := by simp [hl]
    have HL := hid hl
    clear hl
    go_wp2_with fail
    go_loopw [5] (fun vi wr => ∃ k : Nat, vi = .int .i64 k ∧ k ≤ a.length ∧ Hid ((a.drop k = b.drop k) ↔ a = b) ∧ wr.heap = w.heap ∧ Below w.heap.size w wr) (fun vi _ => a.length - (intOf vi).toNat)
    case atStart => exact ⟨0, rfl, by omega, hid (by simp), rfl, Below.refl _ _⟩
    case round =>
      obtain ⟨k, rfl, hk, hE, hh, hbel⟩ := hrel
      obtain ⟨wo, hwo⟩ : ∃ wo : World, wo = wr := ⟨_, rfl⟩
      subst hwo
      by_cases hlt : k < a.length
      · have hkz : (k : Int) < (a.length : Int) := by omega
        have hkb : k < b.length := by have := HL.out; omega
        have hkbz : (k : Int) < (b.length : Int) := by omega
        obtain ⟨g1, rfl, hg1, x1⟩ := HA.out.atv hbel hlt
        obtain ⟨g2, rfl, hg2, x2⟩ := HB.out.atv hbel hkb
        have hst := hE.out
        rw [Gr.eqDrop hlt hkb] at hst
        obtain ⟨x, hx⟩ : ∃ x, a[k] = x := ⟨_, rfl⟩
        obtain ⟨y, hy⟩ : ∃ y, b[k] = y := ⟨_, rfl⟩
        rw [hx] at x1 hst
        rw [hy] at x2 hst
        have HH := hid (And.intro hh hbel)
        clear hE hh hbel hx hy
        obtain ⟨n1, hn1⟩ : ∃ n1, n1 = a.length := ⟨_, rfl⟩
        obtain ⟨n2, hn2⟩ : ∃ n2, n2 = b.length := ⟨_, rfl⟩
        by_cases e : x = y
        · have hxz : ((x : Int) != (y : Int)) = false := by simp [e]
          have HV := hid (show (a.drop (k + 1) = b.drop (k + 1)) ↔ a = b from ⟨fun h => hst.1 ⟨e, h⟩, fun h => (hst.2 h).2⟩)
          clear hst e
          go_wp2_with fail
          go_quiet (fail)
          obtain ⟨wq, hwq⟩ : ∃ wq, wo.drewN nq = wq := ⟨_, rfl⟩
          have HQ := hid (show wq.heap = w.heap ∧ Below w.heap.size w wq from hwq ▸ ⟨HH.out.1, HH.out.2.trans (below_drewN _ _ _)⟩)
          rw [hwq]
          clear hwq x1 x2
          go_wp2_with fail
          go_roundw
          case rel => exact ⟨k + 1, by go_num, by omega, HV, HQ.out.1, HQ.out.2⟩
          case measure => simp [intOf]; omega
        · have hxz : ((x : Int) != (y : Int)) = true := by simp; omega
          have HV := hid (show ¬ a = b from fun h => e (hst.2 h).1)
          clear hst e
          go_wp2_with fail
          go_quiet (fail)
          obtain ⟨wq, hwq⟩ : ∃ wq, wo.drewN nq = wq := ⟨_, rfl⟩
          have HQ := hid (show wq.heap = w.heap ∧ Below w.heap.size w wq from hwq ▸ ⟨HH.out.1, HH.out.2.trans (below_drewN _ _ _)⟩)
          rw [hwq]
          clear hwq x1 x2
          go_wp2_with fail
          go_ret
          exact ⟨ret_bool (by simp [HV.out]), HQ.out.1, HQ.out.2⟩
      · have hkz : ¬ (k : Int) < (a.length : Int) := by omega
        have HV := hid (show a = b from hE.out.1 (by rw [List.drop_eq_nil_of_le (by omega), List.drop_eq_nil_of_le (by have := HL.out; omega)]))
        have HH := hid (And.intro hh hbel)
        clear hE hh hbel
        go_wp2_with fail
        go_ret
        exact ⟨ret_bool (by simp [HV.out]), HH.out.1, HH.out.2⟩
  · have hlz : ((a.length : Int) != (b.length : Int)) = true := by simp; omega
    have HL := hid hl
    clear hl
    go_wp2_with fail
    go_ret
    exact ⟨ret_bool (by
      have : ¬ a = b := fun e => HL.out (by rw [e])
      simp [this]), rfl, Below.refl _ _⟩

end Go.Proofs.Ytahaflapkdjmhaa
