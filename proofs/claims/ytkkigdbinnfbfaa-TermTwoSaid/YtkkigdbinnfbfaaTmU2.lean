/-
  The walks of term's size and of what Put makes at a node. Conditions: at most 20000 nodes.
-/
import Derived.Test.YtkkigdbinnfbfaaTmE5
import Derived.Test.YtkkigdbinnfbfaaTmU1
namespace Go.Proofs.Ytkkigdbinnfbfaa.L
open Go
theorem gain_bound (n : Int) (ul : Nat) (x : Nd) : -2 ≤ gain n ul x ∧ gain n ul x ≤ ul := by
  unfold gain
  split <;> split <;> omega
theorem gains_bound (n : Int) (ul : Nat) : ∀ t : List Nd, -2 * (t.length : Int) ≤ gains n ul t ∧ gains n ul t ≤ (t.length : Int) * ul
  | [] => by simp [gains_nil]
  | x :: t => by
    have h1 := gain_bound n ul x
    have h2 := gains_bound n ul t
    rw [gains_cons, List.length_cons]
    push_cast
    rw [Int.add_mul]
    omega
theorem gains_take (n : Int) (ul : Nat) {t : List Nd} {k : Nat} (h : k < t.length) : gains n ul (t.take (k + 1)) = gains n ul (t.take k) + gain n ul t[k] := by
  rw [List.take_succ_eq_append_getElem h, gains_append, gains_cons, gains_nil]
  omega
end Go.Proofs.Ytkkigdbinnfbfaa.L
namespace Go.Proofs.Ytkkigdbinnfbfaa
open Go.RowKit

set_option maxHeartbeats 8000000 in
set_option maxRecDepth 100000 in
theorem size_any (t : List L.Nd) (hl : t.length ≤ 20000) (ht : L.TailOk t) (n : Int) (vt : Value) (Au : Option Addr) (ul cu : Nat) (hul : ul ≤ 10000) (w : World) (hx : Rd w w.heap.size vt t) :
    Calls Try.prog 18 #[vt, .int .i64 n, .slice Au ul cu] w fun e w' => e = .returned (.int .i64 (L.sizeL n ul t)) ∧ Below w.heap.size w w' := by
  have HX := hid hx
  have HT := hid ht
  obtain ⟨A, cap, rfl, hl1, hl2⟩ := hx.len
  unfold maxLen at hl2
  have HGB := hid (fun k => L.gains_bound n ul (t.take k))
  clear hx ht
  go_enter Try.func18, Try.ntmps18
  go_wp2
  go_loopw [7, 14] (fun v7 v14 wr => ∃ (k : Nat) (g : Int), v14 = .int .i64 k ∧ k ≤ t.length ∧ v7 = .int .i64 ((t.length : Int) + g) ∧ Hid (g = L.gains n ul (t.take k)) ∧ Hid (Below w.heap.size w wr)) (fun _ v14 _ => t.length - (intOf v14).toNat)
  case atStart => exact ⟨0, 0, rfl, by omega, by simp, hid rfl, hid (Below.refl _ _)⟩
  case round =>
    obtain ⟨k, g, rfl, hk, rfl, hG, hB⟩ := hrel
    have hgb : -40000 ≤ g ∧ g ≤ 200000000 := by
      have h1 := HGB.out k
      rw [← hG.out] at h1
      have h2 : (t.take k).length = k := by simp; omega
      rw [h2] at h1
      have h3 : (k : Int) * ul ≤ 20000 * 10000 := Int.mul_le_mul (by omega) (by omega) (by omega) (by omega)
      omega
    by_cases hlt : k < t.length
    · have hkz : (k : Int) < (t.length : Int) := by omega
      obtain ⟨A', c', hv, -, -, -, hc⟩ := HX.out.low hB.out
      simp only [Value.slice.injEq, true_and] at hv
      obtain ⟨rfl, rfl⟩ := hv
      obtain ⟨b, o, rfl, hb, hc⟩ := hc (by rintro rfl; simp at hlt)
      obtain ⟨x0, x1, x2⟩ := hc k hlt
      have HGT := hid (L.gains_take n ul hlt)
      have hto := HT.out _ (List.getElem_mem hlt)
      generalize t[k] = X at *
      obtain ⟨k1, s1, n1⟩ := X
      simp only at hto
      clear hc
      have hbw := hB.out.size
      have HV := hid (fun (W : World) => isVar_any k1 n1 s1 W)
      have HBX := hid (below_new (w := wr) (.cells #[.int .i64 k1, .string s1, .int .i64 n1] 39))
      go_wp2_with fail
      refine (HV.out _).mono ?_
      rintro e w1 ⟨rfl, h1⟩
      have hbx : w1.heap[wr.heap.size]? = some (.cells #[.int .i64 k1, .string s1, .int .i64 n1] 39 (0, 0)) := (h1.block _ (by simp)).trans (heap_alloc_new _ _)
      have B1 := hid (hB.out.trans ((HBX.out.trans (h1.mono HBX.out.size)).mono hbw))
      have hlx := heap_lt hbx
      have HC := hid (fun (W : World) (hW : Below w1.heap.size w1 W) => show W.cell? ⟨wr.heap.size, 0, none⟩ = some (.int .i64 k1) ∧ W.cell? ⟨wr.heap.size, 1, none⟩ = some (.string s1) ∧ W.cell? ⟨wr.heap.size, 2, none⟩ = some (.int .i64 n1) from by
        have h := (hW.block _ hlx).trans hbx
        exact ⟨Lib.cell_of_heap h 0, Lib.cell_of_heap h 1, Lib.cell_of_heap h 2⟩)
      obtain ⟨d0, d1, d2⟩ := HC.out w1 (Below.refl _ _)
      clear h1 hbx hB x0 x1 x2 HV HBX
      by_cases h8 : k1 = 8
      · subst h8
        by_cases hn : n1 = n
        · subst hn
          have HE : Hid (L.gain n1 ul ⟨8, s1, n1⟩ = (ul : Int) - 1) := hid (by simp [L.gain, L.varN])
          have ev : L.varN ⟨8, s1, n1⟩ = true := rfl
          rw [ev]
          clear ev hto
          go_wp2_with fail
          go_region_with (go_at_call 42; refine (tail_any _ _).mono ?_; rintro e w2 ⟨rfl, hb2⟩; have HB2 := hid (show Below w1.heap.size w1 w2 from ⟨hb2.os, hb2.tape, hb2.output, hb2.size, hb2.block⟩); obtain ⟨f0, f1, f2⟩ := HC.out w2 HB2.out; clear hb2)
          all_goals
            have B2 := hid (B1.out.trans (HB2.out.mono B1.out.size))
            go_wp2_with fail
            go_roundw
            case rel => exact ⟨k + 1, g + ((ul : Int) - 1), by go_num, by omega, by go_num, hid (by rw [HGT.out, ← hG.out]; rw [HE.out]), B2⟩
            case measure => simp [intOf]; omega
        · have HE : Hid (L.gain n ul ⟨8, s1, n1⟩ = 0) := hid (by simp [L.gain, hn])
          have ev : L.varN ⟨8, s1, n1⟩ = true := rfl
          have en : (n1 == n) = false := by simpa using hn
          rw [ev]
          clear ev hto hn
          go_wp2_with fail
          go_region_with (go_at_call 42; refine (tail_any _ _).mono ?_; rintro e w2 ⟨rfl, hb2⟩; have HB2 := hid (show Below w1.heap.size w1 w2 from ⟨hb2.os, hb2.tape, hb2.output, hb2.size, hb2.block⟩); obtain ⟨f0, f1, f2⟩ := HC.out w2 HB2.out; clear hb2)
          all_goals
            have B2 := hid (B1.out.trans (HB2.out.mono B1.out.size))
            go_wp2_with fail
            go_roundw
            case rel => exact ⟨k + 1, g, by go_num, by omega, by go_num, hid (by rw [HGT.out, ← hG.out]; rw [HE.out]; omega), B2⟩
            case measure => simp [intOf]; omega
      · by_cases h9 : k1 = 9
        · subst h9
          have hs : s1 = ⟨#[]⟩ := hto rfl
          subst hs
          clear hto
          by_cases hn : n1 = n
          · subst hn
            have HE : Hid (L.gain n1 ul ⟨9, ⟨#[]⟩, n1⟩ = (ul : Int) - 1 - 1) := hid (by simp [L.gain, L.varN])
            have ev : L.varN ⟨9, ⟨#[]⟩, n1⟩ = true := rfl
            rw [ev]
            clear ev h8
            go_wp2_with fail
            go_region_with (go_at_call 42; refine (tail_any _ _).mono ?_; rintro e w2 ⟨rfl, hb2⟩; have HB2 := hid (show Below w1.heap.size w1 w2 from ⟨hb2.os, hb2.tape, hb2.output, hb2.size, hb2.block⟩); obtain ⟨f0, f1, f2⟩ := HC.out w2 HB2.out; clear hb2)
            all_goals
              have B2 := hid (B1.out.trans (HB2.out.mono B1.out.size))
              go_wp2_with fail
              go_roundw
              case rel => exact ⟨k + 1, g + ((ul : Int) - 1 - 1), by go_num, by omega, by go_num, hid (by rw [HGT.out, ← hG.out]; rw [HE.out]), B2⟩
              case measure => simp [intOf]; omega
          · have HE : Hid (L.gain n ul ⟨9, ⟨#[]⟩, n1⟩ = 0) := hid (by simp [L.gain, hn])
            have ev : L.varN ⟨9, ⟨#[]⟩, n1⟩ = true := rfl
            have en : (n1 == n) = false := by simpa using hn
            rw [ev]
            clear ev h8 hn
            go_wp2_with fail
            go_region_with (go_at_call 42; refine (tail_any _ _).mono ?_; rintro e w2 ⟨rfl, hb2⟩; have HB2 := hid (show Below w1.heap.size w1 w2 from ⟨hb2.os, hb2.tape, hb2.output, hb2.size, hb2.block⟩); obtain ⟨f0, f1, f2⟩ := HC.out w2 HB2.out; clear hb2)
            all_goals
              have B2 := hid (B1.out.trans (HB2.out.mono B1.out.size))
              go_wp2_with fail
              go_roundw
              case rel => exact ⟨k + 1, g, by go_num, by omega, by go_num, hid (by rw [HGT.out, ← hG.out]; rw [HE.out]; omega), B2⟩
              case measure => simp [intOf]; omega
        · have ev : L.varN ⟨k1, s1, n1⟩ = false := by simp [L.varN, h8, h9]
          have HE : Hid (L.gain n ul ⟨k1, s1, n1⟩ = 0) := hid (by
            unfold L.gain
            rw [if_neg (by rw [ev]; simp), if_neg (by intro e; exact h9 (congrArg L.Nd.kind e))]
            rfl)
          have e9 : (k1 == 9) = false := by simpa using h9
          rw [ev]
          clear ev h8 h9 hto
          go_wp2_with fail
          go_region_with (go_at_call 42; refine (tail_any _ _).mono ?_; rintro e w2 ⟨rfl, hb2⟩; have HB2 := hid (show Below w1.heap.size w1 w2 from ⟨hb2.os, hb2.tape, hb2.output, hb2.size, hb2.block⟩); obtain ⟨f0, f1, f2⟩ := HC.out w2 HB2.out; clear hb2)
          all_goals
            have B2 := hid (B1.out.trans (HB2.out.mono B1.out.size))
            go_wp2_with fail
            go_roundw
            case rel => exact ⟨k + 1, g, by go_num, by omega, by go_num, hid (by rw [HGT.out, ← hG.out]; rw [HE.out]; omega), B2⟩
            case measure => simp [intOf]; omega
    · have hkz : ¬ (k : Int) < (t.length : Int) := by omega
      have EX := hid hB.out
      have HE : Hid ((t.length : Int) + g = L.sizeL n ul t) := hid (by rw [hG.out, List.take_of_length_le (by omega)]; rfl)
      clear hB hG
      go_wp2_with fail
      go_ret
      exact ⟨by rw [← HE.out]; rfl, EX.out⟩
end Go.Proofs.Ytkkigdbinnfbfaa
