/-
  The walks of the reference's Join and Same. Conditions: as for Join; for Same: two rows that hold the same tokens.
-/
import Derived.Test.YtfmmhmkaphbmpaaDoorLexV
import Derived.Laws.StructEq
import Derived.BigQuiet
import Derived.Deep.QuietTactic
namespace Go.Proofs.YtfmmhmkaphbmpaaDoor
open Go.RowKit

set_option maxHeartbeats 4000000 in
set_option maxRecDepth 100000 in
theorem refJoin_any (v : Value) (l : List (Int × List UInt8)) (w : World) (hR : Rd w w.heap.size v l) (hn : l.length ≤ 100000) (hx : ∀ t ∈ l, t.2.length ≤ 3000) (hj : ∀ k, (joinT (l.take k)).length ≤ 1000000) :
    Calls Tryd.prog 17 #[v] w fun e w' => e = .returned (.string ⟨(joinT (l.take (l.length - 1))).toArray⟩) ∧ w = w' := by
  obtain ⟨A, cap, rfl, hc⟩ := hR
  have HC := hid hc
  have HX := hid hx
  have HJ := hid hj
  clear hc hx hj
  go_enter Tryd.func17, Tryd.ntmps17
  go_wp2
  go_loop [3, 4] (fun vo vi => ∃ (k : Nat) (O : ByteArray), k ≤ l.length ∧ (0 < k → k + 1 ≤ l.length) ∧ vi = .int .i64 k ∧ vo = .string O ∧ O.data.toList = joinT (l.take k)) (fun _ vi => l.length - (intOf vi).toNat)
  case atStart => exact ⟨0, ⟨#[]⟩, by omega, by omega, rfl, rfl, rfl⟩
  case round =>
    obtain ⟨k, O, hk, hk1, rfl, rfl, hO⟩ := hrel
    have HO := hid hO
    clear hO
    by_cases hlt : k + 1 < l.length
    · have hkl : k < l.length := by omega
      obtain ⟨a, hA, hab, hcell⟩ := HC.out (by omega)
      obtain ⟨c0, c1⟩ := hcell k hkl
      subst hA
      unfold strV at c1
      rw [addr_next] at c1
      have hs := join_step hkl
      have hx3 := HX.out l[k] (List.getElem_mem hkl)
      have hj0 := HJ.out k
      have hq := quote_len l[k].2
      have hol : O.size = (joinT (l.take k)).length := by rw [← HO.out]; simp
      have hos : O.size ≤ 1000000 := by omega
      have HOL := hid hol
      clear hcell hol hj0
      obtain ⟨X, hX⟩ : ∃ X : ByteArray, (⟨l[k].2.toArray⟩ : ByteArray) = X := ⟨_, rfl⟩
      have hXl : X.data.toList = l[k].2 := by rw [← hX]
      have hXs : X.size ≤ 3000 := by rw [← hX]; show l[k].2.toArray.size ≤ 3000; simp; exact hx3
      rw [hX] at c1
      by_cases h4 : l[k].1 = 4
      · have b4 : (l[k].1 == 4) = true := by rw [h4]; rfl
        rw [if_pos h4] at hs
        have hq2 : (⟨(G.quoteL l[k].2).toArray⟩ : ByteArray).size ≤ 20000 := by show (G.quoteL l[k].2).toArray.size ≤ 20000; simp; omega
        have HQ := hid (refQuote_any X (by omega))
        rw [hXl] at HQ
        clear h4 hX hXl hq
        by_cases h0 : 0 < k
        · rw [if_pos h0] at hs
          have HS := hid hs
          clear hs
          go_wp2_with fail
          refine (HQ.out _).mono ?_
          rintro e w1 ⟨rfl, rfl⟩
          obtain ⟨Y, hY⟩ : ∃ Y : ByteArray, (⟨(G.quoteL l[k].2).toArray⟩ : ByteArray) = Y := ⟨_, rfl⟩
          have HY : Hid (Y.data.toList = G.quoteL l[k].2) := hid (by rw [← hY])
          rw [hY] at hq2 ⊢
          clear hY
          go_wp2
          go_round
          case rel => exact ⟨k + 1, _, by omega, by omega, by go_num, rfl, by rw [HS.out, toList_app, toList_app, HO.out, HY.out]⟩
          case measure => simp [intOf]; omega
        · rw [if_neg h0, List.append_nil] at hs
          have HS := hid hs
          clear hs
          go_wp2_with fail
          refine (HQ.out _).mono ?_
          rintro e w1 ⟨rfl, rfl⟩
          obtain ⟨Y, hY⟩ : ∃ Y : ByteArray, (⟨(G.quoteL l[k].2).toArray⟩ : ByteArray) = Y := ⟨_, rfl⟩
          have HY : Hid (Y.data.toList = G.quoteL l[k].2) := hid (by rw [← hY])
          rw [hY] at hq2 ⊢
          clear hY
          go_wp2
          go_round
          case rel => exact ⟨k + 1, _, by omega, by omega, by go_num, rfl, by rw [HS.out, toList_app, HO.out, HY.out]⟩
          case measure => simp [intOf]; omega
      · have b4 : (l[k].1 == 4) = false := beq_eq_false_iff_ne.2 h4
        rw [if_neg h4] at hs
        have HXL := hid hXl
        clear h4 hX hXl hq
        by_cases h0 : 0 < k
        · rw [if_pos h0] at hs
          have HS := hid hs
          clear hs
          go_wp2
          go_round
          case rel => exact ⟨k + 1, _, by omega, by omega, by go_num, rfl, by rw [HS.out, toList_app, toList_app, HO.out, HXL.out]⟩
          case measure => simp [intOf]; omega
        · rw [if_neg h0, List.append_nil] at hs
          have HS := hid hs
          clear hs
          go_wp2
          go_round
          case rel => exact ⟨k + 1, _, by omega, by omega, by go_num, rfl, by rw [HS.out, toList_app, HO.out, HXL.out]⟩
          case measure => simp [intOf]; omega
    · have hkn : k = l.length - 1 := by omega
      subst hkn
      go_wp2
      go_ret
      refine ⟨?_, rfl⟩
      have h2 : O = ⟨(joinT (l.take (l.length - 1))).toArray⟩ := by
        apply ByteArray.ext
        apply Array.ext'
        exact HO.out
      rw [← h2]
      rfl

end Go.Proofs.YtfmmhmkaphbmpaaDoor
