/-
  The walk of the reference's Print, with figures, word and printed. Conditions: a slice that reads as a right tree of at most 10000 nodes, labels of at most 200 bytes, numbers below 2^63.
-/
import Derived.Test.YtimlblbmfckeiaaDoorTyD
import Derived.Test.YtimlblbmfckeiaaDoorTyPl
import Derived.Test.YtimlblbmfckeiaaDoorTyK
namespace Go.Proofs.YtimlblbmfckeiaaDoor
open Go.RowKit

theorem wrap_fig (v : Int) (h0 : 0 ≤ v) (h1 : v < 256) : IntKind.u8.wrap v = v := by
  have hm : v % 256 = v := Int.emod_eq_of_lt h0 h1
  unfold IntKind.wrap
  simp [IntKind.bits, IntKind.signed, hm]

theorem fig_byte (W : World) (g : Nat) (v : Int) (h0 : 0 ≤ v) (h1 : v < 256) (hc : W.cell? ⟨g, 0, none⟩ = some (.int .u8 v)) :
    (convert 47 9 (.slice (some ⟨g, 0, none⟩) 1 1)).run Tryd.prog W = .ok (.string ⟨#[v.toNat.toUInt8]⟩) W := by
  have hv : (v.toNat.toUInt8.toNat : Int) = v := by
    simp
    omega
  have := run_convert_bytes_back (P := Tryd.prog) W 47 9 5 ⟨g, 0, none⟩ 1 [v.toNat.toUInt8] Tryd.underlying47 Tryd.underlying5 Tryd.underlying9 (fun j hj => by
    match j, hj with
    | 0, _ =>
      show W.cell? ⟨g, 0 + 0, none⟩ = _
      rw [hc]
      simp only [List.getElem_cons_zero, hv])
  exact this

theorem fig_len (c : UInt8) (s : ByteArray) : ((⟨#[c]⟩ : ByteArray) ++ s).data.toList.length = 1 + s.size := by
  rw [Array.length_toList]
  show ((⟨#[c]⟩ : ByteArray) ++ s).size = _
  rw [ByteArray.size_append]
  rfl

theorem dec_step {q : Nat} (h : 9 < q) (s : List UInt8) : Lib.decDigits (q / 10) ++ ((48 + q % 10).toUInt8 :: s) = Lib.decDigits q ++ s := by
  conv => rhs; rw [Lib.decDigits, dif_neg (by omega)]
  simp
theorem dec_last {q : Nat} (h : q ≤ 9) (s : List UInt8) : (48 + q).toUInt8 :: s = Lib.decDigits q ++ s := by
  rw [Lib.decDigits_one (by omega)]
  rfl

set_option maxHeartbeats 2000000 in
set_option maxRecDepth 100000 in
theorem figures_any (n : Int) (h0 : 0 ≤ n) (h1 : n ≤ 9223372036854775807) (w : World) :
    Calls Tryd.prog 68 #[.int .i64 n] w fun e w' => e = .returned (.string ⟨(Lib.itoa n).toArray⟩) ∧ Below w.heap.size w w' := by
  obtain ⟨u, rfl⟩ : ∃ u : Nat, n = u := ⟨n.toNat, by omega⟩
  have hlen := Lib.itoa_length_le (u : Int) (by omega) h1
  rw [Lib.itoa_nonneg] at hlen ⊢
  have HL := hid hlen
  clear hlen h0
  go_enter Tryd.func68, Tryd.ntmps68
  go_wp2
  go_loopw [0, 3] (fun vn vs wr => ∃ (q : Nat) (s : ByteArray), vn = .int .i64 q ∧ vs = .string s ∧ q ≤ u ∧ s.size ≤ 30 ∧ Below w.heap.size w wr ∧ Hid (Lib.decDigits q ++ s.data.toList = Lib.decDigits u)) (fun vn _ _ => (intOf vn).toNat)
  case atStart => exact ⟨u, ⟨#[]⟩, rfl, rfl, Nat.le_refl _, by decide, Below.refl _ _, hid (by simp)⟩
  case round =>
    obtain ⟨q, s, rfl, rfl, hq, hs, hB, hE⟩ := hrel
    have hbw := hB.size
    by_cases h9 : 9 < q
    · have hv0 : (0 : Int) ≤ 48 + (q : Int) % 10 := by omega
      have hv1 : 48 + (q : Int) % 10 < 256 := by omega
      have hwr := wrap_fig _ hv0 hv1
      have hcv := fig_byte (wr.alloc (.cells #[.int .u8 (48 + (q : Int) % 10)] 5)) wr.heap.size _ hv0 hv1 (by simp [go_sem])
      have hmod : (48 + (q : Int) % 10).toNat = 48 + q % 10 := by omega
      rw [hmod] at hcv
      have HE2 : Hid (Lib.decDigits (q / 10) ++ ((⟨#[(48 + q % 10).toUInt8]⟩ : ByteArray) ++ s).data.toList = Lib.decDigits u) := hid (by
        rw [← hE.out, ← dec_step h9]
        simp)
      have hsl : ((⟨#[(48 + q % 10).toUInt8]⟩ : ByteArray) ++ s).size ≤ 30 := by
        have h := congrArg List.length HE2.out
        have h2 := HL.out
        rw [List.length_append, fig_len] at h
        rw [ByteArray.size_append]
        show 1 + s.size ≤ 30
        omega
      have hs1 : (⟨#[(48 + q % 10).toUInt8]⟩ : ByteArray).size ≤ 1 := Nat.le_refl _
      generalize (⟨#[(48 + q % 10).toUInt8]⟩ : ByteArray) = D at *
      go_wp2
      go_roundw
      case rel => exact ⟨q / 10, D ++ s, by go_num, rfl, by omega, hsl, hB.alloc hbw _, HE2⟩
      case measure => simp [intOf]; omega
    · have hv0 : (0 : Int) ≤ 48 + (q : Int) := by omega
      have hv1 : 48 + (q : Int) < 256 := by omega
      have hwr := wrap_fig _ hv0 hv1
      have hcv := fig_byte (wr.alloc (.cells #[.int .u8 (48 + (q : Int))] 5)) wr.heap.size _ hv0 hv1 (by simp [go_sem])
      have hmod : (48 + (q : Int)).toNat = 48 + q := by omega
      rw [hmod] at hcv
      have HE2 : Hid ((⟨#[(48 + q).toUInt8]⟩ : ByteArray) ++ s = ⟨(Lib.decDigits u).toArray⟩) := hid (by
        rw [← hE.out, ← dec_last (by omega)]
        apply ByteArray.ext
        simp)
      have hs1 : (⟨#[(48 + q).toUInt8]⟩ : ByteArray).size ≤ 1 := Nat.le_refl _
      generalize (⟨#[(48 + q).toUInt8]⟩ : ByteArray) = D at *
      go_wp2
      go_ret
      exact ⟨by rw [HE2.out] <;> rfl, hB.alloc hbw _⟩

set_option maxHeartbeats 2000000 in
set_option maxRecDepth 100000 in
theorem word_any (k n : Int) (s : ByteArray) (hk : k = 0 ∨ k = 1 ∨ k = 2 ∨ k = 3 ∨ k = 4 ∨ k = 8 ∨ k = 9) (hn : k = 8 ∨ k = 9 → 0 ≤ n ∧ n ≤ 9223372036854775807) (w : World) :
    Calls Tryd.prog 54 #[.agg #[.int .i64 k, .string s, .int .i64 n]] w fun e w' => e = .returned (.string ⟨(L.first ⟨k, s, n⟩).toArray⟩) ∧ Below w.heap.size w w' := by
  rcases hk with rfl | rfl | rfl | rfl | rfl | rfl | rfl
  case inr.inr.inr.inr.inr.inl =>
    obtain ⟨h0, h1⟩ := hn (by simp)
    have HI := hid (figures_any n h0 h1 (w.alloc (.cells #[.int .i64 8, .string s, .int .i64 n] 44)))
    have hl := Lib.itoa_length_le n (by omega) h1
    have HF : Hid ((⟨#[39]⟩ : ByteArray) ++ ⟨(Lib.itoa n).toArray⟩ = ⟨(L.first ⟨8, s, n⟩).toArray⟩) := hid (ba_append [39] (Lib.itoa n))
    have hD : (⟨(Lib.itoa n).toArray⟩ : ByteArray).size ≤ 21 := by show (Lib.itoa n).toArray.size ≤ 21; simpa using hl
    generalize (⟨(Lib.itoa n).toArray⟩ : ByteArray) = D at *
    go_enter Tryd.func54, Tryd.ntmps54
    go_wp2_with fail
    refine (HI.out).mono ?_
    rintro e w1 ⟨rfl, hb1⟩
    go_wp2
    go_ret
    refine ⟨?_, (below_new _).trans (hb1.mono (by simp))⟩
    rw [HF.out] <;> rfl
  case inr.inr.inr.inr.inr.inr =>
    obtain ⟨h0, h1⟩ := hn (by simp)
    have HI := hid (figures_any n h0 h1 (w.alloc (.cells #[.int .i64 9, .string s, .int .i64 n] 44)))
    have hl := Lib.itoa_length_le n (by omega) h1
    have HF : Hid ((⟨#[46, 46]⟩ : ByteArray) ++ ⟨(Lib.itoa n).toArray⟩ = ⟨(L.first ⟨9, s, n⟩).toArray⟩) := hid (ba_append [46, 46] (Lib.itoa n))
    have hD : (⟨(Lib.itoa n).toArray⟩ : ByteArray).size ≤ 21 := by show (Lib.itoa n).toArray.size ≤ 21; simpa using hl
    generalize (⟨(Lib.itoa n).toArray⟩ : ByteArray) = D at *
    go_enter Tryd.func54, Tryd.ntmps54
    go_wp2_with fail
    refine (HI.out).mono ?_
    rintro e w1 ⟨rfl, hb1⟩
    go_wp2
    go_ret
    refine ⟨?_, (below_new _).trans (hb1.mono (by simp))⟩
    rw [HF.out] <;> rfl
  all_goals go_enter Tryd.func54, Tryd.ntmps54
  all_goals go_wp2
  all_goals go_ret
  all_goals exact ⟨rfl, below_new _⟩

end Go.Proofs.YtimlblbmfckeiaaDoor
