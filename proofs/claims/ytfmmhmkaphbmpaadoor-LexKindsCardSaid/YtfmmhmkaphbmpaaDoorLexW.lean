/-
  The walk of lex's skip: what stands between tokens. Condition: a text of at most 2000000 bytes.
-/
import Derived.Test.YtfmmhmkaphbmpaaDoorLexC
namespace Go.Proofs.YtfmmhmkaphbmpaaDoor
open Go.RowKit

theorem byte_is (s : ByteArray) (k : Nat) (h : k < s.size) : (s[k]'h).toNat = G.at0 (s.data.toList.drop k) 0 := byteAt_eq s k h

set_option maxHeartbeats 1000000 in
set_option maxRecDepth 100000 in
theorem skip_any (s : ByteArray) (hs : s.size ≤ 2000000) (at_ : Nat) (hat : at_ ≤ s.size) (w : World) :
    Calls Tryd.prog 21 #[.string s, .int .i64 at_] w fun e w' => e = .returned (.int .i64 ((at_ + L.skipL false (s.data.toList.drop at_) : Nat) : Int)) ∧ w = w' := by
  go_enter Tryd.func21, Tryd.ntmps21
  go_wp2
  go_loop [1] (fun vi => ∃ k : Nat, k ≤ s.size ∧ vi = .int .i64 k ∧ k + L.skipL false (s.data.toList.drop k) = at_ + L.skipL false (s.data.toList.drop at_)) (fun vi => s.size - (intOf vi).toNat)
  case atStart => exact ⟨at_, hat, rfl, rfl⟩
  case round =>
    obtain ⟨k, hk, rfl, hrun⟩ := hrel
    have hb := L.skipL_blank (s.data.toList.drop k)
    have hr := L.runL_le L.blankB (s.data.toList.drop k)
    have hl : (s.data.toList.drop k).length = s.size - k := by simp
    rw [List.drop_drop] at hb
    obtain ⟨n, hn⟩ : ∃ n, n = L.runL L.blankB (s.data.toList.drop k) := ⟨_, rfl⟩
    rw [← hn] at hb hr
    have hn2 : k + n ≤ s.size := by omega
    have HE : ∀ w, Calls Tryd.prog 35 #[.string s, .int .i64 k, .func (.func 36) #[] #[]] w fun e w' => e = .returned (.int .i64 ((k + n : Nat) : Int)) ∧ w = w' := by
      intro w; rw [hn]; exact endOf_blank s hs k hk w
    have hz : L.runL L.blankB (s.data.toList.drop (k + n)) = 0 := by rw [← List.drop_drop, hn]; exact L.runL_again _ _
    have hrun2 : k + n + L.skipL false (s.data.toList.drop (k + n)) = at_ + L.skipL false (s.data.toList.drop at_) := by omega
    have hkm : k ≤ k + n := by omega
    clear hrun hb hr hl hn
    generalize k + n = m at *
    have HZ := hid hz
    have HR := hid hrun2
    have HE' := hid HE
    clear hz hrun2 HE
    by_cases hlt : m < s.size
    · have hbt := byte_is s m hlt
      by_cases h35 : G.at0 (s.data.toList.drop m) 0 = 35
      · have hbo : (((s[m]'hlt).toNat : Int) != 35) = false := by simp; omega
        have h2 := endOf_line s hs m (by omega)
        have h3 := L.skipL_line (s.data.toList.drop m)
        rw [← L.skipL_mark h35, List.drop_drop] at h3
        have h4 := L.runL_le L.lineB (s.data.toList.drop m)
        have h5 : (s.data.toList.drop m).length = s.size - m := by simp
        have h6 : 1 ≤ L.runL L.lineB (s.data.toList.drop m) := by
          rw [L.runL_step (by simpa using hlt) (by show (s[m].toNat != 10) = true; rw [hbt, h35]; rfl)]; omega
        generalize L.runL L.lineB (s.data.toList.drop m) = j at *
        have H2 := hid h2
        have H3 := hid h3
        have hj : m + j ≤ s.size := by omega
        clear h2 h3 h4 h5 hbt h35
        go_wp2_with fail
        refine (HE'.out _).mono ?_
        rintro e w1 ⟨rfl, rfl⟩
        go_wp2_with fail
        refine (H2.out _).mono ?_
        rintro e w1 ⟨rfl, rfl⟩
        go_wp2
        go_round
        case rel => exact ⟨m + j, hj, by go_num, by have := H3.out; have := HR.out; omega⟩
        case measure => simp [intOf]; omega
      · have hbo : (((s[m]'hlt).toNat : Int) != 35) = true := by simp; omega
        have h3 := hid (L.skipL_stop h35 HZ.out)
        clear hbt h35
        go_wp2_with fail
        refine (HE'.out _).mono ?_
        rintro e w1 ⟨rfl, rfl⟩
        go_wp2
        go_ret
        exact ⟨ret_int (by have h := HR.out; have h2 := h3.out; omega), rfl⟩
    · go_wp2_with (go_at_call 35; refine (HE'.out _).mono ?_; rintro e w' ⟨rfl, rfl⟩)
      go_ret
      exact ⟨ret_int (by have h := HR.out; have h2 : L.skipL false (s.data.toList.drop m) = 0 := by { rw [List.drop_eq_nil_of_le (by simp; omega)]; rfl }; omega), rfl⟩

end Go.Proofs.YtfmmhmkaphbmpaaDoor
