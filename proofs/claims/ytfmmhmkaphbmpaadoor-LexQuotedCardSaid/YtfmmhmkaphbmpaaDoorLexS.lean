/-
  The walks of the reference's small functions for lex: keys, signs, IsKey, goes, figure, between, sign. Conditions: the arguments' ranges.
-/
import Derived.Test.YtfmmhmkaphbmpaaDoorLexT
import Derived.Test.YtfmmhmkaphbmpaaDoorLexK
import Derived.BigQuiet
import Derived.Deep.QuietTactic
namespace Go.Proofs.YtfmmhmkaphbmpaaDoor
open Go.RowKit

theorem refKeys_any (w : World) : Calls Tryd.prog 26 #[] w fun e w' => e = .returned (.slice (some ⟨w.heap.size, 0, none⟩) 18 18) ∧ w'.heap[w.heap.size]? = some (.cells (rowV L.keysL) 9 (0, 0)) ∧ Below w.heap.size w w' := by
  go_enter Tryd.func26, Tryd.ntmps26
  go_wp2
  go_ret
  exact ⟨rfl, heap_alloc_new w _, (Below.refl _ _).alloc (Nat.le_refl _) _⟩

theorem refSigns_any (w : World) : Calls Tryd.prog 61 #[] w fun e w' => e = .returned (.slice (some ⟨w.heap.size, 0, none⟩) 24 24) ∧ w'.heap[w.heap.size]? = some (.cells (rowV L.signsL) 9 (0, 0)) ∧ Below w.heap.size w w' := by
  go_enter Tryd.func61, Tryd.ntmps61
  go_wp2
  go_ret
  exact ⟨rfl, heap_alloc_new w _, (Below.refl _ _).alloc (Nat.le_refl _) _⟩

theorem beq_turn (a b : List UInt8) : (a == b) = (b == a) := by
  by_cases h : a = b
  · rw [h]
  · rw [beq_eq_false_iff_ne.2 h, beq_eq_false_iff_ne.2 (Ne.symm h)]

theorem rowV_get (gs : List (List UInt8)) (k : Nat) (h : k < gs.length) : (rowV gs)[k]? = some (strV (gs.getD k [])) := by
  simp [rowV, List.getD_eq_getElem?_getD, List.getElem?_eq_getElem h]

set_option maxHeartbeats 1000000 in
set_option maxRecDepth 100000 in
theorem refKey_any (s : ByteArray) (w : World) :
    Calls Tryd.prog 15 #[.string s] w fun e w' => e = .returned (.bool (L.keyL s.data.toList)) ∧ Below w.heap.size w w' := by
  have HK := hid (show L.keyL s.data.toList = (L.keysL.drop 0).contains s.data.toList from rfl)
  have HG : Hid (∀ k, k < 18 → (rowV L.keysL)[k]? = some (strV (L.keysL.getD k []))) := hid fun k h => rowV_get _ k h
  have HC := hid (refKeys_any w)
  generalize rowV L.keysL = K at *
  go_enter Tryd.func15, Tryd.ntmps15
  go_wp2_with fail
  refine (HC.out).mono ?_
  rintro e w1 ⟨rfl, hb, h1⟩
  have HB := hid fun k => Lib.cell_of_heap hb k
  clear hb
  go_wp2
  go_loop [4] (fun vi => ∃ k : Nat, k ≤ 18 ∧ vi = .int .i64 k ∧ (L.keysL.drop k).contains s.data.toList = L.keyL s.data.toList) (fun vi => 18 - (intOf vi).toNat)
  case atStart => exact ⟨0, by omega, rfl, rfl⟩
  case round =>
    obtain ⟨k, hk, rfl, hrun⟩ := hrel
    have HR := hid hrun
    clear hrun
    by_cases hlt : k < 18
    · have hx := (HB.out k).trans (HG.out k hlt)
      have HBE := hid (bytes_eq s (L.keysL.getD k []))
      have HBC : Hid (((⟨(L.keysL.getD k []).toArray⟩ : ByteArray).toList == s.toList) = (s.toList == (⟨(L.keysL.getD k []).toArray⟩ : ByteArray).toList)) := hid (beq_turn _ _)
      unfold strV at hx
      generalize (⟨(L.keysL.getD k []).toArray⟩ : ByteArray) = g at *
      have HST := hid (keys_step s.data.toList k hlt)
      rw [← HBE.out, ← HBC.out] at HST
      go_wp2
      · have ht : (g.toList == s.toList) = true := by assumption
        go_ret
        exact ⟨ret_bool (by rw [← HR.out, HST.out, ht]; rfl), h1⟩
      · have ht : (g.toList == s.toList) = false := by assumption
        go_round
        case rel => exact ⟨k + 1, by omega, by go_num, by rw [← HR.out, HST.out, ht]; rfl⟩
        case measure => simp [intOf]; omega
    · go_wp2
      go_ret
      obtain rfl : k = 18 := by omega
      exact ⟨ret_bool (by rw [← HR.out]; rfl), h1⟩

set_option maxHeartbeats 400000 in
theorem refFigure_any (c : Int) (w : World) : Calls Tryd.prog 47 #[.int .u8 c] w fun e w' => e = .returned (.bool (inB c 48 57)) ∧ w = w' := by
  go_enter Tryd.func47, Tryd.ntmps47
  go_wp2
  all_goals go_ret
  all_goals exact ⟨ret_bool (by first | rfl | (simp [inB]; done) | (rw [Bool.eq_iff_iff]; simp [inB]; omega)), rfl⟩

set_option maxHeartbeats 400000 in
theorem refGoes_any (c : Int) (w : World) : Calls Tryd.prog 46 #[.int .u8 c] w fun e w' => e = .returned (.bool (behB c)) ∧ w = w' := by
  go_enter Tryd.func46, Tryd.ntmps46
  go_wp2
  all_goals go_ret
  all_goals exact ⟨ret_bool (by rw [Bool.eq_iff_iff]; simp [behB, inB]; omega), rfl⟩

theorem skipL_in {l : List UInt8} {k : Nat} (h : k < l.length) (hb : L.blankB l[k] = true) : L.skipL false (l.drop k) = L.skipL false (l.drop (k + 1)) + 1 := by
  rw [List.drop_eq_getElem_cons h, L.skipL, if_pos hb]

set_option maxHeartbeats 2000000 in
set_option maxRecDepth 100000 in
theorem between_any (s : ByteArray) (hs : s.size ≤ 2000000) (at_ : Nat) (hat : at_ ≤ s.size) (w : World) :
    Calls Tryd.prog 24 #[.string s, .int .i64 at_] w fun e w' => e = .returned (.int .i64 ((at_ + L.skipL false (s.data.toList.drop at_) : Nat) : Int)) ∧ w = w' := by
  go_enter Tryd.func24, Tryd.ntmps24
  go_wp2
  go_loop [1] (fun vi => ∃ k : Nat, k ≤ s.size ∧ vi = .int .i64 k ∧ k + L.skipL false (s.data.toList.drop k) = at_ + L.skipL false (s.data.toList.drop at_)) (fun vi => s.size - (intOf vi).toNat)
  case atStart => exact ⟨at_, hat, rfl, rfl⟩
  case round =>
    obtain ⟨k, hk, rfl, hrun⟩ := hrel
    have HR := hid hrun
    clear hrun
    by_cases hlt : k < s.size
    · have hl : k < s.data.toList.length := by simpa using hlt
      have hbt := byte_is s k hlt
      by_cases hbl : L.blankB (s[k]'hlt) = true
      · have HB := hid (skipL_in hl hbl)
        have hor : (s[k]'hlt).toNat = 32 ∨ (s[k]'hlt).toNat = 9 ∨ (s[k]'hlt).toNat = 10 := by
          unfold L.blankB at hbl
          simp at hbl
          omega
        clear hbl hbt
        by_cases h32 : (s[k]'hlt).toNat = 32
        · have b1 : (((s[k]'hlt).toNat : Int) == 32) = true := beq_iff_eq.2 (by omega)
          clear h32 hor
          go_wp2
          go_round
          case rel => exact ⟨k + 1, by omega, by go_num, by have := HR.out; have := HB.out; omega⟩
          case measure => simp [intOf]; omega
        · have b1 : (((s[k]'hlt).toNat : Int) == 32) = false := beq_eq_false_iff_ne.2 (by omega)
          by_cases h9 : (s[k]'hlt).toNat = 9
          · have b2 : (((s[k]'hlt).toNat : Int) == 9) = true := beq_iff_eq.2 (by omega)
            clear h32 hor h9
            go_wp2
            go_round
            case rel => exact ⟨k + 1, by omega, by go_num, by have := HR.out; have := HB.out; omega⟩
            case measure => simp [intOf]; omega
          · have b2 : (((s[k]'hlt).toNat : Int) == 9) = false := beq_eq_false_iff_ne.2 (by omega)
            have b3 : (((s[k]'hlt).toNat : Int) == 10) = true := beq_iff_eq.2 (by omega)
            clear h32 hor h9
            go_wp2
            go_round
            case rel => exact ⟨k + 1, by omega, by go_num, by have := HR.out; have := HB.out; omega⟩
            case measure => simp [intOf]; omega
      · have hnb : (s[k]'hlt).toNat ≠ 32 ∧ (s[k]'hlt).toNat ≠ 9 ∧ (s[k]'hlt).toNat ≠ 10 := by
          unfold L.blankB at hbl
          simp at hbl
          omega
        obtain ⟨n1, n2, n3⟩ := hnb
        have b1 : (((s[k]'hlt).toNat : Int) == 32) = false := beq_eq_false_iff_ne.2 (by omega)
        have b2 : (((s[k]'hlt).toNat : Int) == 9) = false := beq_eq_false_iff_ne.2 (by omega)
        have b3 : (((s[k]'hlt).toNat : Int) == 10) = false := beq_eq_false_iff_ne.2 (by omega)
        have hr0 : L.runL L.blankB (s.data.toList.drop k) = 0 := L.runL_stop hl ((Bool.not_eq_true _).mp hbl)
        by_cases h35 : (s[k]'hlt).toNat = 35
        · have b4 : (((s[k]'hlt).toNat : Int) == 35) = true := beq_iff_eq.2 (by omega)
          have hm := L.skipL_mark (l := s.data.toList.drop k) (by omega)
          have h3 := L.skipL_line (s.data.toList.drop k)
          rw [← hm, List.drop_drop] at h3
          have h4 := L.runL_le L.lineB (s.data.toList.drop k)
          rw [List.length_drop] at h4
          have h6 : 1 ≤ L.runL L.lineB (s.data.toList.drop k) := by
            rw [L.runL_step hl (by show ((s[k]'hlt).toNat != 10) = true; rw [h35]; rfl)]; omega
          have hsz : s.data.toList.length = s.size := by simp
          rw [hsz] at h4
          obtain ⟨n, hn⟩ : ∃ n, L.runL L.lineB (s.data.toList.drop k) = n := ⟨_, rfl⟩
          rw [hn] at h3 h4 h6
          have HN := hid hn
          have H3 := hid h3
          have hkn : k + n ≤ s.size := by omega
          clear hn h3 hbl hbt hr0 hm h4 hsz n1 n2 n3 h35
          go_wp2
          go_loop [1] (fun vi => ∃ j : Nat, k ≤ j ∧ j ≤ s.size ∧ vi = .int .i64 j ∧ j + L.runL L.lineB (s.data.toList.drop j) = k + n) (fun vi => s.size - (intOf vi).toNat)
          case atStart => exact ⟨k, by omega, by omega, rfl, by rw [HN.out]⟩
          case round =>
            obtain ⟨j, hkj, hjs, rfl, hrel2⟩ := hrel
            have HJ := hid hrel2
            clear hrel2
            by_cases hj : j < s.size
            · have hlj : j < s.data.toList.length := by simpa using hj
              by_cases h10 : L.lineB (s[j]'hj) = true
              · have c1 : (((s[j]'hj).toNat : Int) != 10) = true := by
                  have : ((s[j]'hj).toNat != 10) = true := h10
                  simp at this
                  simp
                  omega
                have HS := hid (L.runL_step hlj h10)
                clear h10
                go_wp2
                go_round
                case rel => exact ⟨j + 1, by omega, by omega, by go_num, by have := HJ.out; have := HS.out; omega⟩
                case measure => simp [intOf]; omega
              · have c1 : (((s[j]'hj).toNat : Int) != 10) = false := by
                  have : ¬ ((s[j]'hj).toNat != 10) = true := h10
                  simp at this
                  simp
                  omega
                have HS := hid (L.runL_stop hlj ((Bool.not_eq_true _).mp h10))
                clear h10
                have hjn : j = k + n := by have := HJ.out; have := HS.out; omega
                subst hjn
                go_wp2
                go_round
                case rel => exact ⟨k + n, by omega, rfl, by have := HR.out; have := H3.out; omega⟩
                case measure => simp [intOf]; omega
            · have hjn : j = k + n := by
                have := HJ.out
                rw [L.runL_end (by simp; omega)] at this
                omega
              subst hjn
              go_wp2
              go_round
              case rel => exact ⟨k + n, by omega, rfl, by have := HR.out; have := H3.out; omega⟩
              case measure => simp [intOf]; omega
        · have b4 : (((s[k]'hlt).toNat : Int) == 35) = false := beq_eq_false_iff_ne.2 (by omega)
          have H0 := hid (L.skipL_stop (l := s.data.toList.drop k) (by omega) hr0)
          clear hbl hbt hr0 n1 n2 n3 h35
          go_wp2
          go_ret
          exact ⟨ret_int (by have := HR.out; have := H0.out; omega), rfl⟩
    · go_wp2
      go_ret
      exact ⟨ret_int (by have h := HR.out; have h2 : L.skipL false (s.data.toList.drop k) = 0 := by { rw [List.drop_eq_nil_of_le (by simp; omega)]; rfl }; omega), rfl⟩

end Go.Proofs.YtfmmhmkaphbmpaaDoor
