/-
  The walks of the escapes: glyph's unescape and unescapeHex, the reference's sixteen and escaped: what plain lists of bytes tell. Condition: strings of at most 2000000 bytes.
-/
import Derived.Test.YtfmmhmkaphbmpaaDoorGlyR
namespace Go.Proofs.YtfmmhmkaphbmpaaDoor
open Go.RowKit

namespace G
/-- The number of a figure of sixteen; -1: it is none. -/
def sixL (c : Nat) : Int := if 48 ≤ c ∧ c ≤ 57 then (c : Int) - 48 else if 97 ≤ c ∧ c ≤ 102 then (c : Int) - 87 else -1
theorem sixL_lt (c : Nat) : -1 ≤ sixL c ∧ sixL c < 16 := by
  unfold sixL
  split
  · omega
  · split <;> omega

/-- What the escape at the head stands for, and its length; length 0: none. -/
def escL (l : List UInt8) : Int × Int :=
  if l.length < 2 then (0, 0)
  else if at0 l 1 = 92 ∨ at0 l 1 = 34 then (at0 l 1, 2)
  else if at0 l 1 = 110 then (10, 2)
  else if at0 l 1 = 116 then (9, 2)
  else if at0 l 1 = 120 ∧ 4 ≤ l.length ∧ 0 ≤ sixL (at0 l 2) ∧ 0 ≤ sixL (at0 l 3) then (16 * sixL (at0 l 2) + sixL (at0 l 3), 4)
  else (0, 0)
end G

theorem index_six : ∀ n, n < 256 → Lib.indexByte [48, 49, 50, 51, 52, 53, 54, 55, 56, 57, 97, 98, 99, 100, 101, 102] (UInt8.ofNat n) = G.sixL n := by decide +kernel

theorem index_six8 (c : UInt8) : Lib.indexByte [48, 49, 50, 51, 52, 53, 54, 55, 56, 57, 97, 98, 99, 100, 101, 102] c = G.sixL c.toNat := by
  have := index_six c.toNat (UInt8.toNat_lt c)
  rw [UInt8.ofNat_toNat] at this
  exact this

theorem byteAt_at0 (s : ByteArray) (k : Nat) : byteAt s k = G.at0 s.data.toList k := by
  unfold byteAt G.at0
  rw [List.getD_eq_getElem?_getD, List.getD_eq_getElem?_getD, List.getElem?_drop, Nat.add_zero]

theorem ret_tw {a c : Int} {b d : Int} {k : IntKind} (h : a = c) (h2 : b = d) : Ending.returned (.tuple #[.int k a, .int .i64 b]) = .returned (.tuple #[.int k c, .int .i64 d]) := by rw [h, h2]

set_option maxHeartbeats 1000000 in
theorem sixteen_any (c : Nat) (h : c < 256) (w : World) :
    Calls Tryd.prog 68 #[.int .u8 c] w fun e w' => e = .returned (.int .i64 (G.sixL c)) ∧ w = w' := by
  by_cases h1 : 48 ≤ c ∧ c ≤ 57
  · obtain ⟨h2, h3⟩ := h1
    go_enter Tryd.func68, Tryd.ntmps68
    go_wp2_with (go_at_call 31; first | (refine (within_yes _ _ _ (by omega) (by omega) _).mono ?_; rintro e w' ⟨rfl, rfl⟩) | (refine (within_no _ _ _ (by omega) _).mono ?_; rintro e w' ⟨rfl, rfl⟩))
    go_ret
    exact ⟨ret_int (by unfold G.sixL; rw [if_pos ⟨h2, h3⟩]), rfl⟩
  · by_cases h4 : 97 ≤ c ∧ c ≤ 102
    · obtain ⟨h2, h3⟩ := h4
      clear h1
      go_enter Tryd.func68, Tryd.ntmps68
      go_wp2_with (go_at_call 31; first | (refine (within_yes _ _ _ (by omega) (by omega) _).mono ?_; rintro e w' ⟨rfl, rfl⟩) | (refine (within_no _ _ _ (by omega) _).mono ?_; rintro e w' ⟨rfl, rfl⟩))
      go_ret
      exact ⟨ret_int (by unfold G.sixL; rw [if_neg (by omega), if_pos ⟨h2, h3⟩]; omega), rfl⟩
    · have H1 := hid h1
      have H4 := hid h4
      have ho : c < 48 ∨ (57 < c ∧ c < 97) ∨ 102 < c := by omega
      clear h1 h4
      have n1 : (c : Int) < 48 ∨ 57 < (c : Int) := by omega
      have n2 : (c : Int) < 97 ∨ 102 < (c : Int) := by omega
      go_enter Tryd.func68, Tryd.ntmps68
      go_wp2_with (go_at_call 31; (refine (within_no _ _ _ (by omega) _).mono ?_; rintro e w' ⟨rfl, rfl⟩))
      go_ret
      exact ⟨ret_int (by unfold G.sixL; rw [if_neg H1.out, if_neg H4.out]), rfl⟩

theorem hexIndex (u : UInt8) (c : Int) (hc : c = u.toNat) (x : Int) (hx : G.sixL u.toNat = x) (w : World) :
    Calls Tryd.prog 72 #[.string ⟨#[48, 49, 50, 51, 52, 53, 54, 55, 56, 57, 97, 98, 99, 100, 101, 102]⟩, .int .u8 c] w fun e w' => e = .returned (.int .i64 x) ∧ w = w' := by
  subst hc
  refine (Tryd.strings_IndexByte _ _ w).mono ?_
  rintro e w' ⟨rfl, rfl⟩
  refine ⟨ret_int ?_, rfl⟩
  rw [← hx, ← index_six8]
  simp

theorem or_six' : ∀ a, a < 16 → ∀ b, b < 16 → bits BinOp.or IntKind.i64 ((a : Nat) * 16 : Int) (b : Nat) % 256 = 16 * (a : Int) + b := by decide +kernel

theorem or_six (x y : Int) (hx : 0 ≤ x) (hx1 : x < 16) (hy : 0 ≤ y) (hy1 : y < 16) : bits BinOp.or IntKind.i64 (x * 16) y % 256 = 16 * x + y := by
  obtain ⟨a, rfl⟩ := Int.eq_ofNat_of_zero_le hx
  obtain ⟨b, rfl⟩ := Int.eq_ofNat_of_zero_le hy
  exact or_six' a (by omega) b (by omega)

/-- What unescapeHex returns. -/
def hexV (t : ByteArray) : Value :=
  if 4 ≤ t.size ∧ 0 ≤ G.sixL (byteAt t 2) ∧ 0 ≤ G.sixL (byteAt t 3) then .tuple #[.int .u8 (16 * G.sixL (byteAt t 2) + G.sixL (byteAt t 3)), .int .i64 4] else .tuple #[.int .u8 0, .int .i64 0]

set_option maxHeartbeats 1000000 in
theorem unescapeHex_any (t : ByteArray) (_ht : t.size ≤ 2000000) (w : World) :
    Calls Tryd.prog 70 #[.string t] w fun e w' => e = .returned (hexV t) ∧ w = w' := by
  by_cases h4 : t.size < 4
  · go_enter Tryd.func70, Tryd.ntmps70
    go_wp2
    go_ret2
    refine ⟨?_, rfl⟩
    unfold hexV
    rw [if_neg (by omega)]
    rfl
  · have H2 := hid (byteAt_eq t 2 (by omega))
    have H3 := hid (byteAt_eq t 3 (by omega))
    obtain ⟨x, hx⟩ : ∃ x, G.sixL (t[2]'(by omega)).toNat = x := ⟨_, rfl⟩
    obtain ⟨y, hy⟩ : ∃ y, G.sixL (t[3]'(by omega)).toNat = y := ⟨_, rfl⟩
    have lx := G.sixL_lt (t[2]'(by omega)).toNat
    have ly := G.sixL_lt (t[3]'(by omega)).toNat
    rw [hx] at lx
    rw [hy] at ly
    obtain ⟨lx0, lx1⟩ := lx
    obtain ⟨ly0, ly1⟩ := ly
    have HX := hid hx
    have HY := hid hy
    clear hx hy
    have hv : Hid (hexV t = if 0 ≤ x ∧ 0 ≤ y then .tuple #[.int .u8 (16 * x + y), .int .i64 4] else .tuple #[.int .u8 0, .int .i64 0]) := hid (by
      unfold hexV
      rw [← H2.out, ← H3.out, HX.out, HY.out]
      simp only [show 4 ≤ t.size by omega, true_and])
    by_cases hx0 : x < 0
    · go_enter Tryd.func70, Tryd.ntmps70
      go_wp2_with fail
      refine (hexIndex _ _ rfl x HX.out _).mono ?_
      rintro e w' ⟨rfl, rfl⟩
      go_wp2_with fail
      refine (hexIndex _ _ rfl y HY.out _).mono ?_
      rintro e w' ⟨rfl, rfl⟩
      go_wp2
      go_ret2
      refine ⟨?_, rfl⟩
      rw [hv.out, if_neg (by omega)]
      rfl
    · by_cases hy0 : y < 0
      · go_enter Tryd.func70, Tryd.ntmps70
        go_wp2_with fail
        refine (hexIndex _ _ rfl x HX.out _).mono ?_
        rintro e w' ⟨rfl, rfl⟩
        go_wp2_with fail
        refine (hexIndex _ _ rfl y HY.out _).mono ?_
        rintro e w' ⟨rfl, rfl⟩
        go_wp2
        go_ret2
        refine ⟨?_, rfl⟩
        rw [hv.out, if_neg (by omega)]
        rfl
      · have hxx : 0 ≤ x := by omega
        have hyy : 0 ≤ y := by omega
        clear hx0 hy0 lx0 ly0
        go_enter Tryd.func70, Tryd.ntmps70
        go_wp2_with fail
        refine (hexIndex _ _ rfl x HX.out _).mono ?_
        rintro e w' ⟨rfl, rfl⟩
        go_wp2_with fail
        refine (hexIndex _ _ rfl y HY.out _).mono ?_
        rintro e w' ⟨rfl, rfl⟩
        go_wp2
        go_ret2
        refine ⟨?_, rfl⟩
        rw [hv.out, if_pos ⟨hxx, hyy⟩]
        exact ret_tw (or_six x y hxx lx1 hyy ly1) rfl

/-- What unescape returns. -/
def escV (t : ByteArray) : Value := .tuple #[.int .u8 (G.escL t.data.toList).1, .int .i64 (G.escL t.data.toList).2]

set_option maxHeartbeats 1000000 in
theorem unescape_any (t : ByteArray) (ht : t.size ≤ 2000000) (w : World) :
    Calls Tryd.prog 64 #[.string t] w fun e w' => e = .returned (escV t) ∧ w = w' := by
  have hlen : Hid (t.data.toList.length = t.size) := hid (by simp)
  by_cases h4 : t.size < 2
  · go_enter Tryd.func64, Tryd.ntmps64
    go_wp2
    go_ret2
    refine ⟨?_, rfl⟩
    unfold escV G.escL
    rw [hlen.out, if_pos h4]
    rfl
  have H1 := hid (byteAt_eq t 1 (by omega))
  have H0 := hid h4
  have HA := hid (byteAt_at0 t 1)
  by_cases q92 : byteAt t 1 = 92
  · have HQ := hid q92
    have hb0 : (((t[1]'(by omega)).toNat : Int) == 92) = true := by rw [H1.out]; simp; omega
    clear q92
    go_enter Tryd.func64, Tryd.ntmps64
    go_wp2
    go_ret2
    refine ⟨?_, rfl⟩
    have h := HQ.out
    rw [HA.out] at h
    unfold escV G.escL
    rw [hlen.out, if_neg H0.out, if_pos (Or.inl h), h]
    refine ret_tw ?_ rfl
    rw [H1.out, HA.out, h]
  by_cases q34 : byteAt t 1 = 34
  · have HQ := hid q34
    have hb0 : (((t[1]'(by omega)).toNat : Int) == 92) = false := by rw [H1.out]; simp; omega
    have hb1 : (((t[1]'(by omega)).toNat : Int) == 34) = true := by rw [H1.out]; simp; omega
    clear q92 q34
    go_enter Tryd.func64, Tryd.ntmps64
    go_wp2
    go_ret2
    refine ⟨?_, rfl⟩
    have h := HQ.out
    rw [HA.out] at h
    unfold escV G.escL
    rw [hlen.out, if_neg H0.out, if_pos (Or.inr h), h]
    refine ret_tw ?_ rfl
    rw [H1.out, HA.out, h]
  by_cases q110 : byteAt t 1 = 110
  · have HQ := hid q110
    have hb0 : (((t[1]'(by omega)).toNat : Int) == 92) = false := by rw [H1.out]; simp; omega
    have hb1 : (((t[1]'(by omega)).toNat : Int) == 34) = false := by rw [H1.out]; simp; omega
    have hb2 : (((t[1]'(by omega)).toNat : Int) == 110) = true := by rw [H1.out]; simp; omega
    clear q92 q34 q110
    go_enter Tryd.func64, Tryd.ntmps64
    go_wp2
    go_ret2
    refine ⟨?_, rfl⟩
    have h := HQ.out
    rw [HA.out] at h
    unfold escV G.escL
    rw [hlen.out, if_neg H0.out, if_neg (by omega), if_pos h]
    rfl
  by_cases q116 : byteAt t 1 = 116
  · have HQ := hid q116
    have hb0 : (((t[1]'(by omega)).toNat : Int) == 92) = false := by rw [H1.out]; simp; omega
    have hb1 : (((t[1]'(by omega)).toNat : Int) == 34) = false := by rw [H1.out]; simp; omega
    have hb2 : (((t[1]'(by omega)).toNat : Int) == 110) = false := by rw [H1.out]; simp; omega
    have hb3 : (((t[1]'(by omega)).toNat : Int) == 116) = true := by rw [H1.out]; simp; omega
    clear q92 q34 q110 q116
    go_enter Tryd.func64, Tryd.ntmps64
    go_wp2
    go_ret2
    refine ⟨?_, rfl⟩
    have h := HQ.out
    rw [HA.out] at h
    unfold escV G.escL
    rw [hlen.out, if_neg H0.out, if_neg (by omega), if_neg (by omega), if_pos h]
    rfl
  by_cases q120 : byteAt t 1 = 120
  · have HQ := hid q120
    have hb0 : (((t[1]'(by omega)).toNat : Int) == 92) = false := by rw [H1.out]; simp; omega
    have hb1 : (((t[1]'(by omega)).toNat : Int) == 34) = false := by rw [H1.out]; simp; omega
    have hb2 : (((t[1]'(by omega)).toNat : Int) == 110) = false := by rw [H1.out]; simp; omega
    have hb3 : (((t[1]'(by omega)).toNat : Int) == 116) = false := by rw [H1.out]; simp; omega
    have hb4 : (((t[1]'(by omega)).toNat : Int) == 120) = true := by rw [H1.out]; simp; omega
    clear q92 q34 q110 q116 q120
    have hv : ∃ a b, hexV t = .tuple #[.int .u8 a, .int .i64 b] ∧ a = (G.escL t.data.toList).1 ∧ b = (G.escL t.data.toList).2 := by
      have h := HQ.out
      rw [HA.out] at h
      unfold hexV
      rw [byteAt_at0 t 2, byteAt_at0 t 3]
      have hE : G.escL t.data.toList = if 4 ≤ t.size ∧ 0 ≤ G.sixL (G.at0 t.data.toList 2) ∧ 0 ≤ G.sixL (G.at0 t.data.toList 3) then (16 * G.sixL (G.at0 t.data.toList 2) + G.sixL (G.at0 t.data.toList 3), 4) else (0, 0) := by
        unfold G.escL
        rw [hlen.out, if_neg H0.out, if_neg (by omega), if_neg (by omega), if_neg (by omega)]
        simp only [h, true_and]
      rw [hE]
      split
      · exact ⟨_, _, rfl, rfl, rfl⟩
      · exact ⟨_, _, rfl, rfl, rfl⟩
    obtain ⟨a, b, hv1, hv2, hv3⟩ := hv
    have HV1 := hid hv1
    have HV2 := hid hv2
    have HV3 := hid hv3
    clear hv1 hv2 hv3
    have hcall : ∀ w : World, Calls Tryd.prog 70 #[.string t] w fun e w' => e = .returned (.tuple #[.int .u8 a, .int .i64 b]) ∧ w = w' := fun w => (unescapeHex_any t ht w).mono fun _ _ ⟨he, hw⟩ => ⟨by rw [he, HV1.out], hw⟩
    have HCALL := hid hcall
    clear hcall
    go_enter Tryd.func64, Tryd.ntmps64
    go_wp2_with (go_at_call 70; refine (HCALL.out _).mono ?_; rintro e w' ⟨rfl, rfl⟩)
    go_ret2
    refine ⟨?_, rfl⟩
    unfold escV
    rw [← HV2.out, ← HV3.out]
    rfl
  · have HN : Hid (¬ byteAt t 1 = 92 ∧ ¬ byteAt t 1 = 34 ∧ ¬ byteAt t 1 = 110 ∧ ¬ byteAt t 1 = 116 ∧ ¬ byteAt t 1 = 120) := hid ⟨q92, q34, q110, q116, q120⟩
    have hb0 : (((t[1]'(by omega)).toNat : Int) == 92) = false := by rw [H1.out]; simp; omega
    have hb1 : (((t[1]'(by omega)).toNat : Int) == 34) = false := by rw [H1.out]; simp; omega
    have hb2 : (((t[1]'(by omega)).toNat : Int) == 110) = false := by rw [H1.out]; simp; omega
    have hb3 : (((t[1]'(by omega)).toNat : Int) == 116) = false := by rw [H1.out]; simp; omega
    have hb4 : (((t[1]'(by omega)).toNat : Int) == 120) = false := by rw [H1.out]; simp; omega
    clear q92 q34 q110 q116 q120
    go_enter Tryd.func64, Tryd.ntmps64
    go_wp2
    go_ret2
    refine ⟨?_, rfl⟩
    have h := HN.out
    rw [HA.out] at h
    unfold escV G.escL
    rw [hlen.out, if_neg H0.out, if_neg (by omega), if_neg (by omega), if_neg (by omega), if_neg (by omega)]
    rfl

end Go.Proofs.YtfmmhmkaphbmpaaDoor
