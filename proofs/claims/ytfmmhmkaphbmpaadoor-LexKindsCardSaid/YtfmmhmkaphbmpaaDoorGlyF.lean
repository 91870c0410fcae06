/-
  The walk of the reference's escaped: what plain lists of bytes tell; the world grows above what was there. Condition: a string of at most 2000000 bytes.
-/
import Derived.Test.YtfmmhmkaphbmpaaDoorGlyE
import Derived.RegionTactic
import Derived.ChangeAlike
import Derived.IntWalk
import Derived.Deep.RegionWith
namespace Go.Proofs.YtfmmhmkaphbmpaaDoor
open Go.RowKit

/-- What escaped returns. -/
def escT (l : List UInt8) : ByteArray := if (G.escL l).2 = 0 then ⟨#[]⟩ else ⟨#[(G.escL l).1.toNat.toUInt8]⟩
def escS (l : List UInt8) : Value := .tuple #[.string (escT l), .int .i64 (G.escL l).2]

theorem ret_esc {l : List UInt8} {b : ByteArray} {n : Int} (a : Int) (h : G.escL l = (a, n)) (hb : b = if n = 0 then ⟨#[]⟩ else ⟨#[a.toNat.toUInt8]⟩) : Ending.returned (.tuple #[.string b, .int .i64 n]) = .returned (escS l) := by
  unfold escS escT
  rw [h, hb]

theorem wrap_u8 (v : Int) (h0 : 0 ≤ v) (h1 : v < 256) : IntKind.u8.wrap v = v := by
  have hm : v % 256 = v := by omega
  unfold IntKind.wrap
  simp [IntKind.bits, IntKind.signed, hm]

theorem one_byte (W : World) (g : Nat) (v : Int) (h0 : 0 ≤ v) (h1 : v < 256) (hc : W.cell? ⟨g, 0, none⟩ = some (.int .u8 v)) :
    (convert 45 9 (.slice (some ⟨g, 0, none⟩) 1 1)).run Tryd.prog W = .ok (.string ⟨#[v.toNat.toUInt8]⟩) W := by
  have hv : (v.toNat.toUInt8.toNat : Int) = v := by
    simp
    omega
  have := run_convert_bytes_back (P := Tryd.prog) W 45 9 5 ⟨g, 0, none⟩ 1 [v.toNat.toUInt8] Tryd.underlying45 Tryd.underlying5 Tryd.underlying9 (fun j hj => by
    match j, hj with
    | 0, _ =>
      show W.cell? ⟨g, 0 + 0, none⟩ = _
      rw [hc]
      simp only [List.getElem_cons_zero, hv])
  exact this

theorem cut_one {s : ByteArray} {i : Nat} (hi : i < s.size) : s.extract i (i + 1) = ⟨#[UInt8.ofNat (byteAt s i)]⟩ := by
  apply ByteArray.ext
  apply Array.ext'
  have := cut_list s i 1
  rw [take_one hi] at this
  exact this

set_option maxHeartbeats 1000000 in
set_option maxRecDepth 100000 in
theorem escaped_any (s : ByteArray) (i : Nat) (hi : i < s.size) (hs : s.size ≤ 2000000) (w : World) :
    Calls Tryd.prog 60 #[.string s, .int .i64 i] w fun e w' => e = .returned (escS (s.data.toList.drop i)) ∧ Below w.heap.size w w' := by
  have hlen : Hid ((s.data.toList.drop i).length = s.size - i) := hid (by simp)
  by_cases h4 : s.size ≤ i + 1
  · go_enter Tryd.func60, Tryd.ntmps60
    go_wp2
    go_ret2
    refine ⟨ret_esc 0 ?_ rfl, Below.refl _ _⟩
    unfold G.escL
    rw [hlen.out, if_pos (by omega)]
  have H1 := hid (byteAt_eq s (i + 1) (by omega))
  have H0 : Hid (¬ s.size - i < 2) := hid (by omega)
  have HA : Hid (byteAt s (i + 1) = G.at0 (s.data.toList.drop i) 1) := hid (by rw [at0_drop]; rfl)
  by_cases q92 : byteAt s (i + 1) = 92
  · have HQ := hid q92
    have hb0 : (((s[i + 1]'(by omega)).toNat : Int) == 92) = true := by rw [H1.out]; simp; omega
    clear q92
    go_enter Tryd.func60, Tryd.ntmps60
    go_wp2
    go_ret2
    have h := HQ.out
    rw [HA.out] at h
    refine ⟨ret_esc 92 ?_ (by have := HQ.out; rw [cut_one (by omega), this]; rfl), Below.refl _ _⟩
    unfold G.escL
    rw [hlen.out, if_neg H0.out, if_pos (Or.inl h), h]
    rfl
  by_cases q34 : byteAt s (i + 1) = 34
  · have HQ := hid q34
    have hb0 : (((s[i + 1]'(by omega)).toNat : Int) == 92) = false := by rw [H1.out]; simp; omega
    have hb1 : (((s[i + 1]'(by omega)).toNat : Int) == 34) = true := by rw [H1.out]; simp; omega
    clear q92 q34
    go_enter Tryd.func60, Tryd.ntmps60
    go_wp2
    go_ret2
    have h := HQ.out
    rw [HA.out] at h
    refine ⟨ret_esc 34 ?_ (by have := HQ.out; rw [cut_one (by omega), this]; rfl), Below.refl _ _⟩
    unfold G.escL
    rw [hlen.out, if_neg H0.out, if_pos (Or.inr h), h]
    rfl
  by_cases q110 : byteAt s (i + 1) = 110
  · have HQ := hid q110
    have hb0 : (((s[i + 1]'(by omega)).toNat : Int) == 92) = false := by rw [H1.out]; simp; omega
    have hb1 : (((s[i + 1]'(by omega)).toNat : Int) == 34) = false := by rw [H1.out]; simp; omega
    have hb2 : (((s[i + 1]'(by omega)).toNat : Int) == 110) = true := by rw [H1.out]; simp; omega
    clear q92 q34 q110
    go_enter Tryd.func60, Tryd.ntmps60
    go_wp2
    go_ret2
    have h := HQ.out
    rw [HA.out] at h
    refine ⟨ret_esc 10 ?_ rfl, Below.refl _ _⟩
    unfold G.escL
    rw [hlen.out, if_neg H0.out, if_neg (by omega), if_pos h]
  by_cases q116 : byteAt s (i + 1) = 116
  · have HQ := hid q116
    have hb0 : (((s[i + 1]'(by omega)).toNat : Int) == 92) = false := by rw [H1.out]; simp; omega
    have hb1 : (((s[i + 1]'(by omega)).toNat : Int) == 34) = false := by rw [H1.out]; simp; omega
    have hb2 : (((s[i + 1]'(by omega)).toNat : Int) == 110) = false := by rw [H1.out]; simp; omega
    have hb3 : (((s[i + 1]'(by omega)).toNat : Int) == 116) = true := by rw [H1.out]; simp; omega
    clear q92 q34 q110 q116
    go_enter Tryd.func60, Tryd.ntmps60
    go_wp2
    go_ret2
    have h := HQ.out
    rw [HA.out] at h
    refine ⟨ret_esc 9 ?_ rfl, Below.refl _ _⟩
    unfold G.escL
    rw [hlen.out, if_neg H0.out, if_neg (by omega), if_neg (by omega), if_pos h]
  by_cases q120 : byteAt s (i + 1) = 120
  · have HQ := hid q120
    have hb0 : (((s[i + 1]'(by omega)).toNat : Int) == 92) = false := by rw [H1.out]; simp; omega
    have hb1 : (((s[i + 1]'(by omega)).toNat : Int) == 34) = false := by rw [H1.out]; simp; omega
    have hb2 : (((s[i + 1]'(by omega)).toNat : Int) == 110) = false := by rw [H1.out]; simp; omega
    have hb3 : (((s[i + 1]'(by omega)).toNat : Int) == 116) = false := by rw [H1.out]; simp; omega
    have hb4 : (((s[i + 1]'(by omega)).toNat : Int) == 120) = true := by rw [H1.out]; simp; omega
    clear q92 q34 q110 q116 q120
    by_cases h5 : s.size ≤ i + 3
    · go_enter Tryd.func60, Tryd.ntmps60
      go_wp2
      go_ret2
      refine ⟨ret_esc 0 ?_ rfl, Below.refl _ _⟩
      have h := HQ.out
      rw [HA.out] at h
      unfold G.escL
      rw [hlen.out, if_neg H0.out, if_neg (by omega), if_neg (by omega), if_neg (by omega), if_neg (by omega)]
    · have H2 := hid (byteAt_eq s (i + 2) (by omega))
      have H3 := hid (byteAt_eq s (i + 3) (by omega))
      have hA2 : Hid (byteAt s (i + 2) = G.at0 (s.data.toList.drop i) 2) := hid (by rw [at0_drop]; rfl)
      have hA3 : Hid (byteAt s (i + 3) = G.at0 (s.data.toList.drop i) 3) := hid (by rw [at0_drop]; rfl)
      have hE : Hid (G.escL (s.data.toList.drop i) = if 0 ≤ G.sixL (s[i + 2]'(by omega)).toNat ∧ 0 ≤ G.sixL (s[i + 3]'(by omega)).toNat then (16 * G.sixL (s[i + 2]'(by omega)).toNat + G.sixL (s[i + 3]'(by omega)).toNat, 4) else (0, 0)) := hid (by
        have h := HQ.out
        rw [HA.out] at h
        rw [H2.out, H3.out, hA2.out, hA3.out]
        unfold G.escL
        rw [hlen.out, if_neg H0.out, if_neg (by omega), if_neg (by omega), if_neg (by omega)]
        simp only [h, true_and, show 4 ≤ s.size - i by omega])
      have l2 := G.sixL_lt (s[i + 2]'(by omega)).toNat
      have l3 := G.sixL_lt (s[i + 3]'(by omega)).toNat
      obtain ⟨l20, l21⟩ := l2
      obtain ⟨l30, l31⟩ := l3
      by_cases n2 : G.sixL (s[i + 2]'(by omega)).toNat < 0
      · go_enter Tryd.func60, Tryd.ntmps60
        go_wp2_with (go_at_call 68; refine (sixteen_any _ (UInt8.toNat_lt _) _).mono ?_; rintro e w' ⟨rfl, rfl⟩)
        go_ret2
        refine ⟨ret_esc 0 ?_ rfl, Below.refl _ _⟩
        rw [hE.out, if_neg (by omega)]
      by_cases n3 : G.sixL (s[i + 3]'(by omega)).toNat < 0
      · go_enter Tryd.func60, Tryd.ntmps60
        go_wp2_with (go_at_call 68; refine (sixteen_any _ (UInt8.toNat_lt _) _).mono ?_; rintro e w' ⟨rfl, rfl⟩)
        go_ret2
        refine ⟨ret_esc 0 ?_ rfl, Below.refl _ _⟩
        rw [hE.out, if_neg (by omega)]
      have p2 : 0 ≤ G.sixL (s[i + 2]'(by omega)).toNat := by omega
      have p3 : 0 ≤ G.sixL (s[i + 3]'(by omega)).toNat := by omega
      clear n2 n3 l20 l30
      go_enter Tryd.func60, Tryd.ntmps60
      go_wp2_with (go_at_call 68; refine (sixteen_any _ (UInt8.toNat_lt _) _).mono ?_; rintro e w' ⟨rfl, rfl⟩)
      have a1 : IntKind.i64.wrap ((i : Int) + 2) = (i : Int) + 2 := IntWalk.i64_in _ (by omega)
      have a2 : IntKind.i64.wrap ((i : Int) + 3) = (i : Int) + 3 := IntWalk.i64_in _ (by omega)
      have a3 : IntKind.i64.wrap (16 * G.sixL (s[i + 2]'(by omega)).toNat) = 16 * G.sixL (s[i + 2]'(by omega)).toNat := IntWalk.i64_in _ (by omega)
      have a4 : IntKind.i64.wrap (16 * G.sixL (s[i + 2]'(by omega)).toNat + G.sixL (s[i + 3]'(by omega)).toNat) = 16 * G.sixL (s[i + 2]'(by omega)).toNat + G.sixL (s[i + 3]'(by omega)).toNat := IntWalk.i64_in _ (by omega)
      have z1 : ((i : Int) + 2).toNat = i + 2 := by omega
      have z2 : ((i : Int) + 3).toNat = i + 3 := by omega
      have z3 : 0 ≤ (i : Int) + 2 := by omega
      have z4 : 0 ≤ (i : Int) + 3 := by omega
      have z5 : i + 2 < s.size := by omega
      have z6 : i + 3 < s.size := by omega
      have a5 : IntKind.u8.wrap (16 * G.sixL (s[i + 2]'(by omega)).toNat + G.sixL (s[i + 3]'(by omega)).toNat) = 16 * G.sixL (s[i + 2]'(by omega)).toNat + G.sixL (s[i + 3]'(by omega)).toNat := wrap_u8 _ (by omega) (by omega)
      have hcv : (convert 45 9 (.slice (some ⟨w.heap.size, 0, none⟩) 1 1)).run Tryd.prog ((w.alloc (.cells #[.int .u8 (16 * G.sixL (s[i + 2]'(by omega)).toNat + G.sixL (s[i + 3]'(by omega)).toNat)] 5)).drew) = _ :=
        one_byte _ w.heap.size (16 * G.sixL (s[i + 2]'(by omega)).toNat + G.sixL (s[i + 3]'(by omega)).toNat) (by omega) (by omega) (by simp [go_sem])
      have HE2 : Hid (G.escL (s.data.toList.drop i) = (16 * G.sixL (s[i + 2]'(by omega)).toNat + G.sixL (s[i + 3]'(by omega)).toNat, 4)) := hid (by rw [hE.out, if_pos ⟨p2, p3⟩])
      clear l21 l31 p2 p3
      go_region_with (go_at_call 68; refine (sixteen_any _ (UInt8.toNat_lt _) _).mono ?_; rintro e w' ⟨rfl, rfl⟩)
      all_goals (go_wp2; go_ret2)
      all_goals exact ⟨ret_esc (16 * G.sixL (s[i + 2]'(by omega)).toNat + G.sixL (s[i + 3]'(by omega)).toNat) HE2.out rfl, ((Below.refl _ _).alloc (Nat.le_refl _) _).drew⟩
  · have HN : Hid (¬ byteAt s (i + 1) = 92 ∧ ¬ byteAt s (i + 1) = 34 ∧ ¬ byteAt s (i + 1) = 110 ∧ ¬ byteAt s (i + 1) = 116 ∧ ¬ byteAt s (i + 1) = 120) := hid ⟨q92, q34, q110, q116, q120⟩
    have hb0 : (((s[i + 1]'(by omega)).toNat : Int) == 92) = false := by rw [H1.out]; simp; omega
    have hb1 : (((s[i + 1]'(by omega)).toNat : Int) == 34) = false := by rw [H1.out]; simp; omega
    have hb2 : (((s[i + 1]'(by omega)).toNat : Int) == 110) = false := by rw [H1.out]; simp; omega
    have hb3 : (((s[i + 1]'(by omega)).toNat : Int) == 116) = false := by rw [H1.out]; simp; omega
    have hb4 : (((s[i + 1]'(by omega)).toNat : Int) == 120) = false := by rw [H1.out]; simp; omega
    clear q92 q34 q110 q116 q120
    go_enter Tryd.func60, Tryd.ntmps60
    go_wp2
    go_ret2
    refine ⟨ret_esc 0 ?_ rfl, Below.refl _ _⟩
    have h := HN.out
    rw [HA.out] at h
    unfold G.escL
    rw [hlen.out, if_neg H0.out, if_neg (by omega), if_neg (by omega), if_neg (by omega), if_neg (by omega)]

end Go.Proofs.YtfmmhmkaphbmpaaDoor
