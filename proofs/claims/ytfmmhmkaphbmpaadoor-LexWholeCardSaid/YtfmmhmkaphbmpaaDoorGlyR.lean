/-
  The walk of the reference's Quote and figure: what plain lists of bytes tell; the world as it was. Condition: a string of at most 2000000 bytes.
-/
import Derived.Test.YtfmmhmkaphbmpaaDoorGlyQ
namespace Go.Proofs.YtfmmhmkaphbmpaaDoor
open Go.RowKit

theorem fig_cut (n : Nat) (h : n < 16) : (⟨#[48, 49, 50, 51, 52, 53, 54, 55, 56, 57, 97, 98, 99, 100, 101, 102]⟩ : ByteArray).extract n (n + 1) = ⟨#[G.figL n]⟩ := by
  match n, h with
  | 0, _ => rfl
  | 1, _ => rfl
  | 2, _ => rfl
  | 3, _ => rfl
  | 4, _ => rfl
  | 5, _ => rfl
  | 6, _ => rfl
  | 7, _ => rfl
  | 8, _ => rfl
  | 9, _ => rfl
  | 10, _ => rfl
  | 11, _ => rfl
  | 12, _ => rfl
  | 13, _ => rfl
  | 14, _ => rfl
  | 15, _ => rfl
  | n + 16, h => omega

set_option maxHeartbeats 1000000 in
theorem figure_any (n : Int) (h0 : 0 ≤ n) (h : n < 16) (w : World) :
    Calls Tryd.prog 34 #[.int .u8 n] w fun e w' => e = .returned (.string ⟨#[G.figL n.toNat]⟩) ∧ w = w' := by
  obtain ⟨m, rfl⟩ := Int.eq_ofNat_of_zero_le h0
  go_enter Tryd.func34, Tryd.ntmps34
  go_wp2
  go_ret
  refine ⟨?_, rfl⟩
  show Ending.returned (.string _) = _
  rw [fig_cut m (by omega)]
  rfl

def RRel (s : ByteArray) (vo vi : Value) : Prop :=
  ∃ (pos f : Nat) (o : ByteArray), vo = .string o ∧ vi = .int .i64 pos ∧ o.data.toList ++ G.quoteF f (s.data.toList.drop pos) = 34 :: G.quoteF s.size s.data.toList ∧ s.size ≤ pos + f ∧ o.size ≤ 4 * pos + 1 ∧ pos ≤ s.size

theorem toList_app (a b : ByteArray) : (a ++ b).data.toList = a.data.toList ++ b.data.toList := by simp

theorem RRel.next {s : ByteArray} {pos g : Nat} {o : ByteArray} (hp : pos < s.size)
    (ha : o.data.toList ++ G.quoteF (g + 1) (s.data.toList.drop pos) = 34 :: G.quoteF s.size s.data.toList) (hf : s.size ≤ pos + (g + 1)) (hl : o.size ≤ 4 * pos + 1)
    (p : ByteArray) (hpc : p.data.toList = G.pieceL (s.data.toList.drop pos)) (k : Int) (hk : k = ((pos + G.wid (s.data.toList.drop pos) : Nat) : Int)) : RRel s (.string (o ++ p)) (.int .i64 k) := by
  subst hk
  have hw := G.wid_pos (s.data.toList.drop pos)
  have hz : p.size = p.data.toList.length := by simp
  have hz2 := G.pieceL_len (s.data.toList.drop pos)
  have h2 := G.wid_le (drop_ne hp)
  have h3 : (s.data.toList.drop pos).length = s.size - pos := by simp
  rw [hpc] at hz
  refine ⟨_, g, _, rfl, rfl, ?_, by omega, ?_, by omega⟩
  · rw [← ha, G.quoteF, if_neg (drop_ne hp), List.drop_drop, toList_app, hpc, List.append_assoc]
  · rw [ByteArray.size_append]
    omega

theorem take_one {s : ByteArray} {pos : Nat} (hp : pos < s.size) : (s.data.toList.drop pos).take 1 = [UInt8.ofNat (byteAt s pos)] := by
  have h2 : pos < s.data.toList.length := by simpa using hp
  rw [List.drop_eq_getElem_cons h2]
  have : (byteAt s pos) = (s.data.toList[pos]).toNat := by
    rw [← byteAt_eq s pos hp]
    rfl
  rw [this]
  simp

theorem cut_list (s : ByteArray) (a n : Nat) : (s.extract a (a + n)).data.toList = (s.data.toList.drop a).take n := by
  simp [List.take_drop]

theorem app3 (a b c : ByteArray) : a ++ b ++ c = a ++ (b ++ c) := by
  apply ByteArray.ext
  simp [Array.append_assoc]

set_option maxHeartbeats 4000000 in
set_option maxRecDepth 1000000 in
theorem refQuote_any (s : ByteArray) (hs : s.size ≤ 2000000) (w : World) :
    Calls Tryd.prog 20 #[.string s] w fun e w' => e = .returned (.string ⟨(G.quoteL s.data.toList).toArray⟩) ∧ w = w' := by
  go_enter Tryd.func20, Tryd.ntmps20
  go_wp2
  go_loop [3, 4] (fun vo vi => RRel s vo vi) (fun _ vi => s.size - (intOf vi).toNat)
  case atStart => exact ⟨0, s.size, _, rfl, rfl, by simp, by omega, by decide, by omega⟩
  case round =>
    obtain ⟨pos, f, o, rfl, rfl, hacc, hf, hol, hps⟩ := hrel
    have HA := hid hacc
    clear hacc
    by_cases hp : pos < s.size
    · obtain ⟨g, rfl⟩ : ∃ g, f = g + 1 := ⟨f - 1, by omega⟩
      have HB := hid (byteAt_eq s pos hp)
      have hl4 : G.longL (s.data.toList.drop pos) ≤ 4 := longL_le4 (drop_ne hp)
      have hle : Hid (G.longL (s.data.toList.drop pos) ≤ (s.data.toList.drop pos).length) := hid (by
        have := G.wid_le (drop_ne hp)
        unfold G.wid at this
        omega)
      have hlen : Hid ((s.data.toList.drop pos).length = s.size - pos) := hid (by simp)
      have hfit : pos + G.longL (s.data.toList.drop pos) ≤ s.size := by have := hle.out; have := hlen.out; omega
      by_cases q92 : byteAt s pos = 92
      · have HQ := hid q92
        have hb0 : (((s[pos]'hp).toNat : Int) == 92) = true := by rw [HB.out]; simp; omega
        clear q92
        go_wp2_with (first | (go_at_call 33; refine (long_any s pos hp hs _).mono ?_; rintro e w' ⟨rfl, rfl⟩) | (go_at_call 34; refine (figure_any _ (by omega) (by omega) _).mono ?_; rintro e w' ⟨rfl, rfl⟩))
        go_round
        case rel =>
          rw [app3]
          refine RRel.next hp HA.out hf hol _ ?_ _ (by unfold G.wid; omega)
          rw [show G.pieceL (s.data.toList.drop pos) = [92, UInt8.ofNat (byteAt s pos)] by unfold G.pieceL; rw [if_pos (by have := HQ.out; unfold byteAt at this; omega)]; rfl]
          rw [toList_app, cut_list, take_one hp]
          rfl
        case measure => simp [intOf]; omega
      by_cases q34 : byteAt s pos = 34
      · have HQ := hid q34
        have hb0 : (((s[pos]'hp).toNat : Int) == 92) = false := by rw [HB.out]; simp; omega
        have hb1 : (((s[pos]'hp).toNat : Int) == 34) = true := by rw [HB.out]; simp; omega
        clear q34 q92
        go_wp2_with (first | (go_at_call 33; refine (long_any s pos hp hs _).mono ?_; rintro e w' ⟨rfl, rfl⟩) | (go_at_call 34; refine (figure_any _ (by omega) (by omega) _).mono ?_; rintro e w' ⟨rfl, rfl⟩))
        go_round
        case rel =>
          rw [app3]
          refine RRel.next hp HA.out hf hol _ ?_ _ (by unfold G.wid; omega)
          rw [show G.pieceL (s.data.toList.drop pos) = [92, UInt8.ofNat (byteAt s pos)] by unfold G.pieceL; rw [if_pos (by have := HQ.out; unfold byteAt at this; omega)]; rfl]
          rw [toList_app, cut_list, take_one hp]
          rfl
        case measure => simp [intOf]; omega
      by_cases q10 : byteAt s pos = 10
      · have HQ := hid q10
        have hb0 : (((s[pos]'hp).toNat : Int) == 92) = false := by rw [HB.out]; simp; omega
        have hb1 : (((s[pos]'hp).toNat : Int) == 34) = false := by rw [HB.out]; simp; omega
        have hb2 : (((s[pos]'hp).toNat : Int) == 10) = true := by rw [HB.out]; simp; omega
        clear q34 q92 q10
        go_wp2_with (first | (go_at_call 33; refine (long_any s pos hp hs _).mono ?_; rintro e w' ⟨rfl, rfl⟩) | (go_at_call 34; refine (figure_any _ (by omega) (by omega) _).mono ?_; rintro e w' ⟨rfl, rfl⟩))
        go_round
        case rel =>
          refine RRel.next hp HA.out hf hol _ ?_ _ (by unfold G.wid; omega)
          rw [show G.pieceL (s.data.toList.drop pos) = [92, 110] by unfold G.pieceL; have := HQ.out; unfold byteAt at this; rw [if_neg (by omega), if_pos (by omega)]]
        case measure => simp [intOf]; omega
      by_cases q9 : byteAt s pos = 9
      · have HQ := hid q9
        have hb0 : (((s[pos]'hp).toNat : Int) == 92) = false := by rw [HB.out]; simp; omega
        have hb1 : (((s[pos]'hp).toNat : Int) == 34) = false := by rw [HB.out]; simp; omega
        have hb2 : (((s[pos]'hp).toNat : Int) == 10) = false := by rw [HB.out]; simp; omega
        have hb3 : (((s[pos]'hp).toNat : Int) == 9) = true := by rw [HB.out]; simp; omega
        clear q34 q92 q10 q9
        go_wp2_with (first | (go_at_call 33; refine (long_any s pos hp hs _).mono ?_; rintro e w' ⟨rfl, rfl⟩) | (go_at_call 34; refine (figure_any _ (by omega) (by omega) _).mono ?_; rintro e w' ⟨rfl, rfl⟩))
        go_round
        case rel =>
          refine RRel.next hp HA.out hf hol _ ?_ _ (by unfold G.wid; omega)
          rw [show G.pieceL (s.data.toList.drop pos) = [92, 116] by unfold G.pieceL; have := HQ.out; unfold byteAt at this; rw [if_neg (by omega), if_neg (by omega), if_pos (by omega)]]
        case measure => simp [intOf]; omega
      have HN : Hid (¬ byteAt s pos = 92 ∧ ¬ byteAt s pos = 34 ∧ ¬ byteAt s pos = 10 ∧ ¬ byteAt s pos = 9) := hid ⟨q92, q34, q10, q9⟩
      have hb0 : (((s[pos]'hp).toNat : Int) == 92) = false := by rw [HB.out]; simp; omega
      have hb1 : (((s[pos]'hp).toNat : Int) == 34) = false := by rw [HB.out]; simp; omega
      have hb2 : (((s[pos]'hp).toNat : Int) == 10) = false := by rw [HB.out]; simp; omega
      have hb3 : (((s[pos]'hp).toNat : Int) == 9) = false := by rw [HB.out]; simp; omega
      clear q92 q34 q10 q9
      have h256 : (s[pos]'hp).toNat < 256 := UInt8.toNat_lt _
      by_cases qx : G.longL (s.data.toList.drop pos) = 0 ∨ byteAt s pos < 32 ∨ byteAt s pos = 127
      · have HQ := hid qx
        have hx : Hid (G.pieceL (s.data.toList.drop pos) = [92, 120, G.figL (byteAt s pos / 16), G.figL (byteAt s pos % 16)]) := hid (by
          have := HN.out
          unfold byteAt at this qx
          unfold G.pieceL
          rw [if_neg (by omega), if_neg (by omega), if_neg (by omega), if_pos qx]
          rfl)
        clear qx
        by_cases hz0 : G.longL (s.data.toList.drop pos) = 0
        · have HZ := hid hz0
          have hbz : ((G.longL (s.data.toList.drop pos) : Int) == 0) = true := by simp; omega
          clear hz0
          go_wp2_with (first | (go_at_call 33; refine (long_any s pos hp hs _).mono ?_; rintro e w' ⟨rfl, rfl⟩) | (go_at_call 34; refine (figure_any _ (by omega) (by omega) _).mono ?_; rintro e w' ⟨rfl, rfl⟩))
          go_round
          case rel =>
            rw [app3, app3]
            refine RRel.next hp HA.out hf hol _ ?_ _ (by have := HZ.out; unfold G.wid; omega)
            rw [hx.out, toList_app, toList_app, ← HB.out]
            rfl
          case measure => simp [intOf]; omega
        have HZ := hid hz0
        have hbz : ((G.longL (s.data.toList.drop pos) : Int) == 0) = false := by simp; omega
        clear hz0
        by_cases h32 : (s[pos]'hp).toNat < 32
        · go_wp2_with (first | (go_at_call 33; refine (long_any s pos hp hs _).mono ?_; rintro e w' ⟨rfl, rfl⟩) | (go_at_call 34; refine (figure_any _ (by omega) (by omega) _).mono ?_; rintro e w' ⟨rfl, rfl⟩))
          go_round
          case rel =>
            rw [app3, app3]
            refine RRel.next hp HA.out hf hol _ ?_ _ (by have := HZ.out; unfold G.wid; omega)
            rw [hx.out, toList_app, toList_app, ← HB.out]
            rfl
          case measure => simp [intOf]; omega
        have hb127 : (((s[pos]'hp).toNat : Int) == 127) = true := by
          have h1 := HQ.out
          have h2 := HZ.out
          have h3 := HB.out
          simp
          omega
        go_wp2_with (first | (go_at_call 33; refine (long_any s pos hp hs _).mono ?_; rintro e w' ⟨rfl, rfl⟩) | (go_at_call 34; refine (figure_any _ (by omega) (by omega) _).mono ?_; rintro e w' ⟨rfl, rfl⟩))
        go_round
        case rel =>
          rw [app3, app3]
          refine RRel.next hp HA.out hf hol _ ?_ _ (by have := HZ.out; unfold G.wid; omega)
          rw [hx.out, toList_app, toList_app, ← HB.out]
          rfl
        case measure => simp [intOf]; omega
      · have hx : Hid (G.pieceL (s.data.toList.drop pos) = (s.data.toList.drop pos).take (G.longL (s.data.toList.drop pos))) := hid (by
          have := HN.out
          unfold byteAt at this qx
          unfold G.pieceL
          rw [if_neg (by omega), if_neg (by omega), if_neg (by omega), if_neg qx])
        have hbz : ((G.longL (s.data.toList.drop pos) : Int) == 0) = false := by simp; omega
        have HZ : Hid (¬ G.longL (s.data.toList.drop pos) = 0) := hid (by omega)
        have h32 : 32 ≤ (s[pos]'hp).toNat := by rw [HB.out]; omega
        have hb127 : (((s[pos]'hp).toNat : Int) == 127) = false := by rw [HB.out]; simp; omega
        clear qx
        go_wp2_with (first | (go_at_call 33; refine (long_any s pos hp hs _).mono ?_; rintro e w' ⟨rfl, rfl⟩) | (go_at_call 34; refine (figure_any _ (by omega) (by omega) _).mono ?_; rintro e w' ⟨rfl, rfl⟩))
        go_round
        case rel =>
          refine RRel.next hp HA.out hf hol _ ?_ _ (by unfold G.wid; omega)
          rw [hx.out, cut_list]
        case measure => simp [intOf]; omega
    · go_wp2
      go_ret
      refine ⟨?_, rfl⟩
      show Ending.returned (.string _) = _
      have h := HA.out
      rw [drop_nil hp, G.quoteF_nil, List.append_nil] at h
      have : (o ++ ⟨#[34]⟩ : ByteArray) = ⟨(G.quoteL s.data.toList).toArray⟩ := by
        apply ByteArray.ext
        apply Array.ext'
        rw [toList_app, h]
        simp [G.quoteL]
      rw [this]

end Go.Proofs.YtfmmhmkaphbmpaaDoor
