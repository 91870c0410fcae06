/-
  The walk of the reference's Unquote: what plain lists of bytes tell; the world grows above what was there. Condition: a string of at most 2000000 bytes.
-/
import Derived.Test.YtfmmhmkaphbmpaaDoorGlyT
namespace Go.Proofs.YtfmmhmkaphbmpaaDoor
open Go.RowKit

def VRel (s : ByteArray) (w : World) (vo vi : Value) (wr : World) : Prop :=
  ∃ (pos f : Nat) (o : ByteArray), vo = .string o ∧ vi = .int .i64 pos ∧ G.unqF f pos o.data.toList (s.data.toList.drop pos) = G.unqL s.data.toList ∧ s.size ≤ pos + f ∧ pos ≤ s.size ∧ o.size ≤ 4 * pos ∧ Below w.heap.size w wr

theorem at0_nil {l : List UInt8} (h : G.at0 l 0 = 34) : l ≠ [] := by
  intro hn
  rw [hn] at h
  exact absurd h (by decide)

theorem ret_unq3 {l : List UInt8} {o : ByteArray} {n : Int} {x : List UInt8} {m : Nat} (h : some (x, m) = G.unqL l) (ho : o.data.toList = x) (hn : n = m) : Ending.returned (.tuple #[.string o, .int .i64 n, .int .i64 0]) = .returned (unqV (G.unqL l)) := by
  rw [← h, hn, ← ho]
  rfl

set_option maxHeartbeats 4000000 in
set_option maxRecDepth 1000000 in
theorem refUnquote_any (s : ByteArray) (hs : s.size ≤ 2000000) (w : World) :
    Calls Tryd.prog 45 #[.string s] w fun e w' => e = .returned (unqV (G.unqL s.data.toList)) ∧ Below w.heap.size w w' := by
  by_cases hz : s.size = 0
  · have HF : Hid (G.unqL s.data.toList = none) := hid (by
      have : s.data.toList = [] := List.eq_nil_of_length_eq_zero (by simpa using hz)
      rw [this]
      rfl)
    have hzz : ((s.size : Int) == 0) = true := by rw [hz]; rfl
    clear hz
    go_enter Tryd.func45, Tryd.ntmps45
    go_wp2
    go_ret3
    exact ⟨ret_unq HF.out.symm, Below.refl _ _⟩
  have h0 : 0 < s.size := by omega
  have hzz : ((s.size : Int) == 0) = false := by rw [beq_eq_false_iff_ne]; omega
  have HB0 := hid (byteAt_eq s 0 h0)
  clear hz
  by_cases hq : byteAt s 0 = 34
  · have HQ : Hid (G.at0 s.data.toList 0 = 34) := hid (by rw [← byteAt_at0]; exact hq)
    have hqq : (((s[0]'h0).toNat : Int) == 34) = true := by rw [HB0.out]; simp; omega
    have hqn : (((s[0]'h0).toNat : Int) != 34) = false := by rw [HB0.out]; simp; omega
    have HU : Hid (G.unqL s.data.toList = G.unqF s.size 1 [] (s.data.toList.drop 1)) := hid (by unfold G.unqL; rw [if_pos HQ.out]; simp)
    clear hq
    go_enter Tryd.func45, Tryd.ntmps45
    go_wp2
    go_loopw [5, 6] (fun vo vi wr => VRel s w vo vi wr) (fun _ vi _ => s.size - (intOf vi).toNat)
    case atStart => exact ⟨1, s.size, ⟨#[]⟩, rfl, rfl, HU.out.symm, by omega, by omega, by decide, Below.refl _ _⟩
    case round =>
      obtain ⟨pos, f, o, rfl, rfl, hun, hf, hps, hol, hbel⟩ := hrel
      have HA := hid hun
      have HBEL := hid hbel
      clear hun hbel
      by_cases hp : pos < s.size
      · obtain ⟨g, rfl⟩ : ∃ g, f = g + 1 := ⟨f - 1, by omega⟩
        have HB := hid (byteAt_eq s pos hp)
        have hl4 : G.longL (s.data.toList.drop pos) ≤ 4 := longL_le4 (drop_ne hp)
        have hlen : Hid ((s.data.toList.drop pos).length = s.size - pos) := hid (by simp)
        have hfit : pos + G.longL (s.data.toList.drop pos) ≤ s.size := by
          have h1 := G.wid_le (drop_ne hp)
          have h2 := hlen.out
          unfold G.wid at h1
          omega
        by_cases q34 : byteAt s pos = 34
        · have hb : (((s[pos]'hp).toNat : Int) == 34) = true := by rw [HB.out]; simp; omega
          have HQ2 : Hid (G.at0 (s.data.toList.drop pos) 0 = 34) := hid q34
          clear q34
          go_wp2
          go_ret3
          refine ⟨?_, HBEL.out⟩
          have h := HA.out
          rw [G.unqF, if_neg (drop_ne hp), if_pos HQ2.out] at h
          exact ret_unq3 h rfl (by omega)
        have hb34 : (((s[pos]'hp).toNat : Int) == 34) = false := by rw [HB.out]; simp; omega
        have HQ34 : Hid (¬ G.at0 (s.data.toList.drop pos) 0 = 34) := hid q34
        clear q34
        by_cases qx : G.longL (s.data.toList.drop pos) = 0 ∨ byteAt s pos < 32 ∨ byteAt s pos = 127
        · have hfin : Hid (G.unqL s.data.toList = none) := hid (by
            have h := HA.out
            rw [G.unqF, if_neg (drop_ne hp), if_neg HQ34.out, if_pos (show G.longL (s.data.toList.drop pos) = 0 ∨ G.at0 (s.data.toList.drop pos) 0 < 32 ∨ G.at0 (s.data.toList.drop pos) 0 = 127 from qx)] at h
            exact h.symm)
          by_cases hz0 : G.longL (s.data.toList.drop pos) = 0
          · have hbz : ((G.longL (s.data.toList.drop pos) : Int) == 0) = true := by simp; omega
            clear hz0 qx
            go_wp2_with (go_at_call 33; refine (long_any s pos hp hs _).mono ?_; rintro e w' ⟨rfl, rfl⟩)
            go_ret3
            exact ⟨ret_unq hfin.out.symm, HBEL.out⟩
          have hbz : ((G.longL (s.data.toList.drop pos) : Int) == 0) = false := by simp; omega
          by_cases h32 : (s[pos]'hp).toNat < 32
          · clear hz0 qx
            go_wp2_with (go_at_call 33; refine (long_any s pos hp hs _).mono ?_; rintro e w' ⟨rfl, rfl⟩)
            go_ret3
            exact ⟨ret_unq hfin.out.symm, HBEL.out⟩
          have hb127 : (((s[pos]'hp).toNat : Int) == 127) = true := by
            have h3 := HB.out
            simp
            omega
          clear hz0 qx
          go_wp2_with (go_at_call 33; refine (long_any s pos hp hs _).mono ?_; rintro e w' ⟨rfl, rfl⟩)
          go_ret3
          exact ⟨ret_unq hfin.out.symm, HBEL.out⟩
        have HX : Hid (¬ (G.longL (s.data.toList.drop pos) = 0 ∨ G.at0 (s.data.toList.drop pos) 0 < 32 ∨ G.at0 (s.data.toList.drop pos) 0 = 127)) := hid qx
        have hbz : ((G.longL (s.data.toList.drop pos) : Int) == 0) = false := by simp; omega
        have h32 : 32 ≤ (s[pos]'hp).toNat := by rw [HB.out]; omega
        have hb127 : (((s[pos]'hp).toNat : Int) == 127) = false := by rw [HB.out]; simp; omega
        have hlo : 1 ≤ G.longL (s.data.toList.drop pos) := by omega
        clear qx
        by_cases q92 : byteAt s pos = 92
        · have hb92 : (((s[pos]'hp).toNat : Int) == 92) = true := by rw [HB.out]; simp; omega
          have HQ92 : Hid (G.at0 (s.data.toList.drop pos) 0 = 92) := hid q92
          obtain ⟨f1, f2, f3⟩ := G.escL_facts (s.data.toList.drop pos) (show byteAt s pos < 128 by omega)
          obtain ⟨a, b, hab⟩ : ∃ a b, G.escL (s.data.toList.drop pos) = (a, b) := ⟨_, _, rfl⟩
          rw [hab] at f1 f2 f3
          simp only at f1 f2 f3
          have HAB := hid hab
          have HF3 := hid f3
          obtain ⟨t, ht⟩ : ∃ t, t = escT (s.data.toList.drop pos) := ⟨_, rfl⟩
          have HT := hid ht
          have hesc : ∀ w : World, Calls Tryd.prog 60 #[.string s, .int .i64 pos] w fun e w' => e = .returned (.tuple #[.string t, .int .i64 b]) ∧ Below w.heap.size w w' := fun w => (escaped_any s pos hp hs w).mono fun _ _ ⟨he, hw⟩ => ⟨by
            rw [he]
            unfold escS
            rw [HAB.out, HT.out], hw⟩
          have HESC := hid hesc
          clear q92 hab hesc ht
          have hsz : t.size ≤ 1 := by
            rw [HT.out]
            unfold escT
            split
            · decide
            · exact Nat.le_refl 1
          by_cases b0 : b = 0
          · have hbb : (b == 0) = true := by simp; omega
            have hfin : Hid (G.unqL s.data.toList = none) := hid (by
              have h := HA.out
              rw [G.unqF, if_neg (drop_ne hp), if_neg HQ34.out, if_neg HX.out, if_pos HQ92.out, HAB.out, if_pos b0] at h
              exact h.symm)
            clear b0 f3
            go_wp2_with (first | (go_at_call 33; refine (long_any s pos hp hs _).mono ?_; rintro e w' ⟨rfl, rfl⟩) | (go_at_call 60; refine (HESC.out _).mono ?_))
            rintro e w2 ⟨rfl, hb2⟩
            go_wp2
            go_ret3
            exact ⟨ret_unq hfin.out.symm, HBEL.out.trans (hb2.mono HBEL.out.size)⟩
          · have hbb : (b == 0) = false := by simp; omega
            have HB0' := hid b0
            have b2 : 0 ≤ b := by omega
            have b4 : b ≤ 4 := by omega
            clear b0 f3
            go_wp2_with (first | (go_at_call 33; refine (long_any s pos hp hs _).mono ?_; rintro e w' ⟨rfl, rfl⟩) | (go_at_call 60; refine (HESC.out _).mono ?_))
            rintro e w2 ⟨rfl, hb2⟩
            go_wp2
            go_roundw
            case rel =>
              have h := HA.out
              rw [G.unqF, if_neg (drop_ne hp), if_neg HQ34.out, if_neg HX.out, if_pos HQ92.out, HAB.out, if_neg HB0'.out, List.drop_drop] at h
              have hf3 := HF3.out
              have hl := hlen.out
              obtain ⟨n, rfl⟩ := Int.eq_ofNat_of_zero_le b2
              rcases hf3 with h3 | ⟨h3, h4, h5⟩
              · exact absurd h3 HB0'.out
              refine ⟨pos + n, g, _, rfl, ?_, ?_, ?_, ?_, ?_, HBEL.out.trans (hb2.mono HBEL.out.size)⟩
              · congr 1
              · rw [toList_app, HT.out]
                have : (escT (s.data.toList.drop pos)).data.toList = [a.toNat.toUInt8] := by
                  unfold escT
                  rw [HAB.out, if_neg HB0'.out]
                rw [this]
                exact h
              · omega
              · omega
              · rw [ByteArray.size_append]; omega
            case measure =>
              have hf3 := HF3.out
              simp [intOf]
              have := HB0'.out
              omega
        have hb92 : (((s[pos]'hp).toNat : Int) == 92) = false := by rw [HB.out]; simp; omega
        have HQ92 : Hid (¬ G.at0 (s.data.toList.drop pos) 0 = 92) := hid q92
        clear q92
        go_wp2_with (go_at_call 33; refine (long_any s pos hp hs _).mono ?_; rintro e w' ⟨rfl, rfl⟩)
        go_roundw
        case rel =>
          have h := HA.out
          rw [G.unqF, if_neg (drop_ne hp), if_neg HQ34.out, if_neg HX.out, if_neg HQ92.out, List.drop_drop] at h
          refine ⟨pos + G.longL (s.data.toList.drop pos), g, _, rfl, ?_, ?_, ?_, ?_, ?_, HBEL.out⟩
          · congr 1
          · rw [toList_app, cut_list]; exact h
          · omega
          · omega
          · rw [ByteArray.size_append, ByteArray.size_extract]; omega
        case measure => simp [intOf]; omega
      · go_wp2
        go_ret3
        refine ⟨?_, HBEL.out⟩
        have h := HA.out
        rw [drop_nil hp, G.unqF_nil] at h
        exact ret_unq h
  · have HF : Hid (G.unqL s.data.toList = none) := hid (by
      unfold G.unqL
      rw [if_neg (by rw [← byteAt_at0]; exact hq)])
    have hqq : (((s[0]'h0).toNat : Int) == 34) = false := by rw [HB0.out]; simp; omega
    have hqn : (((s[0]'h0).toNat : Int) != 34) = true := by rw [HB0.out]; simp; omega
    clear hq
    go_enter Tryd.func45, Tryd.ntmps45
    go_wp2
    go_ret3
    exact ⟨ret_unq HF.out.symm, Below.refl _ _⟩

end Go.Proofs.YtfmmhmkaphbmpaaDoor
