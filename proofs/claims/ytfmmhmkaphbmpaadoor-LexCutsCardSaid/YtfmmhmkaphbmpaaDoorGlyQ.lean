/-
  The walk of glyph's Quote: it returns the quoted form as plain lists of bytes tell it; the world grows above what was there. Condition: a string of at most 2000000 bytes.
-/
import Derived.Test.YtfmmhmkaphbmpaaDoorGlyS
import Derived.Test.YtfmmhmkaphbmpaaDoorGlyN
import Derived.BigCall
namespace Go.Proofs.YtfmmhmkaphbmpaaDoor
open Go.RowKit

theorem control_yes (c : Int) (h : c < 32 ∨ c = 127) (w : World) : Calls Tryd.prog 51 #[.int .i32 c] w fun e w' => e = .returned (.bool true) ∧ w = w' :=
  (control_any c w).mono fun _ _ ⟨he, hw⟩ => ⟨he.trans (ret_bool (by simp; omega)), hw⟩
theorem control_no (c : Int) (h : 32 ≤ c) (h2 : c < 127 ∨ 127 < c) (w : World) : Calls Tryd.prog 51 #[.int .i32 c] w fun e w' => e = .returned (.bool false) ∧ w = w' :=
  (control_any c w).mono fun _ _ ⟨he, hw⟩ => ⟨he.trans (ret_bool (by simp; omega)), hw⟩

theorem u8_lt (c : UInt8) : (c.toNat : Int) < 256 := by have := UInt8.toNat_lt c; omega

theorem u8_back (c : UInt8) : ((c.toNat : Int)).toNat.toUInt8 = c := by simp

theorem hex_at (n : Nat) (h : n < 16) : (⟨#[48, 49, 50, 51, 52, 53, 54, 55, 56, 57, 97, 98, 99, 100, 101, 102]⟩ : ByteArray)[n]'h = G.figL n := by
  match n, h with
  | 0, _ => rfl
  | 1, _ => rfl
  | 2, _ => rfl
  | 3, _ => rfl
  | 4, _ => rfl
  | 5, _ => rfl
  | 6, _ => rfl
  | 7, _ => rfl
  | 8, _ => rfl
  | 9, _ => rfl
  | 10, _ => rfl
  | 11, _ => rfl
  | 12, _ => rfl
  | 13, _ => rfl
  | 14, _ => rfl
  | 15, _ => rfl
  | n + 16, h => omega

theorem stray_is (s : ByteArray) (i : Nat) (hi : i < s.size) (hs : s.size ≤ 2000000) (r : Nat) (hr : r = 65533) (hz : G.longL (s.data.toList.drop i) = 0) (w : World) :
    Calls Tryd.prog 52 #[.string s, .int .i64 i, .int .i32 r] w fun e w' => e = .returned (.bool true) ∧ w = w' := by
  subst hr
  exact stray_true s i hi hs hz w

/-- What a round leaves: the relation one rune on. -/
def QRel (s : ByteArray) (B K : Nat) (w wr : World) : Prop :=
  ∃ pos f acc, St s B K pos acc w wr ∧ acc ++ G.quoteF f (s.data.toList.drop pos) = 34 :: G.quoteF s.size s.data.toList ∧ s.size ≤ pos + f ∧ acc.length ≤ 4 * pos + 1 ∧ pos ≤ s.size

theorem QRel.next {s : ByteArray} {B K pos g : Nat} {acc : List UInt8} {w wr : World} (hp : pos < s.size) (h : St s B K (pos + G.wid (s.data.toList.drop pos)) (acc ++ G.pieceL (s.data.toList.drop pos)) w wr)
    (ha : acc ++ G.quoteF (g + 1) (s.data.toList.drop pos) = 34 :: G.quoteF s.size s.data.toList) (hf : s.size ≤ pos + (g + 1)) (hl : acc.length ≤ 4 * pos + 1) : QRel s B K w wr := by
  have hw := G.wid_pos (s.data.toList.drop pos)
  refine ⟨_, g, _, h, ?_, by omega, ?_, ?_⟩
  · rw [← ha, G.quoteF, if_neg (drop_ne hp), List.drop_drop, List.append_assoc]
  · have := G.pieceL_len (s.data.toList.drop pos)
    simp
    omega
  · have h2 := G.wid_le (drop_ne hp)
    have h3 : (s.data.toList.drop pos).length = s.size - pos := by simp
    omega

/-- A round's rune by its first byte: low: it is that byte; odd: U+FFFD, one byte; high: the bytes are its own. -/
def Cl (l : List UInt8) (r : Nat) : Prop :=
  (G.at0 l 0 < 128 ∧ r = G.at0 l 0 ∧ G.longL l = 1 ∧ Lib.encodeRune (r : Int) = l.take 1) ∨ (128 ≤ G.at0 l 0 ∧ r = 65533 ∧ G.longL l = 0) ∨ (128 ≤ G.at0 l 0 ∧ 128 ≤ r ∧ 1 ≤ G.longL l ∧ Lib.encodeRune (r : Int) = l.take (G.longL l) ∧ (G.runeL l).1 = r)

theorem runeL_cl {s : ByteArray} {pos : Nat} (hp : pos < s.size) : ∃ r, G.runeL (s.data.toList.drop pos) = (r, G.wid (s.data.toList.drop pos)) ∧ r ≤ 2147483647 ∧ Cl (s.data.toList.drop pos) r := by
  refine ⟨(G.runeL (s.data.toList.drop pos)).1, ?_, ?_, ?_⟩
  · rw [Prod.ext_iff]; exact ⟨rfl, G.runeL_wid (drop_ne hp)⟩
  · rw [← G.decode_eq]; exact decode_le s pos
  · rcases G.rune_long _ (drop_ne hp) with ⟨h, h2, h3⟩ | ⟨h0, _, _, _, h4, ⟨h1, h2, h3⟩ | ⟨h1, h2, h3⟩⟩
    · exact Or.inr (Or.inl ⟨h3, by rw [h2], h⟩)
    · refine Or.inl ⟨h1, h3, h2, ?_⟩
      rw [h4, h2]
    · exact Or.inr (Or.inr ⟨h1, h3, h0, h4, rfl⟩)

theorem ret_string {a b : List UInt8} (h : a = b) : Ending.returned (.string ⟨a.toArray⟩) = .returned (.string ⟨b.toArray⟩) := by rw [h]

set_option maxHeartbeats 4000000 in
set_option maxRecDepth 1000000 in
theorem quote_any (s : ByteArray) (hs : s.size ≤ 2000000) (w : World) :
    Calls Tryd.prog 29 #[.string s] w fun e w' => e = .returned (.string ⟨(G.quoteL s.data.toList).toArray⟩) ∧ Below w.heap.size w w' := by
  go_enter Tryd.func29, Tryd.ntmps29
  go_wp2_with (go_at_call 27; refine (writeByte w.heap.size w.heap.size [] 34 _ (Lib.IsBuilderF.of (Lib.fresh_isBuilder 47 5 w)) (by simp) (by simp)).mono ?_)
  rintro e w1 ⟨rfl, h1, b1, k1⟩
  go_wp2
  have hB1 : w.heap.size < w1.heap.size := by
    obtain ⟨_, v, hbk, _⟩ := h1
    exact heap_lt hbk
  have hst : St s w.heap.size w1.heap.size 0 [34] w (w1.iter s 0) := by
    refine ⟨Lib.IsBuilderF.alloc (bs := Lib.byteCells [34]) (Or.inr h1) _, World.iter_heap w1 s 0, ?_, hB1⟩
    exact (((Below.refl _ w).alloc (Nat.le_refl _) _).trans b1).alloc (by omega) _
  clear h1 b1 k1
  go_loopw [] (fun wr => QRel s w.heap.size w1.heap.size w wr) (fun wr => s.size - wr.iterPos w1.heap.size)
  case atStart => exact ⟨0, s.size, [34], hst, by simp, by omega, by simp, by omega⟩
  case round =>
    obtain ⟨pos, f, acc, hS, hacc, hf, hal, hps⟩ := hrel
    have HA := hid hacc
    clear hacc
    by_cases hp : pos < s.size
    · obtain ⟨g, rfl⟩ : ∃ g, f = g + 1 := ⟨f - 1, by omega⟩
      obtain ⟨r, hd, hr2, hcl⟩ := runeL_cl hp
      have hnx : ∀ ty, (Instr.next (.pointer (some ⟨w1.heap.size, 0, none⟩)) true ty).run Tryd.prog wr = _ := fun ty => st_next hS hp _ _ hd ty
      have hS2 := hS.step (pos + G.wid (s.data.toList.drop pos))
      clear hd
      have HC := hid hcl
      clear hcl
      by_cases q : G.at0 (s.data.toList.drop pos) 0 = 34 ∨ G.at0 (s.data.toList.drop pos) 0 = 92
      · have hrq : r = G.at0 (s.data.toList.drop pos) 0 := by rcases HC.out with h | h | h <;> omega
        have HP : Hid (G.pieceL (s.data.toList.drop pos) = [92, UInt8.ofNat r]) := hid (by unfold G.pieceL; rw [if_pos (by omega), ← hrq])
        rw [← hrq] at q
        clear hrq
        by_cases e34 : r = 34
        · have hb : ((r : Int) == 34) = true := by simp; omega
          have HE := hid e34
          clear e34 q
          go_wp2_with (go_at_call 27; refine (st_byte hS2 (by omega) 92 (by omega) (by omega)).mono ?_)
          rintro e w2 ⟨rfl, hS3⟩
          go_wp2_with (go_at_call 50; refine (st_rune hS3 (by simp; omega) r hr2).mono ?_)
          rintro e w3 ⟨rfl, hS4⟩
          go_wp2
          go_roundw
          case rel =>
            refine QRel.next (g := g) (acc := acc) hp ?_ HA.out hf hal
            rw [HP.out]
            have e : Lib.encodeRune (r : Int) = [UInt8.ofNat r] := by rw [HE.out]; decide +kernel
            rw [e, List.append_assoc] at hS4
            exact hS4
          case measure =>
            have := G.wid_pos (s.data.toList.drop pos)
            rw [hS4.pos, hS.pos]
            omega
        · have hb : ((r : Int) == 34) = false := by simp; omega
          have hb2 : ((r : Int) == 92) = true := by simp; omega
          have HE : Hid (r = 92) := hid (by omega)
          clear e34 q
          go_wp2_with (go_at_call 27; refine (st_byte hS2 (by omega) 92 (by omega) (by omega)).mono ?_)
          rintro e w2 ⟨rfl, hS3⟩
          go_wp2_with (go_at_call 50; refine (st_rune hS3 (by simp; omega) r hr2).mono ?_)
          rintro e w3 ⟨rfl, hS4⟩
          go_wp2
          go_roundw
          case rel =>
            refine QRel.next (g := g) (acc := acc) hp ?_ HA.out hf hal
            rw [HP.out]
            have e : Lib.encodeRune (r : Int) = [UInt8.ofNat r] := by rw [HE.out]; decide +kernel
            rw [e, List.append_assoc] at hS4
            exact hS4
          case measure =>
            have := G.wid_pos (s.data.toList.drop pos)
            rw [hS4.pos, hS.pos]
            omega
      by_cases q10 : G.at0 (s.data.toList.drop pos) 0 = 10
      · have hrq : r = G.at0 (s.data.toList.drop pos) 0 := by rcases HC.out with h | h | h <;> omega
        have HP : Hid (G.pieceL (s.data.toList.drop pos) = [92, 110]) := hid (by unfold G.pieceL; rw [if_neg (by omega), if_pos (by omega)])
        have hb : ((r : Int) == 34) = false := by simp; omega
        have hb2 : ((r : Int) == 92) = false := by simp; omega
        have hb3 : ((r : Int) == 10) = true := by simp; omega
        clear hrq q10 q
        go_wp2_with (go_at_call 28; refine (st_string hS2 (by omega) _ (by decide)).mono ?_)
        rintro e w2 rfl hS3
        go_wp2
        go_roundw
        case rel => exact QRel.next (g := g) (acc := acc) hp (by rw [HP.out]; exact hS3) HA.out hf hal
        case measure =>
          have := G.wid_pos (s.data.toList.drop pos)
          rw [hS3.pos, hS.pos]
          omega
      by_cases q9 : G.at0 (s.data.toList.drop pos) 0 = 9
      · have hrq : r = G.at0 (s.data.toList.drop pos) 0 := by rcases HC.out with h | h | h <;> omega
        have HP : Hid (G.pieceL (s.data.toList.drop pos) = [92, 116]) := hid (by unfold G.pieceL; rw [if_neg (by omega), if_neg (by omega), if_pos (by omega)])
        have hb : ((r : Int) == 34) = false := by simp; omega
        have hb2 : ((r : Int) == 92) = false := by simp; omega
        have hb3 : ((r : Int) == 10) = false := by simp; omega
        have hb4 : ((r : Int) == 9) = true := by simp; omega
        clear hrq q10 q9 q
        go_wp2_with (go_at_call 28; refine (st_string hS2 (by omega) _ (by decide)).mono ?_)
        rintro e w2 rfl hS3
        go_wp2
        go_roundw
        case rel => exact QRel.next (g := g) (acc := acc) hp (by rw [HP.out]; exact hS3) HA.out hf hal
        case measure =>
          have := G.wid_pos (s.data.toList.drop pos)
          rw [hS3.pos, hS.pos]
          omega
      have hb : ((r : Int) == 34) = false := by simp; rcases HC.out with h | h | h <;> omega
      have hb2 : ((r : Int) == 92) = false := by simp; rcases HC.out with h | h | h <;> omega
      have hb3 : ((r : Int) == 10) = false := by simp; rcases HC.out with h | h | h <;> omega
      have hb4 : ((r : Int) == 9) = false := by simp; rcases HC.out with h | h | h <;> omega
      by_cases qx : G.longL (s.data.toList.drop pos) = 0 ∨ G.at0 (s.data.toList.drop pos) 0 < 32 ∨ G.at0 (s.data.toList.drop pos) 0 = 127
      · have HP : Hid (G.pieceL (s.data.toList.drop pos) = [92, 120, G.figL (G.at0 (s.data.toList.drop pos) 0 / 16), G.figL (G.at0 (s.data.toList.drop pos) 0 % 16)]) := hid (by unfold G.pieceL; rw [if_neg (by omega), if_neg (by omega), if_neg (by omega), if_pos qx])
        have HBY := hid (byteAt_eq s pos hp)
        by_cases qc : r < 32 ∨ r = 127
        · clear q q10 q9 qx
          go_wp2_with (first | (go_at_call 51; refine (control_yes _ (by omega) _).mono ?_; rintro e w' ⟨rfl, rfl⟩) | (go_at_call 28; refine (st_string hS2 (by omega) _ (by decide)).mono ?_))
          rintro e w2 rfl hS3
          have h256 : (s[pos]'hp).toNat < 256 := UInt8.toNat_lt _
          go_wp2_with fail
          refine (st_byte hS3 (by simp; omega) _ (by omega) (u8_lt _)).mono ?_
          rintro e w3 ⟨rfl, hS4⟩
          go_wp2_with fail
          refine (st_byte hS4 (by simp; omega) _ (by omega) (u8_lt _)).mono ?_
          rintro e w4 ⟨rfl, hS5⟩
          go_wp2
          go_roundw
          case rel =>
            refine QRel.next (g := g) (acc := acc) hp ?_ HA.out hf hal
            rw [HP.out]
            rw [hex_at _ (by omega), hex_at _ (by omega), HBY.out, List.append_assoc, List.append_assoc] at hS5
            simp only [u8_back, List.cons_append, List.nil_append] at hS5
            exact hS5
          case measure =>
            have := G.wid_pos (s.data.toList.drop pos)
            rw [hS5.pos, hS.pos]
            omega
        · have hrr : Hid (r = 65533) := hid (by rcases HC.out with h | h | h <;> omega)
          have hlz : Hid (G.longL (s.data.toList.drop pos) = 0) := hid (by rcases HC.out with h | h | h <;> omega)
          have hr5 : 65533 ≤ r := by have := hrr.out; omega
          clear q q10 q9 qx qc
          go_wp2_with (first | (go_at_call 51; refine (control_no _ (by omega) (by omega) _).mono ?_; rintro e w' ⟨rfl, rfl⟩) | (go_at_call 52; refine (stray_is s pos hp hs r hrr.out hlz.out _).mono ?_; rintro e w' ⟨rfl, rfl⟩) | (go_at_call 28; refine (st_string hS2 (by omega) _ (by decide)).mono ?_))
          rintro e w2 rfl hS3
          have h256 : (s[pos]'hp).toNat < 256 := UInt8.toNat_lt _
          go_wp2_with fail
          refine (st_byte hS3 (by simp; omega) _ (by omega) (u8_lt _)).mono ?_
          rintro e w3 ⟨rfl, hS4⟩
          go_wp2_with fail
          refine (st_byte hS4 (by simp; omega) _ (by omega) (u8_lt _)).mono ?_
          rintro e w4 ⟨rfl, hS5⟩
          go_wp2
          go_roundw
          case rel =>
            refine QRel.next (g := g) (acc := acc) hp ?_ HA.out hf hal
            rw [HP.out]
            rw [hex_at _ (by omega), hex_at _ (by omega), HBY.out, List.append_assoc, List.append_assoc] at hS5
            simp only [u8_back, List.cons_append, List.nil_append] at hS5
            exact hS5
          case measure =>
            have := G.wid_pos (s.data.toList.drop pos)
            rw [hS5.pos, hS.pos]
            omega
      · have HP : Hid (G.pieceL (s.data.toList.drop pos) = Lib.encodeRune (r : Int)) := hid (by
          unfold G.pieceL
          rw [if_neg (by omega), if_neg (by omega), if_neg (by omega), if_neg qx]
          rcases HC.out with ⟨_, _, h, h2⟩ | h | h
          · rw [h, h2]
          · omega
          · exact h.2.2.2.1.symm)
        have hlo : 1 ≤ G.longL (s.data.toList.drop pos) := by omega
        have hrr : 32 ≤ r ∧ (r < 127 ∨ 127 < r) := by rcases HC.out with h | h | h <;> omega
        have HRL : Hid ((G.runeL (s.data.toList.drop pos)).1 = r) := hid (by
          rcases HC.out with h | h | h
          · rcases G.rune_long _ (drop_ne hp) with ⟨_, _, h3⟩ | ⟨_, _, _, _, _, ⟨_, _, h3⟩ | ⟨h1, _, _⟩⟩
            · omega
            · rw [h3]; exact h.2.1.symm
            · omega
          · omega
          · exact h.2.2.2.2)
        obtain ⟨hr3, hr4⟩ := hrr
        clear q q10 q9 qx
        go_wp2_with (first | (go_at_call 51; refine (control_no _ (by omega) (by omega) _).mono ?_; rintro e w' ⟨rfl, rfl⟩) | (go_at_call 52; refine (stray_false s pos hp hs r hlo HRL.out _).mono ?_; rintro e w' ⟨rfl, rfl⟩) | (go_at_call 50; refine (st_rune hS2 (by omega) r hr2).mono ?_))
        rintro e w2 ⟨rfl, hS3⟩
        go_wp2
        go_roundw
        case rel => exact QRel.next (g := g) (acc := acc) hp (by rw [HP.out]; exact hS3) HA.out hf hal
        case measure =>
          have := G.wid_pos (s.data.toList.drop pos)
          rw [hS3.pos, hS.pos]
          omega
    · have hnx : ∀ ty, (Instr.next (.pointer (some ⟨w1.heap.size, 0, none⟩)) true ty).run Tryd.prog wr = _ := fun ty => st_end hS hp ty
      go_wp2_with (go_at_call 27; refine (st_byte hS (by omega) 34 (by omega) (by omega)).mono ?_)
      rintro e w2 ⟨rfl, hS2⟩
      go_wp2_with (go_at_call 30; refine (st_text hS2).mono ?_)
      rintro e w3 ⟨rfl, hb⟩
      go_wp2
      go_ret
      refine ⟨ret_string ?_, hb⟩
      have h := HA.out
      rw [drop_nil hp, G.quoteF_nil, List.append_nil] at h
      rw [h]
      simp [G.quoteL]

end Go.Proofs.YtfmmhmkaphbmpaaDoor
