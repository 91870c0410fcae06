/-
  The walk of glyph's Unquote: what plain lists of bytes tell; the world grows above what was there. Condition: a string of at most 2000000 bytes.
-/
import Derived.Test.YtfmmhmkaphbmpaaDoorGlyF
import Derived.Test.YtfmmhmkaphbmpaaDoorGlyO
import Derived.BigCall
namespace Go.Proofs.YtfmmhmkaphbmpaaDoor
open Go.RowKit

/-- What Unquote returns. -/
def unqV (o : Option (List UInt8 × Nat)) : Value :=
  match o with
  | some x => .tuple #[.string ⟨x.1.toArray⟩, .int .i64 x.2, .int .i64 0]
  | none => .tuple #[.string ⟨#[]⟩, .int .i64 0, .int .i64 2]

theorem ext_end (s : ByteArray) (a : Nat) : (s.extract a s.size).data.toList = s.data.toList.drop a := by
  have h : s.extract a s.size = s.extract a (a + (s.size - a)) := by
    apply ByteArray.ext
    simp only [ByteArray.data_extract]
    apply Array.ext'
    simp only [Array.toList_extract, List.extract]
    by_cases hc : a ≤ s.size
    · rw [show a + (s.size - a) = s.size by omega]
    · rw [List.drop_eq_nil_of_le (by simp; omega)]
      simp
  rw [h, cut_list, List.take_of_length_le (by simp)]

theorem prefix_quote (l : List UInt8) : Lib.hasPrefix l [34] = decide (G.at0 l 0 = 34) := by
  cases l with
  | nil => rfl
  | cons c r =>
    show (34 == c && List.isPrefixOf [] r) = decide (c.toNat = 34)
    simp only [List.isPrefixOf, Bool.and_true]
    rw [Bool.eq_iff_iff]
    simp
    constructor
    · intro h; rw [← h]; rfl
    · intro h; exact (UInt8.toNat_inj.1 h).symm

def URel (s : ByteArray) (B K : Nat) (w : World) (v : Value) (wr : World) : Prop :=
  ∃ (pos nx f : Nat) (acc : List UInt8), St s B K pos acc w wr ∧ v = .int .i64 nx ∧ G.unqF f (max pos nx) acc (s.data.toList.drop (max pos nx)) = G.unqL s.data.toList ∧ s.size ≤ max pos nx + f ∧ max pos nx ≤ s.size ∧
    (∀ j, pos ≤ j → j < nx → byteAt s j < 128) ∧ acc.length ≤ 4 * max pos nx

theorem ret_unq {l : List UInt8} {o : Option (List UInt8 × Nat)} (h : o = G.unqL l) : Ending.returned (unqV o) = .returned (unqV (G.unqL l)) := by rw [h]

set_option maxHeartbeats 4000000 in
set_option maxRecDepth 1000000 in
theorem unquote_any (s : ByteArray) (hs : s.size ≤ 2000000) (w : World) :
    Calls Tryd.prog 56 #[.string s] w fun e w' => e = .returned (unqV (G.unqL s.data.toList)) ∧ Below w.heap.size w w' := by
  by_cases hq : G.at0 s.data.toList 0 = 34
  · have hne : Hid (0 < s.size) := hid (by
      rcases Nat.eq_zero_or_pos s.size with h | h
      · have : s.data.toList = [] := List.eq_nil_of_length_eq_zero (by simpa using h)
        rw [this] at hq
        exact absurd hq (by decide)
      · exact h)
    have hpf : ∀ w : World, Calls Tryd.prog 39 #[.string s, .string ⟨#[34]⟩] w fun e w' => e = .returned (.bool true) ∧ w = w' := fun w => (Tryd.strings_HasPrefix _ _ w).mono fun _ _ ⟨he, hw⟩ => ⟨he.trans (ret_bool (by rw [prefix_quote]; exact decide_eq_true hq)), hw.symm⟩
    have HPF := hid hpf
    have HU : Hid (G.unqL s.data.toList = G.unqF s.size 1 [] (s.data.toList.drop 1)) := hid (by unfold G.unqL; rw [if_pos hq]; simp)
    have HQ := hid hq
    clear hpf hq
    go_enter Tryd.func56, Tryd.ntmps56
    go_wp2_with (go_at_call 39; refine (HPF.out _).mono ?_; rintro e w' ⟨rfl, rfl⟩)
    have hst : St s w.heap.size (w.heap.size + 1) 0 [] w ((w.alloc (.cells #[.pointer none, .slice none 0 0] 47)).iter s 0) := by
      refine ⟨(Lib.IsBuilderF.of (Lib.fresh_isBuilder 47 5 w)).alloc _, ?_, ((Below.refl _ w).alloc (Nat.le_refl _) _).alloc (by simp) _, by omega⟩
      have := World.iter_heap (w.alloc (.cells #[.pointer none, .slice none 0 0] 47)) s 0
      simpa using this
    go_loopw [6] (fun v wr => URel s w.heap.size (w.heap.size + 1) w v wr) (fun _ wr => s.size - wr.iterPos (w.heap.size + 1))
    case atStart =>
      refine ⟨0, 1, s.size, [], hst, rfl, HU.out.symm, by omega, by have := hne.out; omega, ?_, by simp⟩
      intro j _ h2
      have : j = 0 := by omega
      subst this
      have := HQ.out
      show G.at0 (s.data.toList.drop 0) 0 < 128
      rw [List.drop_zero, this]
      omega
    case round =>
      obtain ⟨pos, nx, f, acc, hS, rfl, hun, hf, hps, hlow, hal⟩ := hrel
      have HA := hid hun
      have HL := hid hlow
      clear hun hlow
      by_cases hp : pos < s.size
      · obtain ⟨r, hd, hr2, hcl⟩ := runeL_cl hp
        have hnx : ∀ ty, (Instr.next (.pointer (some ⟨w.heap.size + 1, 0, none⟩)) true ty).run Tryd.prog wr = _ := fun ty => st_next hS hp _ _ hd ty
        have hS2 := hS.step (pos + G.wid (s.data.toList.drop pos))
        clear hd
        have HC := hid hcl
        clear hcl
        have HW := hid (G.wid_pos (s.data.toList.drop pos))
        by_cases hlt : pos < nx
        · go_wp2
          go_roundw
          case rel =>
            have hb : G.at0 (s.data.toList.drop pos) 0 < 128 := HL.out pos (Nat.le_refl _) hlt
            have hw1 : G.wid (s.data.toList.drop pos) = 1 := by
              unfold G.wid
              rcases HC.out with h | h | h
              · rw [h.2.2.1]; rfl
              · omega
              · omega
            rw [hw1] at hS2 ⊢
            have e1 : max pos nx = nx := by omega
            have e2 : max (pos + 1) nx = nx := by omega
            have h := HA.out
            rw [e1] at h hf hps hal
            refine ⟨pos + 1, nx, f, acc, hS2, rfl, ?_, ?_, ?_, fun j h1 h2 => HL.out j (by omega) h2, ?_⟩
            · rw [e2]; exact h
            · omega
            · omega
            · rw [e2]; exact hal
          case measure =>
            have := HW.out
            rw [hS2.pos, hS.pos]
            omega
        · have hge : nx ≤ pos := by omega
          clear hlt
          have e0 : max pos nx = pos := by omega
          rw [e0] at hf hps hal
          have HA2 : Hid (G.unqF f pos acc (s.data.toList.drop pos) = G.unqL s.data.toList) := hid (by have h := HA.out; rw [e0] at h; exact h)
          clear HA e0
          obtain ⟨g, rfl⟩ : ∃ g, f = g + 1 := ⟨f - 1, by omega⟩
          have HLEN : Hid ((s.data.toList.drop pos).length = s.size - pos) := hid (by simp)
          by_cases q34 : G.at0 (s.data.toList.drop pos) 0 = 34
          · have hb : ((r : Int) == 34) = true := by simp; rcases HC.out with h | h | h <;> omega
            have HQ := hid q34
            clear q34
            go_wp2_with (go_at_call 30; refine (st_text hS2).mono ?_)
            rintro e w2 ⟨rfl, hb⟩
            go_wp2
            go_ret3
            refine ⟨?_, hb⟩
            have h := HA2.out
            rw [G.unqF, if_neg (drop_ne hp), if_pos HQ.out] at h
            exact ret_unq h
          by_cases q92 : G.at0 (s.data.toList.drop pos) 0 = 92
          · have hb : ((r : Int) == 34) = false := by simp; rcases HC.out with h | h | h <;> omega
            have hb2 : ((r : Int) == 92) = true := by simp; rcases HC.out with h | h | h <;> omega
            have hlz : Hid (¬ (G.longL (s.data.toList.drop pos) = 0 ∨ G.at0 (s.data.toList.drop pos) 0 < 32 ∨ G.at0 (s.data.toList.drop pos) 0 = 127)) := hid (by rcases HC.out with h | h | h <;> omega)
            have hw1 : Hid (G.wid (s.data.toList.drop pos) = 1) := hid (by
              unfold G.wid
              rcases HC.out with h | h | h
              · rw [h.2.2.1]; rfl
              · omega
              · omega)
            have HQ := hid q92
            have HQ34 := hid q34
            obtain ⟨f1, f2, f3⟩ := G.escL_facts (s.data.toList.drop pos) (by omega)
            obtain ⟨a, b, hab⟩ : ∃ a b, G.escL (s.data.toList.drop pos) = (a, b) := ⟨_, _, rfl⟩
            rw [hab] at f1 f2 f3
            simp only at f1 f2 f3
            have HAB := hid hab
            have HF3 := hid f3
            have hun : ∀ w : World, Calls Tryd.prog 64 #[.string (s.extract pos s.size)] w fun e w' => e = .returned (.tuple #[.int .u8 a, .int .i64 b]) ∧ w = w' := fun w => (unescape_any (s.extract pos s.size) (by rw [ByteArray.size_extract]; omega) w).mono fun _ _ ⟨he, hw⟩ => ⟨by
              rw [he]
              unfold escV
              rw [ext_end, HAB.out], hw⟩
            have HUN := hid hun
            clear q34 q92 hab hun
            by_cases b0 : b = 0
            · have hbb : (b == 0) = true := by simp; omega
              have HB0 := hid b0
              clear b0 f3
              go_wp2_with (go_at_call 64; refine (HUN.out _).mono ?_; rintro e w' ⟨rfl, rfl⟩)
              go_ret3
              refine ⟨?_, hS2.below⟩
              have h := HA2.out
              rw [G.unqF, if_neg (drop_ne hp), if_neg HQ34.out, if_neg hlz.out, if_pos HQ.out, HAB.out, if_pos HB0.out] at h
              exact ret_unq h
            · have hbb : (b == 0) = false := by simp; omega
              have HB0 := hid b0
              have b2 : 0 ≤ b := by omega
              have b4 : b ≤ 4 := by omega
              clear b0 f3
              go_wp2_with (first | (go_at_call 64; refine (HUN.out _).mono ?_; rintro e w' ⟨rfl, rfl⟩) | (go_at_call 27; refine (st_byte hS2 (by omega) a (by omega) (by omega)).mono ?_))
              rintro e w2 ⟨rfl, hS3⟩
              go_wp2
              go_roundw
              case rel =>
                have h := HA2.out
                rw [G.unqF, if_neg (drop_ne hp), if_neg HQ34.out, if_neg hlz.out, if_pos HQ.out, HAB.out, if_neg HB0.out, List.drop_drop] at h
                have hf3 := HF3.out
                have hl := HLEN.out
                obtain ⟨n, rfl⟩ := Int.eq_ofNat_of_zero_le b2
                rcases hf3 with h3 | ⟨h3, h4, h5⟩
                · exact absurd h3 HB0.out
                rw [hw1.out] at hS3
                have e1 : max (pos + 1) (pos + n) = pos + n := by omega
                refine ⟨pos + 1, pos + n, g, _, hS3, ?_, ?_, ?_, ?_, ?_, ?_⟩
                · congr 1
                · rw [e1]; exact h
                · omega
                · omega
                · intro j j1 j2
                  have := h5 (j - pos) (by omega)
                  rw [at0_drop, show pos + (j - pos) = j by omega] at this
                  exact this
                · rw [e1]; simp; omega
              case measure =>
                have := HW.out
                rw [hS3.pos, hS.pos]
                omega
          have hb : ((r : Int) == 34) = false := by simp; rcases HC.out with h | h | h <;> omega
          have hb2 : ((r : Int) == 92) = false := by simp; rcases HC.out with h | h | h <;> omega
          have HQ34 := hid q34
          have HQ92 := hid q92
          by_cases qx : G.longL (s.data.toList.drop pos) = 0 ∨ G.at0 (s.data.toList.drop pos) 0 < 32 ∨ G.at0 (s.data.toList.drop pos) 0 = 127
          · have HX := hid qx
            have hfin : G.unqL s.data.toList = none := by
              have h := HA2.out
              rw [G.unqF, if_neg (drop_ne hp), if_neg HQ34.out, if_pos HX.out] at h
              exact h.symm
            have HFIN := hid hfin
            clear hfin
            by_cases qc : r < 32 ∨ r = 127
            · clear q34 q92 qx
              go_wp2_with (go_at_call 51; refine (control_yes _ (by omega) _).mono ?_; rintro e w' ⟨rfl, rfl⟩)
              go_ret3
              refine ⟨?_, hS2.below⟩
              exact ret_unq HFIN.out.symm
            · have hrr : Hid (r = 65533) := hid (by rcases HC.out with h | h | h <;> omega)
              have hlz : Hid (G.longL (s.data.toList.drop pos) = 0) := hid (by rcases HC.out with h | h | h <;> omega)
              have hr5 : 65533 ≤ r := by have := hrr.out; omega
              clear q34 q92 qx qc
              go_wp2_with (first | (go_at_call 51; refine (control_no _ (by omega) (by omega) _).mono ?_; rintro e w' ⟨rfl, rfl⟩) | (go_at_call 52; refine (stray_is s pos hp hs r hrr.out hlz.out _).mono ?_; rintro e w' ⟨rfl, rfl⟩))
              go_ret3
              refine ⟨?_, hS2.below⟩
              exact ret_unq HFIN.out.symm
          · have HX := hid qx
            have hlo : 1 ≤ G.longL (s.data.toList.drop pos) := by omega
            have hrr : 32 ≤ r ∧ (r < 127 ∨ 127 < r) := by rcases HC.out with h | h | h <;> omega
            have HE : Hid (Lib.encodeRune (r : Int) = (s.data.toList.drop pos).take (G.longL (s.data.toList.drop pos))) := hid (by
              rcases HC.out with ⟨_, _, h, h2⟩ | h | h
              · rw [h, h2]
              · omega
              · exact h.2.2.2.1)
            have HRL : Hid ((G.runeL (s.data.toList.drop pos)).1 = r) := hid (by
              rcases HC.out with h | h | h
              · rcases G.rune_long _ (drop_ne hp) with ⟨_, _, h3⟩ | ⟨_, _, _, _, _, ⟨_, _, h3⟩ | ⟨h1, _, _⟩⟩
                · omega
                · rw [h3]; exact h.2.1.symm
                · omega
              · omega
              · exact h.2.2.2.2)
            obtain ⟨hr3, hr4⟩ := hrr
            clear q34 q92 qx
            go_wp2_with (first | (go_at_call 51; refine (control_no _ (by omega) (by omega) _).mono ?_; rintro e w' ⟨rfl, rfl⟩) | (go_at_call 52; refine (stray_false s pos hp hs r hlo HRL.out _).mono ?_; rintro e w' ⟨rfl, rfl⟩) | (go_at_call 50; refine (st_rune hS2 (by omega) r hr2).mono ?_))
            rintro e w2 ⟨rfl, hS3⟩
            go_wp2
            go_roundw
            case rel =>
              have h := HA2.out
              rw [G.unqF, if_neg (drop_ne hp), if_neg HQ34.out, if_neg HX.out, if_neg HQ92.out, List.drop_drop, ← HE.out] at h
              have hwl : G.wid (s.data.toList.drop pos) = G.longL (s.data.toList.drop pos) := by unfold G.wid; omega
              have hwle := G.wid_le (drop_ne hp)
              have hl := HLEN.out
              have h4 := Lib.encodeRuneZ_length (r : Int)
              have h5 : (Lib.encodeRune (r : Int)).length = (G.longL (s.data.toList.drop pos)) := by rw [HE.out]; simp; omega
              rw [hwl] at hS3 hwle
              have e1 : max (pos + G.longL (s.data.toList.drop pos)) nx = pos + G.longL (s.data.toList.drop pos) := by omega
              refine ⟨_, nx, g, _, hS3, rfl, ?_, ?_, ?_, ?_, ?_⟩
              · rw [e1]; exact h
              · omega
              · omega
              · intro j j1 j2; omega
              · rw [e1]; simp only [List.length_append, h5]; omega
            case measure =>
              have := HW.out
              rw [hS3.pos, hS.pos]
              omega
      · have hnx : ∀ ty, (Instr.next (.pointer (some ⟨w.heap.size + 1, 0, none⟩)) true ty).run Tryd.prog wr = _ := fun ty => st_end hS hp ty
        go_wp2
        go_ret3
        refine ⟨?_, hS.below⟩
        have h := HA.out
        rw [drop_nil (by omega), G.unqF_nil] at h
        exact ret_unq h
  · have hpf : ∀ w : World, Calls Tryd.prog 39 #[.string s, .string ⟨#[34]⟩] w fun e w' => e = .returned (.bool false) ∧ w = w' := fun w => (Tryd.strings_HasPrefix _ _ w).mono fun _ _ ⟨he, hw⟩ => ⟨he.trans (ret_bool (by rw [prefix_quote]; exact decide_eq_false hq)), hw.symm⟩
    have HPF := hid hpf
    have HQ := hid hq
    clear hpf hq
    go_enter Tryd.func56, Tryd.ntmps56
    go_wp2_with (go_at_call 39; refine (HPF.out _).mono ?_; rintro e w' ⟨rfl, rfl⟩)
    go_ret3
    refine ⟨?_, Below.refl _ _⟩
    exact ret_unq (o := none) (by unfold G.unqL; rw [if_neg HQ.out])

end Go.Proofs.YtfmmhmkaphbmpaaDoor
