/-
  The walk of the reference's Tokens. Condition: a text of at most 100000 bytes.
-/
import Derived.Test.YtfmmhmkaphbmpaaDoorLexJ
import Derived.Test.YtfmmhmkaphbmpaaDoorLexR
namespace Go.Proofs.YtfmmhmkaphbmpaaDoor
open Go.RowKit

/-- What a round's head holds. -/
def RTok (s : ByteArray) (w : World) (vl va : Value) (wr : World) : Prop :=
  ∃ (p f : Nat) (acc : List L.Tok), va = .int .i64 p ∧ p ≤ s.size ∧ Own w.heap.size vl acc wr ∧ Below w.heap.size w wr ∧
    L.toksF f p acc (s.data.toList.drop p) = L.toksL s.data.toList ∧ s.size + 1 ≤ p + f ∧ acc.length ≤ p

theorem one_any (s : ByteArray) (hs : s.size ≤ 2000000) (p : Nat) (hp : p < s.size) (w : World) :
    Calls Tryd.prog 25 #[.string s, .int .i64 p] w (OneLeft (L.oneL (s.data.toList.drop p)) p w) := by
  by_cases hq : G.at0 (s.data.toList.drop p) 0 = 34
  · exact one_quoted s hs p hp hq w
  · exact one_word s hs p hp hq w

set_option maxHeartbeats 4000000 in
set_option maxRecDepth 100000 in
theorem refTokens_any (s : ByteArray) (hs : s.size ≤ 100000) (w : World) :
    Calls Tryd.prog 12 #[.string s] w (Toks (L.toksL s.data.toList) w) := by
  obtain ⟨i0, hi, hz0, hz1, hz2⟩ := info_parts infoTok
  have hlen : s.data.toList.length = s.size := by simp
  have HK := hid (between_any s (by omega) 0 (by omega))
  have hkle := L.skipL_le false s.data.toList
  have HL := hid hlen
  have h0 : Hid (L.toksF (s.data.toList.length + 1) (L.skipL false s.data.toList) [] (s.data.toList.drop (L.skipL false s.data.toList)) = L.toksL s.data.toList) := hid rfl
  have hd : Hid (0 + L.skipL false (s.data.toList.drop 0) = L.skipL false s.data.toList) := hid (by simp)
  rw [hlen] at hkle
  clear hlen
  go_enter Tryd.func12, Tryd.ntmps12
  go_wp2_with fail
  refine (HK.out _).mono ?_
  rintro e w1 ⟨rfl, rfl⟩
  rw [hd.out]
  go_wp2
  go_loopw [5, 6] (fun vl va wr => RTok s w vl va wr) (fun _ va _ => s.size - (intOf va).toNat)
  case atStart =>
    refine ⟨L.skipL false s.data.toList, s.size + 1, [], rfl, hkle, ?_, (Below.refl _ _).alloc (Nat.le_refl _) _, ?_, by omega, by simp⟩
    · exact World.ownsRow_lit w #[] 0 (Nat.le_refl _) (by decide) rfl
    · rw [← h0.out, HL.out]
  case round =>
    obtain ⟨p, f, acc, rfl, hps, hO, hB, htk, hf, hal⟩ := hrel
    have HTK := hid htk
    clear htk
    by_cases hp : p < s.size
    · have hcall := one_any s (by omega) p hp wr
      obtain ⟨g, rfl⟩ : ∃ g, f = g + 1 := ⟨f - 1, by omega⟩
      have hne : s.data.toList.drop p ≠ [] := drop_ne hp
      obtain ⟨o, ho⟩ : ∃ o, L.oneL (s.data.toList.drop p) = o := ⟨_, rfl⟩
      rw [ho] at hcall
      cases o with
      | none =>
        have HC := hid hcall
        have HV : Hid (L.toksL s.data.toList = .error p) := hid (by rw [← HTK.out, L.toksF, if_neg hne, ho])
        clear hcall ho
        go_wp2_with fail
        refine (HC.out).mono ?_
        rintro e w1 ⟨⟨k1, t1, a1, b1, rfl⟩, h1⟩
        simp only [tokV, strV]
        go_wp2
        go_ret3
        refine ⟨?_, hB.trans ((new_grows h1 _).mono hB.size)⟩
        rw [HV.out]
        exact rfl
      | some x =>
        obtain ⟨k, x, n⟩ := x
        obtain ⟨hk1, hk6, hn1, hnl⟩ := L.oneL_facts ho
        have hnl2 : p + n ≤ s.size := by rw [List.length_drop, HL.out] at hnl; omega
        have hsk := between_any s (by omega) (p + n) hnl2
        have hsl := L.skipL_le false (s.data.toList.drop (p + n))
        rw [List.length_drop, HL.out] at hsl
        have HR : Hid (L.toksF g (p + n + L.skipL false (s.data.toList.drop (p + n))) (acc ++ [⟨k, x, p, p + n⟩]) (s.data.toList.drop (p + n + L.skipL false (s.data.toList.drop (p + n)))) = L.toksL s.data.toList) := hid (by
          rw [← HTK.out, L.toksF, if_neg hne, ho]
          simp only [List.drop_drop])
        have HC : Hid (Calls Tryd.prog 25 #[.string s, .int .i64 p] wr fun e w' => e = .returned (.tuple #[tokV k x p (p + n), .bool true]) ∧ Below wr.heap.size wr w') := hid hcall
        have HSK := hid hsk
        have h1k : 0 < p + n := by omega
        generalize L.skipL false (s.data.toList.drop (p + n)) = j at *
        clear hcall ho hsk hne hnl
        go_wp2_with fail
        refine (HC.out).mono ?_
        rintro e w1 ⟨rfl, h1⟩
        simp only [tokV, strV]
        have hO1 : w1.ownsRow w.heap.size 31 4 u5 acc.length (cellsT acc) := Own.below hO h1
        have hB1 : Below w.heap.size w w1 := hB.trans (h1.mono hB.size)
        clear hO hB h1
        go_wp2_with (at_builtin; refine wpList_append_own _ rfl _ _ 23 rfl w.heap.size 31 i0 (.agg #[.int .i64 0, .string ⟨#[]⟩, .int .i64 0, .int .i64 0]) 4 40 Tryd.underlying23 hi hz0 hz1 hz2 rfl (by decide) _ _ _ rfl (World.ownsRow.alloc (World.ownsRow.alloc hO1 _) _) ⟨w1.heap.size + 1, 0, none⟩ 1 1 [.int .i64 k, .string ⟨x.toArray⟩, .int .i64 p, .int .i64 ((p : Int) + (n : Int))] rfl rfl ?c1 ?c2 ?c3 ?c4 ?c5 ?_)
        case c1 => exact cells_new _ _ _ _
        case c2 => intro u hu; simp at hu; rcases hu with rfl | rfl | rfl | rfl <;> rfl
        case c3 => unfold maxLen; omega
        case c4 => omega
        case c5 => have := hB1.size; simp; omega
        intro v' w2 hown hgrow _
        obtain ⟨hO2, hB2, _, hnew⟩ := push_step (w := w) ⟨k, x, p, p + n⟩ _ _ _ hO1 hB1 (Nat.le_refl _) hown hgrow
        have hc := fun i => Lib.cell_of_heap hnew i
        clear hown hgrow hnew hO1 hB1
        have HK2 := hid (HSK.out w2)
        go_wp2_with fail
        refine (HK2.out).mono ?_
        rintro e w3 ⟨rfl, rfl⟩
        go_wp2
        go_roundw
        case rel => exact ⟨p + n + j, g, acc ++ [⟨k, x, p, p + n⟩], rfl, by omega, hO2, hB2, HR.out, by omega, by simp; omega⟩
        case measure => simp [intOf]; omega
    · obtain rfl : p = s.size := by omega
      obtain ⟨g, rfl⟩ : ∃ g, f = g + 1 := ⟨f - 1, by omega⟩
      have HV : Hid (L.toksL s.data.toList = .ok (acc ++ [⟨0, [], s.size, s.size⟩])) := hid (by rw [← HTK.out, L.toksF, if_pos (List.drop_eq_nil_of_le (by rw [HL.out]; omega))])
      have hO1 : wr.ownsRow w.heap.size 31 4 u5 acc.length (cellsT acc) := hO
      clear hO
      go_wp2_with (at_builtin; refine wpList_append_own _ rfl _ _ 23 rfl w.heap.size 31 i0 (.agg #[.int .i64 0, .string ⟨#[]⟩, .int .i64 0, .int .i64 0]) 4 40 Tryd.underlying23 hi hz0 hz1 hz2 rfl (by decide) _ _ _ rfl (World.ownsRow.alloc hO1 _) ⟨wr.heap.size, 0, none⟩ 1 1 [.int .i64 0, .string ⟨#[]⟩, .int .i64 s.size, .int .i64 s.size] rfl rfl ?c1 ?c2 ?c3 ?c4 ?c5 ?_)
      case c1 => exact cells_one _ _ _
      case c2 => intro u hu; simp at hu; rcases hu with rfl | rfl | rfl <;> rfl
      case c3 => unfold maxLen; omega
      case c4 => omega
      case c5 => have := hB.size; simp; omega
      intro v' w2 hown hgrow _
      obtain ⟨hO2, hB2⟩ := push_last (w := w) ⟨0, [], s.size, s.size⟩ _ hO1 hB (Nat.le_refl _) hown hgrow
      clear hown hgrow hO1 hB
      go_wp2
      go_ret3
      refine ⟨?_, hB2⟩
      rw [HV.out]
      exact ⟨v', rfl, hO2⟩

end Go.Proofs.YtfmmhmkaphbmpaaDoor
