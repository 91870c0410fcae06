/-
  The walk of lex's Tokens. Conditions: the tables hold what the program's text says; a text of at most 100000 bytes.
-/
import Derived.Test.YtfmmhmkaphbmpaaDoorLexO
namespace Go.Proofs.YtfmmhmkaphbmpaaDoor
open Go.RowKit

theorem signsOf_any (s : ByteArray) (w : World) : Calls Tryd.prog 22 #[.string s] w fun e w' => e = .returned (.func (.func 38) #[] #[.pointer (some ⟨w.heap.size, 0, none⟩)]) ∧ w' = w.alloc (.cells #[.string s] 9) := by
  have hmf : ∀ (fn : Fn) (first cap : Array Value) (w : World), (Instr.makeFunc fn first cap).run Tryd.prog w = .ok (.func fn first cap) w := fun _ _ _ _ => rfl
  go_enter Tryd.func22, Tryd.ntmps22
  go_wp2
  go_ret
  exact ⟨rfl, rfl⟩

/-- What Tokens returns. -/
def Toks (r : Except Nat (List L.Tok)) (w : World) (e : Ending) (w' : World) : Prop :=
  (match r with
   | .ok l => ∃ v, e = .returned (.tuple #[v, .int .i64 0, .int .i64 0]) ∧ Own w.heap.size v l w'
   | .error p => e = .returned (.tuple #[.slice none 0 0, .int .i64 p, .int .i64 2])) ∧ Below w.heap.size w w'

/-- What a round's head holds. -/
def TRel (s : ByteArray) (w : World) (vl va : Value) (wr : World) : Prop :=
  ∃ (p f : Nat) (acc : List L.Tok), va = .int .i64 p ∧ p ≤ s.size ∧ Own w.heap.size vl acc wr ∧ Below w.heap.size w wr ∧ wr.heap[w.heap.size]? = some (.cells #[.string s] 9 (0, 0)) ∧
    L.toksF f p acc (s.data.toList.drop p) = L.toksL s.data.toList ∧ s.size + 1 ≤ p + f ∧ acc.length ≤ p

theorem new_grows {w w1 : World} (h : Below w.heap.size w w1) (o : Obj) : Below w.heap.size w (w1.alloc o) := h.alloc h.size _

set_option maxHeartbeats 4000000 in
set_option maxRecDepth 100000 in
theorem tokens_any (s : ByteArray) (hs : s.size ≤ 100000) (w : World) (hT : Tab w) :
    Calls Tryd.prog 11 #[.string s] w (Toks (L.toksL s.data.toList) w) := by
  obtain ⟨i0, hi, hz0, hz1, hz2⟩ := info_parts infoTok
  have hlen : s.data.toList.length = s.size := by simp
  have HK := hid (skip_any s (by omega) 0 (by omega))
  have hkle := L.skipL_le false s.data.toList
  have HT := hid hT
  have HL := hid hlen
  clear hT
  have h0 : Hid (L.toksF (s.data.toList.length + 1) (L.skipL false s.data.toList) [] (s.data.toList.drop (L.skipL false s.data.toList)) = L.toksL s.data.toList) := hid rfl
  have hd : Hid (0 + L.skipL false (s.data.toList.drop 0) = L.skipL false s.data.toList) := hid (by simp)
  rw [hlen] at hkle
  clear hlen
  go_enter Tryd.func11, Tryd.ntmps11
  go_wp2_with fail
  refine (HK.out _).mono ?_
  rintro e w1 ⟨rfl, rfl⟩
  rw [hd.out]
  go_wp2_with fail
  refine (signsOf_any s _).mono ?_
  rintro e w1 ⟨rfl, rfl⟩
  go_wp2
  go_loopw [5, 6] (fun vl va wr => TRel s w vl va wr) (fun _ va _ => s.size - (intOf va).toNat)
  case atStart =>
    refine ⟨L.skipL false s.data.toList, s.size + 1, [], rfl, hkle, Own.nil _ _, (Below.refl _ _).alloc (Nat.le_refl _) _, heap_alloc_new w _, ?_, by omega, by simp⟩
    rw [← h0.out, HL.out]
  case round =>
    obtain ⟨p, f, acc, rfl, hps, hO, hB, hb, htk, hf, hal⟩ := hrel
    have HTK := hid htk
    clear htk
    by_cases hp : p < s.size
    · have hcall := tokenAt_any s (by omega) p hp w.heap.size wr (HT.out.below hB HT.out.size) (heap_lt hb) (Lib.cell_of_heap hb 0)
      obtain ⟨g, rfl⟩ : ∃ g, f = g + 1 := ⟨f - 1, by omega⟩
      have hne : s.data.toList.drop p ≠ [] := drop_ne hp
      obtain ⟨o, ho⟩ : ∃ o, L.oneL (s.data.toList.drop p) = o := ⟨_, rfl⟩
      rw [ho] at hcall
      cases o with
      | none =>
        have HC := hid hcall
        have HV : Hid (L.toksL s.data.toList = .error p) := hid (by rw [← HTK.out, L.toksF, if_neg hne, ho])
        clear hcall ho
        go_wp2_with fail
        refine (HC.out).mono ?_
        rintro e w1 ⟨rfl, h1⟩
        simp only [oneV, tokV, strV]
        go_wp2
        go_ret3
        refine ⟨?_, hB.trans ((new_grows h1 _).mono hB.size)⟩
        rw [HV.out]
        exact rfl
      | some x =>
        obtain ⟨k, x, n⟩ := x
        obtain ⟨hk1, hk6, hn1, hnl⟩ := L.oneL_facts ho
        have hnl2 : p + n ≤ s.size := by rw [List.length_drop, HL.out] at hnl; omega
        have hsk := skip_any s (by omega) (p + n) hnl2
        have hsl := L.skipL_le false (s.data.toList.drop (p + n))
        rw [List.length_drop, HL.out] at hsl
        have HR : Hid (L.toksF g (p + n + L.skipL false (s.data.toList.drop (p + n))) (acc ++ [⟨k, x, p, p + n⟩]) (s.data.toList.drop (p + n + L.skipL false (s.data.toList.drop (p + n)))) = L.toksL s.data.toList) := hid (by
          rw [← HTK.out, L.toksF, if_neg hne, ho]
          simp only [List.drop_drop])
        have HC := hid hcall
        have HSK := hid hsk
        have hk0 : ((k : Int) == 0) = false := by simp; omega
        have hO' : wr.ownsRow w.heap.size 31 4 u5 acc.length (cellsT acc) := hO
        have h1k : 0 < p + n := by omega
        generalize L.skipL false (s.data.toList.drop (p + n)) = j at *
        clear hcall ho hsk hne hnl
        go_wp2_with fail
        refine (HC.out).mono ?_
        rintro e w1 ⟨rfl, h1⟩
        simp only [oneV, tokV, strV]
        have hO1 : w1.ownsRow w.heap.size 31 4 u5 acc.length (cellsT acc) := Own.below hO h1
        have hB1 : Below w.heap.size w w1 := hB.trans (h1.mono hB.size)
        have hb1 : w1.heap[w.heap.size]? = some (.cells #[.string s] 9 (0, 0)) := (h1.block _ (heap_lt hb)).trans hb
        clear hO hB hb h1
        go_wp2_with (at_builtin; refine wpList_append_own _ rfl _ _ 23 rfl w.heap.size 31 i0 (.agg #[.int .i64 0, .string ⟨#[]⟩, .int .i64 0, .int .i64 0]) 4 40 Tryd.underlying23 hi hz0 hz1 hz2 rfl (by decide) _ _ _ rfl (World.ownsRow.alloc (World.ownsRow.alloc hO1 _) _) ⟨w1.heap.size + 1, 0, none⟩ 1 1 [.int .i64 k, .string ⟨x.toArray⟩, .int .i64 p, .int .i64 ((p : Int) + (n : Int))] rfl rfl ?c1 ?c2 ?c3 ?c4 ?c5 ?_)
        case c1 => exact cells_new _ _ _ _
        case c2 => intro u hu; simp at hu; rcases hu with rfl | rfl | rfl | rfl <;> rfl
        case c3 => unfold maxLen; omega
        case c4 => omega
        case c5 => have := hB1.size; simp; omega
        intro v' w2 hown hgrow _
        obtain ⟨hO2, hB2, hkeep, hnew⟩ := push_step (w := w) ⟨k, x, p, p + n⟩ _ _ _ hO1 hB1 (Nat.le_refl _) hown hgrow
        have hb2 : w2.heap[w.heap.size]? = some (.cells #[.string s] 9 (0, 0)) := (hkeep _ (heap_lt hb1) (Own.ne hO1 hb1 (by decide))).trans hb1
        have hc := fun i => Lib.cell_of_heap hnew i
        clear hown hgrow hkeep hnew hO1 hB1 hb1
        have HK2 := hid (HSK.out w2)
        go_wp2_with fail
        refine (HK2.out).mono ?_
        rintro e w3 ⟨rfl, rfl⟩
        go_wp2
        go_roundw
        case rel => exact ⟨p + n + j, g, acc ++ [⟨k, x, p, p + n⟩], rfl, by omega, hO2, hB2, hb2, HR.out, by omega, by simp; omega⟩
        case measure => simp [intOf]; omega
    · obtain rfl : p = s.size := by omega
      obtain ⟨g, rfl⟩ : ∃ g, f = g + 1 := ⟨f - 1, by omega⟩
      have HV : Hid (L.toksL s.data.toList = .ok (acc ++ [⟨0, [], s.size, s.size⟩])) := hid (by rw [← HTK.out, L.toksF, if_pos (List.drop_eq_nil_of_le (by rw [HL.out]; omega))])
      have hO1 : wr.ownsRow w.heap.size 31 4 u5 acc.length (cellsT acc) := hO
      clear hO hb
      go_wp2_with (at_builtin; refine wpList_append_own _ rfl _ _ 23 rfl w.heap.size 31 i0 (.agg #[.int .i64 0, .string ⟨#[]⟩, .int .i64 0, .int .i64 0]) 4 40 Tryd.underlying23 hi hz0 hz1 hz2 rfl (by decide) _ _ _ rfl (World.ownsRow.alloc hO1 _) ⟨wr.heap.size, 0, none⟩ 1 1 [.int .i64 0, .string ⟨#[]⟩, .int .i64 s.size, .int .i64 s.size] rfl rfl ?c1 ?c2 ?c3 ?c4 ?c5 ?_)
      case c1 => exact cells_one _ _ _
      case c2 => intro u hu; simp at hu; rcases hu with rfl | rfl | rfl <;> rfl
      case c3 => unfold maxLen; omega
      case c4 => omega
      case c5 => have := hB.size; simp; omega
      intro v' w2 hown hgrow _
      obtain ⟨hO2, hB2⟩ := push_last (w := w) ⟨0, [], s.size, s.size⟩ _ hO1 hB (Nat.le_refl _) hown hgrow
      clear hown hgrow hO1 hB
      go_wp2
      go_ret3
      refine ⟨?_, hB2⟩
      rw [HV.out]
      exact ⟨v', rfl, hO2⟩

end Go.Proofs.YtfmmhmkaphbmpaaDoor
