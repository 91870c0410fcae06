/-
  The walk of the live question: it is true; the world grows above what was there. Condition: the tables hold what the program's text says.
-/
import Derived.Test.YtfmmhmkaphbmpaaDoorLexL
namespace Go.Proofs.YtfmmhmkaphbmpaaDoor
open Go.RowKit

/-- One step more of a world that grows. -/
theorem up {B : Nat} {w w1 w2 : World} (h : Below B w w1) (h2 : Below w1.heap.size w1 w2) (hB : B ≤ w.heap.size) : Below B w w2 := h.trans (h2.mono (Nat.le_trans hB h.size))

/-- What Tokens tells of a text that has tokens, and of one that has none. -/
def Yes (r : List L.Tok) (w : World) (e : Ending) (w' : World) : Prop :=
  (∃ g cap, e = .returned (.tuple #[.slice (some ⟨g, 0, none⟩) r.length cap, .int .i64 0, .int .i64 0]) ∧ TRow w' g r) ∧ Below w.heap.size w w'
def No (q : Nat) (w : World) (e : Ending) (w' : World) : Prop := e = .returned (.tuple #[.slice none 0 0, .int .i64 q, .int .i64 2]) ∧ Below w.heap.size w w'

theorem toks_yes {x : Except Nat (List L.Tok)} {l : List UInt8} {r : List L.Tok} (h0 : L.toksL l = x) (h : x = .ok r) {w w' : World} {e : Ending} (ht : Toks x w e w') : Yes r w e w' := by
  subst h
  have hne := L.tk_ne (L.all_of h0)
  obtain ⟨⟨v, he, hO⟩, hb⟩ := ht
  obtain ⟨g, cap, hg, hr⟩ := hO.read (List.length_pos_iff.2 hne)
  exact ⟨⟨g, cap, by rw [he, hg], hr⟩, hb⟩
theorem toks_no {x : Except Nat (List L.Tok)} {q : Nat} (h : x = .error q) {w w' : World} {e : Ending} (ht : Toks x w e w') : No q w e w' := by
  subst h
  exact ht

theorem tokens_yes (s : ByteArray) (hs : s.size ≤ 100000) (r : List L.Tok) (h : L.toksL s.data.toList = .ok r) (w : World) (hT : Tab w) : Calls Tryd.prog 11 #[.string s] w (Yes r w) :=
  (tokens_any s hs w hT).mono fun _ _ ht => toks_yes rfl h ht
theorem tokens_no (s : ByteArray) (hs : s.size ≤ 100000) (q : Nat) (h : L.toksL s.data.toList = .error q) (w : World) (hT : Tab w) : Calls Tryd.prog 11 #[.string s] w (No q w) :=
  (tokens_any s hs w hT).mono fun _ _ ht => toks_no h ht
theorem refTokens_yes (s : ByteArray) (hs : s.size ≤ 100000) (r : List L.Tok) (h : L.toksL s.data.toList = .ok r) (w : World) : Calls Tryd.prog 12 #[.string s] w (Yes r w) :=
  (refTokens_any s hs w).mono fun _ _ ht => toks_yes rfl h ht
theorem refTokens_no (s : ByteArray) (hs : s.size ≤ 100000) (q : Nat) (h : L.toksL s.data.toList = .error q) (w : World) : Calls Tryd.prog 12 #[.string s] w (No q w) :=
  (refTokens_any s hs w).mono fun _ _ ht => toks_no h ht

def liveToks : List L.Tok := [⟨1, [120], 0, 1⟩, ⟨5, [45, 62], 1, 3⟩, ⟨3, [49], 3, 4⟩, ⟨0, [], 8, 8⟩]

theorem live1 (w : World) (hT : Tab w) : Calls Tryd.prog 11 #[.string ⟨#[120, 45, 62, 49, 32, 35, 32, 121]⟩] w fun e w' =>
    (∃ g cap, e = .returned (.tuple #[.slice (some ⟨g, 0, none⟩) 4 cap, .int .i64 0, .int .i64 0]) ∧ TRow w' g liveToks) ∧ Below w.heap.size w w' :=
  tokens_yes _ (by decide) liveToks (by rfl) w hT

theorem live2 (w : World) (hT : Tab w) : Calls Tryd.prog 11 #[.string ⟨#[97, 32, 49, 98]⟩] w fun e w' => e = .returned (.tuple #[.slice none 0 0, .int .i64 2, .int .i64 2]) ∧ Below w.heap.size w w' :=
  tokens_no _ (by decide) 2 (by rfl) w hT

theorem live3 (w : World) (hT : Tab w) : Calls Tryd.prog 14 #[.string ⟨#[108, 101, 116]⟩] w fun e w' => e = .returned (.bool true) ∧ w = w' :=
  (isKey_any _ w hT).mono fun _ _ ⟨he, hw⟩ => ⟨he.trans (by rfl), hw⟩

theorem live4 (g cap : Nat) (w : World) (h : TRow w g liveToks) : Calls Tryd.prog 16 #[.slice (some ⟨g, 0, none⟩) 4 cap] w fun e w' => e = .returned (.string ⟨#[120, 32, 45, 62, 32, 49]⟩) ∧ Below w.heap.size w w' := by
  have hR := h.rd (cap := cap) h.1
  refine (join_any _ _ w hR (by decide) (by decide) ?_).mono fun _ _ ⟨he, hw⟩ => ⟨he.trans (by rfl), hw⟩
  intro k
  match k with
  | 0 => decide
  | 1 => decide
  | 2 => decide
  | 3 => decide
  | k + 4 =>
    rw [List.take_of_length_le (by simp [liveToks])]
    decide

set_option maxHeartbeats 1000000 in
set_option maxRecDepth 100000 in
theorem alive_any (w : World) (hT : Tab w) : Calls Tryd.prog 10 #[] w fun e w' => e = .returned (.bool true) ∧ Below w.heap.size w w' := by
  have HT := hid hT
  clear hT
  go_enter Tryd.func10, Tryd.ntmps10
  go_wp2_with fail
  refine (live1 _ HT.out).mono ?_
  rintro e w1 ⟨⟨g, cap, rfl, hr⟩, h1⟩
  have HR := hid hr
  have HT1 := hid (HT.out.grows h1)
  clear hr
  go_wp2_with fail
  refine (live2 _ HT1.out).mono ?_
  rintro e w2 ⟨rfl, h2⟩
  have HR2 := hid (HR.out.below h2)
  have HT2 := hid (HT1.out.grows h2)
  obtain ⟨_, t1, _, _⟩ := HR2.out.2 1 (by decide)
  obtain ⟨t2, _, _, _⟩ := HR2.out.2 2 (by decide)
  obtain ⟨_, _, t3, _⟩ := HR2.out.2 3 (by decide)
  simp only [liveToks, strV] at t1 t2 t3
  go_wp2_with fail
  refine (live3 _ HT2.out).mono ?_
  rintro e w3 ⟨rfl, rfl⟩
  go_wp2_with fail
  refine (live4 _ _ _ HR2.out).mono ?_
  rintro e w4 ⟨rfl, h4⟩
  go_wp2
  go_ret
  have hl := Nat.le_refl w.heap.size
  exact ⟨ret_bool (by rfl), up (up h1 h2 hl) h4 hl⟩

end Go.Proofs.YtfmmhmkaphbmpaaDoor
