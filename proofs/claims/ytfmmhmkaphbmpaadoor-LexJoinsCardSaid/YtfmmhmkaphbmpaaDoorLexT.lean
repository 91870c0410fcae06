/-
  The two tables of lex, as a world holds them, and the walks of IsKey and of the function that signsOf returns. Conditions: the tables hold what the program's text says; a text of at most 2000000 bytes.
-/
import Derived.Test.YtfmmhmkaphbmpaaDoorLexM
import Derived.Test.YtfmmhmkaphbmpaaDoorGlyT
import Derived.Laws.Rows
namespace Go.Proofs.YtfmmhmkaphbmpaaDoor
open Go.RowKit

def strV (g : List UInt8) : Value := .string ⟨g.toArray⟩
def rowV (gs : List (List UInt8)) : Array Value := (gs.map strV).toArray

theorem rowV_size (gs : List (List UInt8)) : (rowV gs).size = gs.length := by simp [rowV]

/-- The two tables stand in the first two blocks. -/
def Tab (w : World) : Prop :=
  (∃ t fr, w.heap[0]? = some (.cells (rowV L.keysL) t fr)) ∧ (∃ t fr, w.heap[1]? = some (.cells (rowV L.signsL) t fr))

theorem Tab.size {w : World} (h : Tab w) : 2 ≤ w.heap.size := by
  obtain ⟨_, _, _, h⟩ := h
  have := (Array.getElem?_eq_some_iff.1 h).1
  omega
theorem Tab.below {B : Nat} {w w' : World} (h : Tab w) (hb : Below B w w') (hB : 2 ≤ B) : Tab w' := by
  obtain ⟨⟨t, fr, h1⟩, u, gr, h2⟩ := h
  exact ⟨⟨t, fr, (hb.block 0 (by omega)).trans h1⟩, u, gr, (hb.block 1 (by omega)).trans h2⟩
theorem Tab.grows {w w' : World} (h : Tab w) (hb : Below w.heap.size w w') : Tab w' := h.below hb h.size

theorem idx_keys (k : Nat) (h : k < 18) (w : World) : (Instr.index 41 (.agg (rowV L.keysL)) (.int .i64 k)).run Tryd.prog w = .ok (strV (L.keysL.getD k [])) w := by
  match k, h with
  | 0, _ => show _ = _; kernel_rfl
  | 1, _ => show _ = _; kernel_rfl
  | 2, _ => show _ = _; kernel_rfl
  | 3, _ => show _ = _; kernel_rfl
  | 4, _ => show _ = _; kernel_rfl
  | 5, _ => show _ = _; kernel_rfl
  | 6, _ => show _ = _; kernel_rfl
  | 7, _ => show _ = _; kernel_rfl
  | 8, _ => show _ = _; kernel_rfl
  | 9, _ => show _ = _; kernel_rfl
  | 10, _ => show _ = _; kernel_rfl
  | 11, _ => show _ = _; kernel_rfl
  | 12, _ => show _ = _; kernel_rfl
  | 13, _ => show _ = _; kernel_rfl
  | 14, _ => show _ = _; kernel_rfl
  | 15, _ => show _ = _; kernel_rfl
  | 16, _ => show _ = _; kernel_rfl
  | 17, _ => show _ = _; kernel_rfl
  | k + 18, h => omega
theorem idx_signs (k : Nat) (h : k < 24) (w : World) : (Instr.index 58 (.agg (rowV L.signsL)) (.int .i64 k)).run Tryd.prog w = .ok (strV (L.signsL.getD k [])) w := by
  match k, h with
  | 0, _ => show _ = _; kernel_rfl
  | 1, _ => show _ = _; kernel_rfl
  | 2, _ => show _ = _; kernel_rfl
  | 3, _ => show _ = _; kernel_rfl
  | 4, _ => show _ = _; kernel_rfl
  | 5, _ => show _ = _; kernel_rfl
  | 6, _ => show _ = _; kernel_rfl
  | 7, _ => show _ = _; kernel_rfl
  | 8, _ => show _ = _; kernel_rfl
  | 9, _ => show _ = _; kernel_rfl
  | 10, _ => show _ = _; kernel_rfl
  | 11, _ => show _ = _; kernel_rfl
  | 12, _ => show _ = _; kernel_rfl
  | 13, _ => show _ = _; kernel_rfl
  | 14, _ => show _ = _; kernel_rfl
  | 15, _ => show _ = _; kernel_rfl
  | 16, _ => show _ = _; kernel_rfl
  | 17, _ => show _ = _; kernel_rfl
  | 18, _ => show _ = _; kernel_rfl
  | 19, _ => show _ = _; kernel_rfl
  | 20, _ => show _ = _; kernel_rfl
  | 21, _ => show _ = _; kernel_rfl
  | 22, _ => show _ = _; kernel_rfl
  | 23, _ => show _ = _; kernel_rfl
  | k + 24, h => omega

theorem bytes_eq (s : ByteArray) (g : List UInt8) : (s.toList == (⟨g.toArray⟩ : ByteArray).toList) = (s.data.toList == g) := by
  rw [Lib.toList_data, Lib.toList_data]

theorem keys_step (l : List UInt8) (k : Nat) (h : k < 18) : (L.keysL.drop k).contains l = ((l == L.keysL.getD k []) || (L.keysL.drop (k + 1)).contains l) := by
  have hl : k < L.keysL.length := h
  rw [List.drop_eq_getElem_cons hl, List.contains_cons, List.getD_eq_getElem?_getD, List.getElem?_eq_getElem hl]
  rfl

set_option maxHeartbeats 1000000 in
set_option maxRecDepth 100000 in
theorem isKey_any (s : ByteArray) (w : World) (hT : Tab w) :
    Calls Tryd.prog 14 #[.string s] w fun e w' => e = .returned (.bool (L.keyL s.data.toList)) ∧ w = w' := by
  obtain ⟨⟨t, fr, hg⟩, _⟩ := hT
  have HG := hid hg
  clear hg
  have HS := hid (rowV_size L.keysL)
  have HK := hid (show L.keyL s.data.toList = (L.keysL.drop 0).contains s.data.toList from rfl)
  have hix := idx_keys
  generalize rowV L.keysL = K at *
  have HX := hid hix
  clear hix
  go_enter Tryd.func14, Tryd.ntmps14
  go_wp2_with (refine wpList_load_row rfl 41 _ rfl 0 rfl t K fr (.array 18 9) HG.out (by kernel_rfl) rfl (by rw [HS.out]; kernel_rfl) ?_)
  go_loop [6] (fun vi => ∃ k : Nat, k ≤ 18 ∧ vi = .int .i64 k ∧ (L.keysL.drop k).contains s.data.toList = L.keyL s.data.toList) (fun vi => 18 - (intOf vi).toNat)
  case atStart => exact ⟨0, by omega, rfl, rfl⟩
  case round =>
    obtain ⟨k, hk, rfl, hrun⟩ := hrel
    have HR := hid hrun
    clear hrun
    by_cases hlt : k < 18
    · have hx := HX.out k hlt
      have HB := hid (bytes_eq s (L.keysL.getD k []))
      unfold strV at hx
      generalize (⟨(L.keysL.getD k []).toArray⟩ : ByteArray) = g at *
      have HST := hid (keys_step s.data.toList k hlt)
      rw [← HB.out] at HST
      go_wp2
      · have ht : (s.toList == g.toList) = true := by assumption
        go_ret
        exact ⟨ret_bool (by rw [← HR.out, HST.out, ht]; rfl), rfl⟩
      · have ht : (s.toList == g.toList) = false := by assumption
        go_round
        case rel => exact ⟨k + 1, by omega, by go_num, by rw [← HR.out, HST.out, ht]; rfl⟩
        case measure => simp [intOf]; omega
    · go_wp2
      go_ret
      obtain rfl : k = 18 := by omega
      exact ⟨ret_bool (by rw [← HR.out]; rfl), rfl⟩

theorem signs_step (l : List UInt8) (k : Nat) (h : k < 24) : L.firstL (L.signsL.drop k) l = if (L.signsL.getD k []).isPrefixOf l then L.signsL.getD k [] else L.firstL (L.signsL.drop (k + 1)) l := by
  have hl : k < L.signsL.length := h
  rw [List.drop_eq_getElem_cons hl, L.firstL, List.getD_eq_getElem?_getD, List.getElem?_eq_getElem hl]
  rfl

set_option maxHeartbeats 1000000 in
set_option maxRecDepth 100000 in
theorem signAt_any (s : ByteArray) (_hs : s.size ≤ 2000000) (at_ : Nat) (hat : at_ ≤ s.size) (b : Nat) (w : World) (hT : Tab w) (hc : w.cell? ⟨b, 0, none⟩ = some (.string s)) :
    Calls Tryd.prog 38 #[.int .i64 at_, .pointer (some ⟨b, 0, none⟩)] w fun e w' => e = .returned (strV (L.signL (s.data.toList.drop at_))) ∧ w = w' := by
  obtain ⟨_, t, fr, hg⟩ := hT
  have HG := hid hg
  clear hg
  have HS := hid (rowV_size L.signsL)
  have HK := hid (show L.signL (s.data.toList.drop at_) = L.firstL (L.signsL.drop 0) (s.data.toList.drop at_) from rfl)
  have hix := idx_signs
  generalize rowV L.signsL = K at *
  have HX := hid hix
  clear hix
  go_enter Tryd.func38, Tryd.ntmps38
  go_wp2_with (refine wpList_load_row rfl 58 _ rfl 1 rfl t K fr (.array 24 9) HG.out (by kernel_rfl) rfl (by rw [HS.out]; kernel_rfl) ?_)
  go_loop [7] (fun vi => ∃ k : Nat, k ≤ 24 ∧ vi = .int .i64 k ∧ L.firstL (L.signsL.drop k) (s.data.toList.drop at_) = L.signL (s.data.toList.drop at_)) (fun vi => 24 - (intOf vi).toNat)
  case atStart => exact ⟨0, by omega, rfl, rfl⟩
  case round =>
    obtain ⟨k, hk, rfl, hrun⟩ := hrel
    have HR := hid hrun
    clear hrun
    by_cases hlt : k < 24
    · have hx := HX.out k hlt
      have HST := hid (signs_step (s.data.toList.drop at_) k hlt)
      have HP : Hid (∀ w, Calls Tryd.prog 39 #[.string (s.extract at_ s.size), .string ⟨(L.signsL.getD k []).toArray⟩] w fun e w' => e = .returned (.bool ((L.signsL.getD k []).isPrefixOf (s.data.toList.drop at_))) ∧ w = w') :=
        hid fun w => (Tryd.strings_HasPrefix _ _ w).mono fun _ _ ⟨he, hw⟩ => ⟨he.trans (ret_bool (by rw [ext_end]; rfl)), hw.symm⟩
      unfold strV at hx
      generalize L.signsL.getD k [] = g at *
      by_cases hp : g.isPrefixOf (s.data.toList.drop at_) = true
      · have HPV := hid hp
        have HP2 : Hid (∀ w, Calls Tryd.prog 39 #[.string (s.extract at_ s.size), .string ⟨g.toArray⟩] w fun e w' => e = .returned (.bool true) ∧ w = w') := hid fun w => (HP.out w).mono fun _ _ ⟨he, hw⟩ => ⟨he.trans (ret_bool hp), hw⟩
        clear hp
        go_wp2_with fail
        refine (HP2.out _).mono ?_
        rintro e w1 ⟨rfl, rfl⟩
        go_wp2
        go_ret
        exact ⟨by rw [← HR.out, HST.out, if_pos HPV.out]; rfl, rfl⟩
      · have HPV := hid hp
        have HP2 : Hid (∀ w, Calls Tryd.prog 39 #[.string (s.extract at_ s.size), .string ⟨g.toArray⟩] w fun e w' => e = .returned (.bool false) ∧ w = w') := hid fun w => (HP.out w).mono fun _ _ ⟨he, hw⟩ => ⟨he.trans (ret_bool ((Bool.not_eq_true _).mp hp)), hw⟩
        clear hp
        go_wp2_with fail
        refine (HP2.out _).mono ?_
        rintro e w1 ⟨rfl, rfl⟩
        go_wp2
        go_round
        case rel => exact ⟨k + 1, by omega, by go_num, by rw [← HR.out, HST.out, if_neg HPV.out]⟩
        case measure => simp [intOf]; omega
    · go_wp2
      go_ret
      obtain rfl : k = 24 := by omega
      exact ⟨by rw [← HR.out]; rfl, rfl⟩

end Go.Proofs.YtfmmhmkaphbmpaaDoor
