/-
  The walks of lex's isNumber, kindOf and quotedAt. Conditions: the tables hold what the program's text says; a text of at most 2000000 bytes.
-/
import Derived.Test.YtfmmhmkaphbmpaaDoorLexT
import Derived.Test.YtfmmhmkaphbmpaaDoorLexW
import Derived.BigCall
namespace Go.Proofs.YtfmmhmkaphbmpaaDoor
open Go.RowKit

theorem allB_L (s : ByteArray) (f i : Nat) (h : s.size ≤ i + f) : allB f s i = (s.data.toList.drop i).all L.goesB := by
  induction f generalizing i with
  | zero =>
    rw [List.drop_eq_nil_of_le (by simp; omega)]
    rfl
  | succ f ih =>
    by_cases hi : i < s.size
    · have hl : i < s.data.toList.length := by simpa using hi
      rw [allB, if_pos hi, ih (i + 1) (by omega), List.drop_eq_getElem_cons hl, List.all_cons]
      rw [← byteAt_eq s i hi]
      rfl
    · rw [allB, if_neg hi, List.drop_eq_nil_of_le (by simp; omega)]
      rfl

theorem nameB_L (lo hi : Int) (s : ByteArray) : nameB lo hi s = L.nameL lo hi s.data.toList := by
  unfold nameB
  rw [allB_L s s.size 1 (by omega)]
  by_cases h : 0 < s.size
  · have hl : 0 < s.data.toList.length := by simpa using h
    rw [← byteAt_eq s 0 h]
    obtain ⟨c, r, hc⟩ : ∃ c r, s.data.toList = c :: r := by
      cases hh : s.data.toList with
      | nil => rw [hh] at hl; simp at hl
      | cons c r => exact ⟨c, r, rfl⟩
    have h0 : s[0]'h = c := by
      have : s.data.toList[0]'hl = c := by simp [hc]
      exact this
    rw [hc, h0]
    simp [L.nameL, h]
  · have h2 : s.data.toList.length = s.size := by simp
    have hl : s.data.toList = [] := List.eq_nil_of_length_eq_zero (by omega)
    rw [hl]
    simp [L.nameL, h]

/-- A new block of cells, in a world that has grown since: it reads as it was made, and nothing of it is frozen. -/
theorem new_cells {w w1 : World} {cs : Array Value} {t : TypeId} (h : Below (w.alloc (.cells cs t)).heap.size (w.alloc (.cells cs t)) w1) :
    (∀ i, w1.cell? ⟨w.heap.size, i, none⟩ = cs[i]?) ∧ (∀ i, w1.frozen? ⟨w.heap.size, i, none⟩ = false) ∧ w.heap.size < w1.heap.size := by
  have hb : w1.heap[w.heap.size]? = some (.cells cs t (0, 0)) := (h.block w.heap.size (by simp)).trans (heap_alloc_new w _)
  have hz := h.size
  simp at hz
  exact ⟨fun i => Lib.cell_of_heap hb i, fun i => Lib.frozen_of_heap hb i, by omega⟩

set_option maxHeartbeats 1000000 in
set_option maxRecDepth 100000 in
theorem isNumber_any (s : ByteArray) (hs : s.size ≤ 2000000) (w : World) :
    Calls Tryd.prog 59 #[.string s] w fun e w' => e = .returned (.bool (L.numL s.data.toList)) ∧ w = w' := by
  have hlen : s.data.toList.length = s.size := by simp
  have hv : L.numL s.data.toList = (decide (0 < s.size) && (decide (s.size ≤ 18) && decide (L.runL L.digB s.data.toList = s.size))) := by unfold L.numL; rw [hlen]
  have HE := hid (endOf_dig s hs 0 (by omega))
  have HV := hid hv
  clear hv hlen
  by_cases h0 : 0 < s.size
  · by_cases h18 : s.size ≤ 18
    · have HD := hid (show L.runL L.digB (s.data.toList.drop 0) = L.runL L.digB s.data.toList by rw [List.drop_zero])
      have hd0 : decide (0 < s.size) = true := decide_eq_true h0
      have hd1 : decide (s.size ≤ 18) = true := decide_eq_true h18
      go_enter Tryd.func59, Tryd.ntmps59
      go_wp2_with fail
      refine (HE.out _).mono ?_
      rintro e w1 ⟨rfl, rfl⟩
      go_wp2
      go_ret
      refine ⟨ret_bool ?_, rfl⟩
      rw [HV.out, hd0, hd1, Bool.eq_iff_iff]
      simp
      omega
    · have hd1 : decide (s.size ≤ 18) = false := decide_eq_false h18
      go_enter Tryd.func59, Tryd.ntmps59
      go_wp2
      go_ret
      exact ⟨ret_bool (by rw [HV.out]; simp [h18]), rfl⟩
  · have hd0 : decide (0 < s.size) = false := decide_eq_false h0
    go_enter Tryd.func59, Tryd.ntmps59
    go_wp2
    go_ret
    exact ⟨ret_bool (by rw [HV.out]; simp [h0]), rfl⟩

set_option maxHeartbeats 1000000 in
set_option maxRecDepth 100000 in
theorem kindOf_any (s : ByteArray) (hs : s.size ≤ 2000000) (w : World) (hT : Tab w) :
    Calls Tryd.prog 44 #[.string s] w fun e w' => e = .returned (.int .i64 (L.kindL s.data.toList : Nat)) ∧ Below w.heap.size w w' := by
  obtain ⟨bk, hk⟩ : ∃ b, L.keyL s.data.toList = b := ⟨_, rfl⟩
  obtain ⟨bw, hw⟩ : ∃ b, L.nameL 97 122 s.data.toList = b := ⟨_, rfl⟩
  obtain ⟨bt, ht⟩ : ∃ b, L.nameL 65 90 s.data.toList = b := ⟨_, rfl⟩
  obtain ⟨bn, hn⟩ : ∃ b, L.numL s.data.toList = b := ⟨_, rfl⟩
  have HK : Hid (∀ w, Tab w → Calls Tryd.prog 14 #[.string s] w fun e w' => e = .returned (.bool bk) ∧ w = w') := hid fun w hT => (isKey_any s w hT).mono fun _ _ ⟨he, hx⟩ => ⟨he.trans (ret_bool hk), hx⟩
  have HW : Hid (∀ w, Calls Tryd.prog 57 #[.string s] w fun e w' => e = .returned (.bool bw) ∧ Below w.heap.size w w') := hid fun w => (isWord_any s hs w).mono fun _ _ ⟨he, hx⟩ => ⟨he.trans (ret_bool (by rw [nameB_L, hw])), hx⟩
  have HG : Hid (∀ w, Calls Tryd.prog 58 #[.string s] w fun e w' => e = .returned (.bool bt) ∧ Below w.heap.size w w') := hid fun w => (isTag_any s hs w).mono fun _ _ ⟨he, hx⟩ => ⟨he.trans (ret_bool (by rw [nameB_L, ht])), hx⟩
  have HN : Hid (∀ w, Calls Tryd.prog 59 #[.string s] w fun e w' => e = .returned (.bool bn) ∧ w = w') := hid fun w => (isNumber_any s hs w).mono fun _ _ ⟨he, hx⟩ => ⟨he.trans (ret_bool hn), hx⟩
  have HV := hid (show L.kindL s.data.toList = if bk then 6 else if bw then 1 else if bt then 2 else if bn then 3 else 0 by unfold L.kindL; rw [hk, hw, ht, hn])
  clear hk hw ht hn
  have HT := hid hT
  clear hT
  cases bk
  · cases bw
    · cases bt
      · cases bn
        all_goals
          go_enter Tryd.func44, Tryd.ntmps44
          go_wp2_with fail
          refine (HK.out _ HT.out).mono ?_
          rintro e w1 ⟨rfl, rfl⟩
          go_wp2_with fail
          refine (HW.out _).mono ?_
          rintro e w1 ⟨rfl, h1⟩
          go_wp2_with fail
          refine (HG.out _).mono ?_
          rintro e w2 ⟨rfl, h2⟩
          go_wp2_with fail
          refine (HN.out _).mono ?_
          rintro e w3 ⟨rfl, rfl⟩
          go_wp2
          go_ret
          exact ⟨ret_int (by rw [HV.out]; rfl), h1.trans (h2.mono h1.size)⟩
      · go_enter Tryd.func44, Tryd.ntmps44
        go_wp2_with fail
        refine (HK.out _ HT.out).mono ?_
        rintro e w1 ⟨rfl, rfl⟩
        go_wp2_with fail
        refine (HW.out _).mono ?_
        rintro e w1 ⟨rfl, h1⟩
        go_wp2_with fail
        refine (HG.out _).mono ?_
        rintro e w2 ⟨rfl, h2⟩
        go_wp2
        go_ret
        exact ⟨ret_int (by rw [HV.out]; rfl), h1.trans (h2.mono h1.size)⟩
    · go_enter Tryd.func44, Tryd.ntmps44
      go_wp2_with fail
      refine (HK.out _ HT.out).mono ?_
      rintro e w1 ⟨rfl, rfl⟩
      go_wp2_with fail
      refine (HW.out _).mono ?_
      rintro e w1 ⟨rfl, h1⟩
      go_wp2
      go_ret
      exact ⟨ret_int (by rw [HV.out]; rfl), h1⟩
  · go_enter Tryd.func44, Tryd.ntmps44
    go_wp2_with fail
    refine (HK.out _ HT.out).mono ?_
    rintro e w1 ⟨rfl, rfl⟩
    go_wp2
    go_ret
    exact ⟨ret_int (by rw [HV.out]; rfl), Below.refl _ _⟩

theorem new_below {w w1 : World} {o : Obj} (h : Below (w.alloc o).heap.size (w.alloc o) w1) : Below w.heap.size w w1 :=
  ((Below.refl _ _).alloc (Nat.le_refl _) _).trans (h.mono (by simp))
theorem below4 {w w1 : World} (h : Below w.heap.size w w1) (a b c d : Value) :
    Below w.heap.size w ((((w1.setCell ⟨w.heap.size, 0, none⟩ a).setCell ⟨w.heap.size, 1, none⟩ b).setCell ⟨w.heap.size, 2, none⟩ c).setCell ⟨w.heap.size, 3, none⟩ d) :=
  (((h.setCell (p := ⟨w.heap.size, 0, none⟩) (Nat.le_refl _) _).setCell (p := ⟨w.heap.size, 1, none⟩) (Nat.le_refl _) _).setCell (p := ⟨w.heap.size, 2, none⟩) (Nat.le_refl _) _).setCell (p := ⟨w.heap.size, 3, none⟩) (Nat.le_refl _) _

/-- A token as a value. -/
def tokV (k : Nat) (x : List UInt8) (a b : Nat) : Value := .agg #[.int .i64 k, strV x, .int .i64 a, .int .i64 b]
def quoV (o : Option (List UInt8 × Nat)) (p : Nat) : Value := match o with | some x => tokV 4 x.1 p (p + x.2) | none => tokV 0 [] 0 0

set_option maxHeartbeats 1000000 in
set_option maxRecDepth 100000 in
theorem quotedAt_any (s : ByteArray) (hs : s.size ≤ 2000000) (p : Nat) (hp : p ≤ s.size) (w : World) :
    Calls Tryd.prog 40 #[.string s, .int .i64 p] w fun e w' => e = .returned (quoV (G.unqL (s.data.toList.drop p)) p) ∧ Below w.heap.size w w' := by
  have hu : ∀ w, Calls Tryd.prog 56 #[.string (s.extract p s.size)] w fun e w' => e = .returned (unqV (G.unqL (s.data.toList.drop p))) ∧ Below w.heap.size w w' :=
    fun w => (unquote_any _ (by simp; omega) w).mono fun _ _ ⟨he, hx⟩ => ⟨by rw [he, ext_end], hx⟩
  have hn : ∀ x, G.unqL (s.data.toList.drop p) = some x → x.2 ≤ 2000000 := fun x hx => by
    have h1 := L.unqL_le hx
    have h2 : (s.data.toList.drop p).length = s.size - p := by simp
    omega
  generalize G.unqL (s.data.toList.drop p) = o at *
  cases o with
  | none =>
    have HU : Hid (∀ w, Calls Tryd.prog 56 #[.string (s.extract p s.size)] w fun e w' => e = .returned (.tuple #[.string ⟨#[]⟩, .int .i64 0, .int .i64 2]) ∧ Below w.heap.size w w') := hid hu
    clear hu hn
    go_enter Tryd.func40, Tryd.ntmps40
    go_wp2_with fail
    refine (HU.out _).mono ?_
    rintro e w1 ⟨rfl, h1⟩
    obtain ⟨hc, hf, hz⟩ := new_cells h1
    go_wp2
    exact bodyPost_ret (v := .agg #[.int .i64 0, .string ⟨#[]⟩, .int .i64 0, .int .i64 0]) (by simp [results, Tryd.results40, hc, go_sem]) rfl ⟨rfl, below4 (new_below h1) _ _ _ _⟩
  | some x =>
    have h4 := hn x rfl
    have HU : Hid (∀ w, Calls Tryd.prog 56 #[.string (s.extract p s.size)] w fun e w' => e = .returned (.tuple #[.string ⟨x.1.toArray⟩, .int .i64 x.2, .int .i64 0]) ∧ Below w.heap.size w w') := hid hu
    clear hu hn
    obtain ⟨x1, x2⟩ := x
    simp only at h4
    go_enter Tryd.func40, Tryd.ntmps40
    go_wp2_with fail
    refine (HU.out _).mono ?_
    rintro e w1 ⟨rfl, h1⟩
    obtain ⟨hc, hf, hz⟩ := new_cells h1
    go_wp2
    exact bodyPost_ret (v := .agg #[.int .i64 4, .string ⟨x1.toArray⟩, .int .i64 p, .int .i64 ((p : Int) + (x2 : Int))]) (by simp [results, Tryd.results40, hc, go_sem]) rfl ⟨rfl, below4 (new_below h1) _ _ _ _⟩

end Go.Proofs.YtfmmhmkaphbmpaaDoor
