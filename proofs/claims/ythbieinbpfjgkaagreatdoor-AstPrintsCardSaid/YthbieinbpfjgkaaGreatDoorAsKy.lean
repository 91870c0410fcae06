/-
  The walks of leavenref02.IsKey, and of leavenlaw05.plain: has an expression no cast, and no name that is a key? Conditions: a slice that reads as parts.
-/
import Derived.Test.YthbieinbpfjgkaaGreatDoorAsPr
import Derived.Test.YthbieinbpfjgkaaGreatDoorMA16
namespace Go.Proofs.YthbieinbpfjgkaaGreatDoor
open Go.RowKit

def strV (g : List UInt8) : Value := .string ⟨g.toArray⟩
def rowV (gs : List (List UInt8)) : Array Value := (gs.map strV).toArray
theorem rowV_get (gs : List (List UInt8)) (k : Nat) (h : k < gs.length) : (rowV gs)[k]? = some (strV (gs.getD k [])) := by
  simp [rowV, List.getD_eq_getElem?_getD, List.getElem?_eq_getElem h]
theorem beq_turn (a b : List UInt8) : (a == b) = (b == a) := by
  by_cases h : a = b
  · rw [h]
  · rw [beq_eq_false_iff_ne.2 h, beq_eq_false_iff_ne.2 (Ne.symm h)]
theorem bytes_eqK (s : ByteArray) (g : List UInt8) : (s.toList == (⟨g.toArray⟩ : ByteArray).toList) = (s.data.toList == g) := by
  rw [eqS, Bool.eq_iff_iff, decide_eq_true_eq, beq_iff_eq]
  constructor
  · intro h; rw [h]
  · intro h; subst h; rfl
theorem keys_step (l : List UInt8) (k : Nat) (h : k < 18) : (E.keysL.drop k).contains l = ((l == E.keysL.getD k []) || (E.keysL.drop (k + 1)).contains l) := by
  have hl : k < E.keysL.length := h
  rw [List.drop_eq_getElem_cons hl, List.contains_cons, List.getD_eq_getElem?_getD, List.getElem?_eq_getElem hl]
  rfl

theorem refKeys_any (w : World) : Calls Tryz.prog 82 #[] w fun e w' => e = .returned (.slice (some ⟨w.heap.size, 0, none⟩) 18 18) ∧ w'.heap[w.heap.size]? = some (.cells (rowV E.keysL) 9 (0, 0)) ∧ Below w.heap.size w w' := by
  go_enter Tryz.func82, Tryz.ntmps82
  go_wp2
  go_ret
  exact ⟨rfl, heap_alloc_new w _, (Below.refl _ _).alloc (Nat.le_refl _) _⟩

set_option maxHeartbeats 1000000 in
set_option maxRecDepth 100000 in
theorem refKey_any (s : ByteArray) (w : World) :
    Calls Tryz.prog 56 #[.string s] w fun e w' => e = .returned (.bool (E.keyL s.data.toList)) ∧ Below w.heap.size w w' := by
  have HK := hid (show E.keyL s.data.toList = (E.keysL.drop 0).contains s.data.toList from rfl)
  have HG : Hid (∀ k, k < 18 → (rowV E.keysL)[k]? = some (strV (E.keysL.getD k []))) := hid fun k h => rowV_get _ k h
  have HC := hid (refKeys_any w)
  generalize rowV E.keysL = K at *
  go_enter Tryz.func56, Tryz.ntmps56
  go_wp2_with fail
  refine (HC.out).mono ?_
  rintro e w1 ⟨rfl, hb, h1⟩
  have HB := hid fun k => Lib.cell_of_heap hb k
  clear hb
  go_wp2
  go_loop [4] (fun vi => ∃ k : Nat, k ≤ 18 ∧ vi = .int .i64 k ∧ (E.keysL.drop k).contains s.data.toList = E.keyL s.data.toList) (fun vi => 18 - (intOf vi).toNat)
  case atStart => exact ⟨0, by omega, rfl, rfl⟩
  case round =>
    obtain ⟨k, hk, rfl, hrun⟩ := hrel
    have HR := hid hrun
    clear hrun
    by_cases hlt : k < 18
    · have hx := (HB.out k).trans (HG.out k hlt)
      have HBE := hid (bytes_eqK s (E.keysL.getD k []))
      have HBC : Hid (((⟨(E.keysL.getD k []).toArray⟩ : ByteArray).toList == s.toList) = (s.toList == (⟨(E.keysL.getD k []).toArray⟩ : ByteArray).toList)) := hid (beq_turn _ _)
      unfold strV at hx
      generalize (⟨(E.keysL.getD k []).toArray⟩ : ByteArray) = g at *
      have HST := hid (keys_step s.data.toList k hlt)
      rw [← HBE.out, ← HBC.out] at HST
      go_wp2
      · have ht : (g.toList == s.toList) = true := by assumption
        go_ret
        exact ⟨ret_bool (by rw [← HR.out, HST.out, ht]; rfl), h1⟩
      · have ht : (g.toList == s.toList) = false := by assumption
        go_round
        case rel => exact ⟨k + 1, by omega, by go_num, by rw [← HR.out, HST.out, ht]; rfl⟩
        case measure => simp [intOf]; omega
    · go_wp2
      go_ret
      obtain rfl : k = 18 := by omega
      exact ⟨ret_bool (by rw [← HR.out]; rfl), h1⟩

set_option maxHeartbeats 4000000 in
set_option maxRecDepth 100000 in
theorem aplain_any (l : List E.Pt) (v : Value) (w : World) (hx : RdP w w.heap.size v l) :
    Calls Tryz.prog 27 #[v] w fun e w' => e = .returned (.bool (l.all E.plainP)) ∧ Below w.heap.size w w' := by
  have HX := hid hx
  obtain ⟨A, cap, rfl, hl1, hl2, -⟩ := hx
  unfold maxLen at hl2
  go_enter Tryz.func27, Tryz.ntmps27
  go_wp2
  go_loopw [3] (fun vi wr => ∃ k : Nat, vi = .int .i64 k ∧ k ≤ l.length ∧ Hid ((l.drop k).all E.plainP = l.all E.plainP) ∧ Hid (Below w.heap.size w wr)) (fun vi _ => l.length - (intOf vi).toNat)
  case atStart => exact ⟨0, rfl, by omega, hid rfl, hid (Below.refl _ _)⟩
  case round =>
    obtain ⟨k, rfl, hk, hE, BW⟩ := hrel
    by_cases hlt : k < l.length
    · obtain ⟨b', o', vt, vu, hA, hb', x0, x1, x2, x3, x4, x5, x6, x7, -, -⟩ := HX.out.at BW.out hlt
      subst hA
      have hil : (k : Int) < (l.length : Int) := by omega
      have HST : Hid ((E.plainP l[k] && (l.drop (k + 1)).all E.plainP) = l.all E.plainP) := hid (by rw [← hE.out, List.drop_eq_getElem_cons hlt, List.all_cons])
      obtain ⟨P, hPe⟩ : ∃ P, l[k] = P := ⟨_, rfl⟩
      rw [hPe] at x0 x2 HST
      obtain ⟨k1, s1, s2, s3, n1, n2, t1, t2⟩ := P

      clear x1 x3 x4 x5 x6 x7 hPe hE
      by_cases h14 : k1 = 14
      · have e14 : (k1 == 14) = true := by simpa using h14
        have HV : Hid (l.all E.plainP = false) := hid (by rw [← HST.out]; simp [E.plainP, h14])
        clear h14
        go_wp2
        go_ret
        exact ⟨ret_bool (by rw [HV.out]), BW.out⟩
      have e14 : (k1 == 14) = false := by simpa using h14
      by_cases h1 : k1 = 1
      · have e1 : (k1 == 1) = true := by simpa using h1
        have HC := hid (refKey_any s2 wr)
        cases hkey : E.keyL s2.data.toList with
        | true =>
          have HV : Hid (l.all E.plainP = false) := hid (by rw [← HST.out]; simp [E.plainP, h1, hkey])
          rw [hkey] at HC
          clear h14 h1 hkey
          go_wp2_with fail
          refine (HC.out).mono ?_
          rintro e w2 ⟨rfl, h2⟩
          go_wp2
          go_ret
          exact ⟨ret_bool (by rw [HV.out]), BW.out.trans (h2.mono BW.out.size)⟩
        | false =>
          have HV : Hid ((l.drop (k + 1)).all E.plainP = l.all E.plainP) := hid (by rw [← HST.out]; simp [E.plainP, h1, hkey])
          rw [hkey] at HC
          clear h14 h1 hkey
          go_wp2_with fail
          refine (HC.out).mono ?_
          rintro e w2 ⟨rfl, h2⟩
          have B2 := hid (BW.out.trans (h2.mono BW.out.size))
          go_wp2
          go_roundw
          case rel => exact ⟨k + 1, by go_num, by omega, HV, B2⟩
          case measure => simp [intOf]; omega
      · have e1 : (k1 == 1) = false := by simpa using h1
        have HV : Hid ((l.drop (k + 1)).all E.plainP = l.all E.plainP) := hid (by rw [← HST.out]; simp [E.plainP, h1, h14])
        clear h14 h1
        go_wp2
        go_roundw
        case rel => exact ⟨k + 1, by go_num, by omega, HV, BW⟩
        case measure => simp [intOf]; omega
    · obtain rfl : k = l.length := by omega
      have hil : ¬ (l.length : Int) < (l.length : Int) := by omega
      have HV : Hid (l.all E.plainP = true) := hid (by rw [← hE.out, List.drop_length]; rfl)
      clear hlt
      go_wp2
      go_ret
      exact ⟨ret_bool (by rw [HV.out]), BW.out⟩

end Go.Proofs.YthbieinbpfjgkaaGreatDoor
