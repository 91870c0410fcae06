/-
  The walk of term's hasTwice. Conditions: at most 200 types, none of them empty, labels of at most 100 bytes.
-/
import Derived.Test.YtkkigdbinnfbfaaTmX1
import Derived.Maps.OwnSet
import Derived.Maps.OwnOps
import Derived.OwnWalk
namespace Go.Proofs.Ytkkigdbinnfbfaa.L
open Go
/-- How often a text is there. -/
def cnt (n : ByteArray) (l : List ByteArray) : Nat := l.countP fun x => decide (x = n)
theorem cnt_snoc (n m : ByteArray) (l : List ByteArray) : cnt n (l ++ [m]) = cnt n l + if m = n then 1 else 0 := by
  unfold cnt
  rw [List.countP_append]
  by_cases e : m = n <;> simp [e]
theorem cnt_le (n : ByteArray) (l : List ByteArray) : cnt n l ≤ l.length := List.countP_le_length
theorem cnt_pos (n : ByteArray) (l : List ByteArray) : 0 < cnt n l ↔ n ∈ l := by
  unfold cnt
  rw [List.countP_pos_iff]
  simp
/-- Is a label there twice, ahead of the rest some were seen? -/
def twiceF : List ByteArray → List ByteArray → Bool
  | _, [] => false
  | s, n :: r => (!decide (n = ⟨#[]⟩) && decide (0 < cnt n s)) || twiceF (s ++ [n]) r
/-- The key that a text reads as. -/
def keyS (s : ByteArray) : Lit := .string s.data.toList
theorem keyS_inj {s t : ByteArray} (h : keyS s = keyS t) : s = t := by
  simp only [keyS, Lit.string.injEq] at h
  exact ByteArray.ext (Array.toList_inj.1 h)
/-- D tells how often each label was seen. -/
def CountD (D : DataW Unit) (ns : List ByteArray) : Prop := ∀ s : ByteArray, D.atKey (keyS s) (.lit (.int .i64 0)) = .lit (.int .i64 (cnt s ns : Nat))
theorem countD_nil : CountD (.map []) [] := fun _ => rfl
theorem countD_put {D : DataW Unit} {ns : List ByteArray} (hm : Go.Maps.IsMap D) (h : CountD D ns) (n : ByteArray) : CountD (D.put (keyS n) (.lit (.int .i64 ((cnt n ns : Nat) + 1)))) (ns ++ [n]) := by
  intro s
  rw [cnt_snoc]
  by_cases e : n = s
  · subst e
    rw [Go.Maps.atKey_put_same hm (show WideAt.IsKeyLit (keyS n) from trivial), if_pos rfl]
    rfl
  · rw [Go.Maps.atKey_put_other (fun g => e (keyS_inj g).symm), h s, if_neg e]
    rfl
end Go.Proofs.Ytkkigdbinnfbfaa.L
namespace Go.Proofs.Ytkkigdbinnfbfaa
open Go.RowKit Go.Maps

theorem law_str : Keyed Try.prog 9 := string_keyed Try.underlying9
theorem zero_int (w : World) : (zeroValue 3).run Try.prog w = .ok (.int .i64 0) w := by kernel_rfl
theorem key_of (s : ByteArray) (h : s.size ≤ 100) : keyOf Try.prog 9 (.string s) = some (L.keyS s) := WideMaps.keyOf_string_mk Try.underlying9 (by unfold maxLen; omega)
theorem run_makeHint (n : Int) (w : World) : (Instr.makeMap 87 (some (.int .i64 n))).run Try.prog w = .ok (.map (some w.heap.size)) (w.alloc (.map #[] 0)) := by
  simp [Instr.makeMap, run_underlying Try.underlying87, asInt, asIntOf, Result.andThen]
theorem ownsMap_low {k : TypeId} {R : Value → Option (DataW Unit × List MemPlace)} {w w' : World} {B bm n : Nat} {D : DataW Unit} (h : w.ownsMap Try.prog k R bm n D) (hb : Below B w w') (hlt : bm < B) : w'.ownsMap Try.prog k R bm n D := by
  obtain ⟨es, clock, h1, r⟩ := h
  exact ⟨es, clock, (hb.block bm hlt).trans h1, r⟩

theorem run_field1 (k n : Int) (s : ByteArray) (w : World) : (Instr.field 39 (.agg #[.int .i64 k, .string s, .int .i64 n]) 1).run Try.prog w = .ok (.string s) w := by kernel_rfl
theorem run_field0 (k n : Int) (s : ByteArray) (w : World) : (Instr.field 39 (.agg #[.int .i64 k, .string s, .int .i64 n]) 0).run Try.prog w = .ok (.int .i64 k) w := by kernel_rfl
def nameT (ks : List VT) : List ByteArray := ks.map fun t => (L.hd0 t.2).name

set_option maxHeartbeats 4000000 in
set_option maxRecDepth 100000 in
theorem hasTwice_any (ks : List VT) (h0 : ∀ t ∈ ks, t.2 ≠ []) (hn : ks.length ≤ 200) (hnm : ∀ t ∈ ks, (L.hd0 t.2).name.size ≤ 100) (v : Value) (w : World) (hx : RdR w w.heap.size v ks) :
    Calls Try.prog 36 #[v] w fun e w' => e = .returned (.bool (L.twiceF [] (nameT ks))) ∧ Below w.heap.size w w' := by
  have HX := hid hx
  have HN0 := hid h0
  have HNM := hid hnm
  obtain ⟨⟨A, cap, rfl, hl1, hl2, -⟩, -⟩ := hx
  unfold maxLen at hl2
  have hmm := run_makeHint
  clear h0 hnm
  go_enter Try.func36, Try.ntmps36
  go_wp2
  clear hmm
  go_loopw [12] (fun vi wr => ∃ (k : Nat) (D : DataW Unit), vi = .int .i64 k ∧ k ≤ ks.length ∧ Hid (wr.ownsMap Try.prog 9 (plainElem Try.prog 3) w.heap.size k D) ∧ Hid (L.CountD D (nameT (ks.take k))) ∧ Hid (Below w.heap.size w wr) ∧ Hid (L.twiceF (nameT (ks.take k)) (nameT (ks.drop k)) = L.twiceF [] (nameT ks))) (fun vi _ => ks.length - (intOf vi).toNat)
  case atStart => exact ⟨0, _, rfl, by omega, hid (World.ownsMap_made _ _ _ _), hid L.countD_nil, hid (below_new _), hid rfl⟩
  case round =>
    obtain ⟨k, D, rfl, hk, hO, hD, hB, hT⟩ := hrel
    by_cases hlt : k < ks.length
    · have hkz : (k : Int) < (ks.length : Int) := by omega
      obtain ⟨⟨A', c', hv, -, -, -, hc⟩, hrd⟩ := (HX.out.below (B := w.heap.size) (hB.out))
      simp only [Value.slice.injEq, true_and] at hv
      obtain ⟨rfl, rfl⟩ := hv
      obtain ⟨b, o, rfl, hb, hc⟩ := hc (by rintro rfl; simp at hlt)
      have c0 := hc k hlt
      have hm := List.getElem_mem hlt
      have hne := HN0.out _ hm
      have hts := HNM.out _ hm
      have hR := (hrd _ hm).mono hB.out.size
      have htk : ks.take (k + 1) = ks.take k ++ [ks[k]] := List.take_succ_eq_append_getElem hlt
      have hdk : ks.drop k = ks[k] :: ks.drop (k + 1) := List.drop_eq_getElem_cons hlt
      have HTK := hid htk
      have HT2 := hT.out
      rw [hdk] at HT2
      obtain ⟨t, ht⟩ : ∃ t, t = ks[k] := ⟨_, rfl⟩
      rw [← ht] at c0 hne hts hR HT2 HTK
      obtain ⟨vt, l⟩ := t
      simp only at c0 hne hts hR
      obtain ⟨x, r, rfl⟩ := List.exists_cons_of_ne_nil hne
      obtain ⟨A2, c2, rfl, -⟩ := hR.len
      obtain ⟨q, hq⟩ : ∃ q, q = (x :: r).length := ⟨_, rfl⟩
      have HR := hid hR
      rw [← hq] at c0 HR
      have e1 : nameT ((Value.slice A2 (x :: r).length c2, x :: r) :: ks.drop (k + 1)) = x.name :: nameT (ks.drop (k + 1)) := rfl
      rw [e1] at HT2
      have HT3 := hid HT2
      have e2 : Hid (nameT (ks.take (k + 1)) = nameT (ks.take k) ++ [x.name]) := hid (by rw [HTK.out]; simp [nameT, L.hd0])
      obtain ⟨k1, s1, n1⟩ := x
      simp only [L.hd0, List.headD_cons] at hts
      clear hc hrd hm hne hR htk hdk HT2 ht hq e1 HTK hT
      have hbw := hB.out.size
      have hkey := key_of s1 hts
      have hmax : k < maxLen := by unfold maxLen; omega
      go_wp2_with fail
      refine (head_any ⟨k1, s1, n1⟩ r _ _ HR.out).mono ?_
      rintro e w1 ⟨rfl, h1⟩
      have HB1 := hid (hB.out.trans (h1.mono hbw))
      have own1 := ownsMap_low hO.out h1 hO.out.lt
      have hs1 := HB1.out.size
      clear h1 hO hB c0
      obtain ⟨c, hrun, hat, hwc⟩ := own1.lookup_int law_str Try.underlying87 Try.underlying3 (zero_int w1) hkey
      have hcv : c = (L.cnt s1 (nameT (ks.take k)) : Nat) := by
        have := hD.out s1
        rw [hat] at this
        simpa using this
      have hcle : L.cnt s1 (nameT (ks.take k)) ≤ k := by
        have h1 := L.cnt_le s1 (nameT (ks.take k))
        have h2 : (nameT (ks.take k)).length = k := by simp [nameT]; omega
        omega
      obtain ⟨cn, hcn⟩ : ∃ cn, L.cnt s1 (nameT (ks.take k)) = cn := ⟨_, rfl⟩
      rw [hcn] at hcv hcle
      subst hcv
      have HCN := hid hcn
      have HPUT := hid (L.countD_put own1.isMap hD.out s1)
      rw [hcn] at HPUT
      clear hcn hat hwc hD
      have hfld := run_field1 k1 n1 s1 w1
      have HES := hid (eqS s1 ⟨#[]⟩)
      go_wp2_with (at_mapUpdate; refine wpList_mapUpdate_own _ rfl _ _ _ 87 rfl 9 3 law_str Try.underlying87 _ w.heap.size k D rfl own1 hmax _ _ _ rfl rfl hkey _ [] (plainElem_int Try.underlying3 (WalkArith.wf_i64 (by omega))) ?_)
      intro w2 own2 hg2
      obtain ⟨c', hrun2, hat2, -⟩ := own2.lookup_int law_str Try.underlying87 Try.underlying3 (zero_int w2) hkey
      have hcv2 : c' = (cn : Int) + 1 := by
        have := HPUT.out s1
        rw [hat2] at this
        simp [L.cnt_snoc] at this
        rw [this, HCN.out]
      subst hcv2
      have B2 := hid (HB1.out.grown hg2 hs1 (fun j hj => by cases hj; exact Nat.le_refl _))
      have O2 := hid own2
      clear hrun hfld own1 own2 hg2 hat2
      by_cases hse : s1 = ⟨#[]⟩
      · have HTT : Hid (L.twiceF (nameT (ks.take (k + 1))) (nameT (ks.drop (k + 1))) = L.twiceF [] (nameT ks)) := hid (by
          rw [← HT3.out, L.twiceF, e2.out]
          simp [hse])
        subst hse
        clear HES
        go_wp2_with fail
        go_roundw
        case rel => exact ⟨k + 1, _, by go_num, by omega, O2, hid (by rw [e2.out]; exact HPUT.out), B2, HTT⟩
        case measure => simp [intOf]; omega
      · have es3 : ¬ s1.toList = [] := by
          intro e
          have es2 := HES.out.trans (decide_eq_false hse)
          rw [e, show (⟨#[]⟩ : ByteArray).toList = [] by kernel_rfl] at es2
          simp at es2
        have es4 : (s1.toList == []) = false := by simpa using es3
        have es5 : s1.toList.isEmpty = false := by simpa using es3
        have es6 : (s1.toList != []) = true := by simpa using es3
        by_cases hcn0 : cn = 0
        · have HTT : Hid (L.twiceF (nameT (ks.take (k + 1))) (nameT (ks.drop (k + 1))) = L.twiceF [] (nameT ks)) := hid (by
            rw [← HT3.out, L.twiceF, e2.out, HCN.out, hcn0]
            simp)
          have hcz : ¬ (1 : Int) < (cn : Int) + 1 := by omega
          clear hcn0 hse
          go_wp2_with fail
          go_roundw
          case rel => exact ⟨k + 1, _, by go_num, by omega, O2, hid (by rw [e2.out]; exact HPUT.out), B2, HTT⟩
          case measure => simp [intOf]; omega
        · have HTT : Hid (L.twiceF [] (nameT ks) = true) := hid (by
            rw [← HT3.out, L.twiceF, HCN.out, decide_eq_false hse, decide_eq_true (by omega)]
            rfl)
          have hcz : (1 : Int) < (cn : Int) + 1 := by omega
          clear hcn0 hse
          go_wp2_with fail
          go_ret
          exact ⟨ret_bool (by rw [HTT.out]), B2.out⟩
    · have hkz : ¬ (k : Int) < (ks.length : Int) := by omega
      have hke : k = ks.length := by omega
      have HTT : Hid (L.twiceF [] (nameT ks) = false) := hid (by
        rw [← hT.out, hke, List.drop_length]
        rfl)
      clear hke
      go_wp2_with fail
      go_ret
      exact ⟨ret_bool (by rw [HTT.out]), hB.out⟩
end Go.Proofs.Ytkkigdbinnfbfaa
