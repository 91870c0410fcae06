/-
  The walk of what term's rowErrno asks at each node. Conditions: at most 100 children, none of them empty, labels of at most 100 bytes.
-/
import Derived.Test.YtkkigdbinnfbfaaTmE2
import Derived.Deep.CutRange
namespace Go.Proofs.Ytkkigdbinnfbfaa.L
open Go
end Go.Proofs.Ytkkigdbinnfbfaa.L
namespace Go.Proofs.Ytkkigdbinnfbfaa
open Go.RowKit

/-- The boxes of rowErrno, from block C on: n, u, more, the three that are told, look. -/
structure EK (C : Nat) (n : Int) (vu : Value) (u : List L.Nd) (vm : Value) (more : List VT) (s : Bool × Bool × Bool) (w : World) : Prop where
  bn : w.heap[C]? = some (.cells #[.int .i64 n] 3 (0, 0))
  bu : w.heap[C + 1]? = some (.cells #[vu] 23 (0, 0))
  bm : w.heap[C + 2]? = some (.cells #[vm] 27 (0, 0))
  bo : BoxB w (C + 3) s.1
  bt : BoxB w (C + 4) s.2.1
  bl : BoxB w (C + 5) s.2.2
  bk : w.heap[C + 6]? = some (.cells #[.func (.func 35) #[] #[.pointer (some ⟨C + 4, 0, none⟩), .pointer (some ⟨C + 5, 0, none⟩)]] 61 (0, 0))
  ru : Rd w C vu u
  rm : RdR w C vm more
theorem EK.fr {C : Nat} {n : Int} {vu vm : Value} {u : List L.Nd} {more : List VT} {s s' : Bool × Bool × Bool} {P : Nat → Prop} {w w' : World} (h : EK C n vu u vm more s w) (hf : Fr P w w') (hp : ∀ i, P i → i = C + 3 ∨ i = C + 4 ∨ i = C + 5 ∨ C + 7 ≤ i) (ho : BoxB w' (C + 3) s'.1) (ht : BoxB w' (C + 4) s'.2.1) (hl : BoxB w' (C + 5) s'.2.2) : EK C n vu u vm more s' w' :=
  ⟨hf.heap h.bn (fun g => by have := hp _ g; omega), hf.heap h.bu (fun g => by have := hp _ g; omega), hf.heap h.bm (fun g => by have := hp _ g; omega), ho, ht, hl, hf.heap h.bk (fun g => by have := hp _ g; omega),
    h.ru.fr hf (fun b hb g => by have := hp _ g; have := Blk.lt h.ru hb; omega), h.rm.fr (hf.mono fun i _ g => by have := hp _ g; omega)⟩
theorem EK.keep {C : Nat} {n : Int} {vu vm : Value} {u : List L.Nd} {more : List VT} {s : Bool × Bool × Bool} {P : Nat → Prop} {w w' : World} (h : EK C n vu u vm more s w) (hf : Fr P w w') (hp : ∀ i, P i → C + 7 ≤ i) : EK C n vu u vm more s w' :=
  h.fr hf (fun i g => by have := hp _ g; omega) (h.bo.fr hf fun g => by have := hp _ g; omega) (h.bt.fr hf fun g => by have := hp _ g; omega) (h.bl.fr hf fun g => by have := hp _ g; omega)
theorem EK.below {C : Nat} {n : Int} {vu vm : Value} {u : List L.Nd} {more : List VT} {s : Bool × Bool × Bool} {w w' : World} (h : EK C n vu u vm more s w) (hb : Below w.heap.size w w') : EK C n vu u vm more s w' := h.keep (Fr.of_below (P := fun _ => False) hb) (fun _ g => g.elim)
theorem EK.size {C : Nat} {n : Int} {vu vm : Value} {u : List L.Nd} {more : List VT} {s : Bool × Bool × Bool} {w : World} (h : EK C n vu u vm more s w) : C + 7 ≤ w.heap.size := heap_lt h.bk

/-- Behind the first question. -/
def Q1 (C : Nat) (n : Int) (vu : Value) (u : List L.Nd) (vm : Value) (more : List VT) (s : Bool × Bool × Bool) (x : L.Nd) (w w' : World) : Prop :=
  EK C n vu u vm more s w' ∧ w'.heap[w.heap.size]? = some (.cells #[.int .i64 x.kind, .string x.name, .int .i64 x.n] 39 (0, 0)) ∧ Fr (fun i => i = C + 3) w w'

theorem enter_look (args : Array Value) (W : World) : (callFunc 35 args).run Try.prog W = .ok (.enter 35 args) W := by kernel_rfl
theorem mergeT_mem : ∀ {a b : List VT} {t : VT}, t ∈ mergeT a b ↔ t ∈ a ∨ t ∈ b
  | [], b, t => by simp [mergeT]
  | x :: a, [], t => by simp [mergeT]
  | x :: a, y :: b, t => by
    rw [mergeT]
    split
    · rw [List.mem_cons, mergeT_mem]
      simp only [List.mem_cons]
      exact ⟨by rintro (h | (h | h) | h) <;> simp [h], by rintro ((h | h) | (h | h)) <;> simp [h]⟩
    · rw [List.mem_cons, mergeT_mem]
      simp only [List.mem_cons]
      exact ⟨by rintro (h | h | (h | h)) <;> simp [h], by rintro ((h | h) | (h | h)) <;> simp [h]⟩
termination_by a b => a.length + b.length
theorem mergeT_len : ∀ (a b : List VT), (mergeT a b).length = a.length + b.length
  | [], b => by simp [mergeT]
  | x :: a, [] => by simp [mergeT]
  | x :: a, y :: b => by
    rw [mergeT]
    split
    · rw [List.length_cons, mergeT_len]; simp; omega
    · rw [List.length_cons, mergeT_len]; simp; omega
termination_by a b => a.length + b.length
theorem extT_mem {n : Int} {ks more : List VT} {t : VT} (h : t ∈ extT n ks more) : t ∈ ks ∨ t ∈ more := by
  unfold extT at h
  split at h
  · rcases mergeT_mem.1 h with h | h
    · exact Or.inl (List.dropLast_subset _ h)
    · exact Or.inr h
  · exact Or.inl h
theorem extT_len (n : Int) (ks more : List VT) : (extT n ks more).length ≤ ks.length + more.length := by
  unfold extT
  split
  · rw [mergeT_len]; simp
  · omega

def AskPost (C : Nat) (n : Int) (vu : Value) (u : List L.Nd) (vm : Value) (more : List VT) (s : Bool × Bool × Bool) (x : L.Nd) (w : World) (e : Ending) (w' : World) : Prop :=
  ∃ v', e = .returned v' ∧ Own w.heap.size v' [x] w' ∧ EK C n vu u vm more s w' ∧ Fr (fun i => i = C + 3 ∨ i = C + 4 ∨ i = C + 5) w w'

set_option maxHeartbeats 4000000 in
set_option maxRecDepth 100000 in
theorem ask_any (C : Nat) (n : Int) (vu vm : Value) (y : L.Nd) (ru : List L.Nd) (more : List VT) (o t l : Bool) (x : L.Nd) (ks : List VT) (hk0 : ∀ t ∈ ks, t.2 ≠ []) (hkn : ks.length ≤ 100) (hnk : ∀ t ∈ ks, (L.hd0 t.2).name.size ≤ 100) (hm0 : ∀ t ∈ more, t.2 ≠ []) (hmn : more.length ≤ 100) (hnm : ∀ t ∈ more, (L.hd0 t.2).name.size ≤ 100) (kv : Value) (w : World) (hK : EK C n vu (y :: ru) vm more (o, t, l) w) {B1 : Nat} (hB1 : C + 7 ≤ B1) (hrow : RowT B1 kv ks w) :
    Calls Try.prog 37 #[.agg #[.int .i64 x.kind, .string x.name, .int .i64 x.n], kv, .pointer (some ⟨C + 3, 0, none⟩), .pointer (some ⟨C, 0, none⟩), .pointer (some ⟨C + 1, 0, none⟩), .pointer (some ⟨C + 6, 0, none⟩), .pointer (some ⟨C + 2, 0, none⟩)] w (AskPost C n vu (y :: ru) vm more (o || (L.openB n (ks.map (·.2)) && (x.kind != y.kind)), t || L.twiceF [] (nameT (extT n ks more)), l || decide (50 < (extT n ks more).length)) x w) := by
  have HK := hid hK
  have hx := hrow.rdr
  have HROW := hid hrow
  have HO := hid (fun (W : World) (hW : Below w.heap.size w W) => isOpen_any ks hk0 (by omega) n kv W (hx.upon hW))
  have HEX := hid (fun (V : World) (hV : RowT B1 kv ks V) (W : World) (hW : Below V.heap.size V W) (vm' : Value) (hm : RdR W W.heap.size vm' more) => extended_any ks more hk0 hm0 (by omega) (by omega) n kv vm' W (hV.rdr.upon hW) hm)
  have HEL := hid (show (extT n ks more).length ≤ 200 from by have := extT_len n ks more; omega)
  have HE0 := hid (fun t (ht : t ∈ extT n ks more) => show t.2 ≠ [] from (extT_mem ht).elim (hk0 t) (hm0 t))
  have HEN := hid (fun t (ht : t ∈ extT n ks more) => show (L.hd0 t.2).name.size ≤ 100 from (extT_mem ht).elim (hnk t) (hnm t))
  obtain ⟨A, cap, rfl, hc1, hc2⟩ := RdR.val hx
  have cO : w.cell? ⟨C + 3, 0, none⟩ = some (.bool o) := Lib.cell_of_heap hK.bo 0
  have cN : w.cell? ⟨C, 0, none⟩ = some (.int .i64 n) := Lib.cell_of_heap hK.bn 0
  have cU : w.cell? ⟨C + 1, 0, none⟩ = some vu := Lib.cell_of_heap hK.bu 0
  have fO : w.frozen? ⟨C + 3, 0, none⟩ = false := Lib.frozen_of_heap hK.bo 0
  have hs := hK.size
  have h1 : C + 3 < w.heap.size := by omega
  have h2 : C < w.heap.size := by omega
  have h3 : C + 1 < w.heap.size := by omega
  have h4 : C + 3 ≠ w.heap.size := by omega
  have h5 : w.heap.size ≠ C + 3 := by omega
  obtain ⟨k1, s1, n1⟩ := x
  clear hK hx hrow hk0 hm0 hnk hnm
  obtain ⟨OB, hOB⟩ : ∃ OB, L.openB n (ks.map (·.2)) = OB := ⟨_, rfl⟩
  rw [hOB] at HO
  have HOB := hid hOB
  clear hOB
  go_enter Try.func37, Try.ntmps37
  go_upto_region 1 with fail
  go_cut [] from 10 to 23 (fun wx => Q1 C n vu (y :: ru) vm more (o || (OB && (k1 != y.kind)), t, l) ⟨k1, s1, n1⟩ w wx)
  case first =>
    obtain ⟨wd, hwd⟩ : ∃ wd, wd = (w.alloc (.cells #[.int .i64 k1, .string s1, .int .i64 n1] 39)).drew := ⟨_, rfl⟩
    have HBD := hid (show Below w.heap.size w wd from hwd ▸ (below_new _).drew)
    have hsd : w.heap.size < wd.heap.size := by rw [hwd]; simp [World.drew]
    have HBX := hid (show wd.heap[w.heap.size]? = some (.cells #[.int .i64 k1, .string s1, .int .i64 n1] 39 (0, 0)) from by rw [hwd]; exact heap_alloc_new w _)
    have HQ := hid (fun (W : World) (v : Bool) (hb : Below wd.heap.size wd W) => show Q1 C n vu (y :: ru) vm more (v, t, l) ⟨k1, s1, n1⟩ w (W.setCell ⟨C + 3, 0, none⟩ (.bool v)) from by
      have hbw : Below w.heap.size w W := HBD.out.trans (hb.mono (by omega))
      have hf : Fr (fun i => i = C + 3) w (W.setCell ⟨C + 3, 0, none⟩ (.bool v)) := (Fr.of_below hbw).then (Q := fun i => i = C + 3) ⟨rfl, rfl, rfl, by simp, fun i hi g => heap_setCell_other W ⟨C + 3, 0, none⟩ i _ g⟩ (fun i hi g => g)
      refine ⟨HK.out.fr hf (fun i g => Or.inl g) ((HK.out.bo.below hbw).set v) ((HK.out.bt.fr hf fun g => by omega)) ((HK.out.bl.fr hf fun g => by omega)), ?_, hf⟩
      exact (heap_setCell_other W ⟨C + 3, 0, none⟩ _ _ (by show w.heap.size ≠ C + 3; omega)).trans ((hb.block _ hsd).trans HBX.out))
    have HCN := hid (fun (W : World) (hb : Below wd.heap.size wd W) => show W.cell? ⟨C, 0, none⟩ = some (.int .i64 n) ∧ W.cell? ⟨C + 1, 0, none⟩ = some vu ∧ W.cell? ⟨w.heap.size, 0, none⟩ = some (.int .i64 k1) ∧ W.cell? ⟨C + 3, 0, none⟩ = some (.bool o) ∧ W.frozen? ⟨C + 3, 0, none⟩ = false ∧ Rd W W.heap.size vu (y :: ru) from by
      have hbw : Below w.heap.size w W := HBD.out.trans (hb.mono (by omega))
      have hbx := (hb.block _ hsd).trans HBX.out
      exact ⟨(hbw.cell (p := ⟨C, 0, none⟩) h2).trans cN, (hbw.cell (p := ⟨C + 1, 0, none⟩) h3).trans cU, Lib.cell_of_heap hbx 0, (hbw.cell (p := ⟨C + 3, 0, none⟩) h1).trans cO, (hbw.frozen (p := ⟨C + 3, 0, none⟩) h1).trans fO, (HK.out.ru.below hbw).mono (by have := hbw.size; omega)⟩)
    obtain ⟨dN, dU, dX, dO, dF, dR⟩ := HCN.out wd (Below.refl _ _)
    have HR := hid dR
    obtain ⟨Au, cu, rfl, -⟩ := dR.len
    obtain ⟨qu, hqu⟩ : ∃ qu, qu = (y :: ru).length := ⟨_, rfl⟩
    have HQU := hid hqu
    rw [← hqu] at dU
    clear cO cN cU fO dR hqu h4 h5
    refine wp_region_any (by kernel_rfl) ?_
    change wpAny _ _ _ _ _ _ _ (World.drew _)
    rw [← hwd]
    clear hwd
    cases o with
    | true =>
      refine wpAny_ready (rs := [0]) (by kernel_rfl) (by simp) ?_
      refine AllReady.cons rfl (fun K hK => ?_) AllReady.nil
      go_simp
      refine hK _ _ ?_
      clear hK K
      refine wpAny_take (i := 1) (oi := ⟨some 11, _, _, _, _, _⟩) (v := .bool true) rfl (by kernel_rfl) (by kernel_rfl) (by kernel_rfl) (fun _ _ _ h => h) (Or.inl ⟨by kernel_rfl, ?_⟩) ?_
      · intro w; go_simp
      refine wpAny_take (i := 2) (oi := ⟨some 12, _, _, _, _, _⟩) (v := undef) rfl (by kernel_rfl) (by kernel_rfl) (by kernel_rfl) (fun _ _ _ h => h) (Or.inr ⟨by kernel_rfl, rfl⟩) ?_
      refine wpAny_take (i := 3) (oi := ⟨some 13, _, _, _, _, _⟩) (v := undef) rfl (by kernel_rfl) (by kernel_rfl) (by kernel_rfl) (fun _ _ _ h => h) (Or.inr ⟨by kernel_rfl, rfl⟩) ?_
      refine wpAny_take (i := 4) (oi := ⟨some 14, _, _, _, _, _⟩) (v := undef) rfl (by kernel_rfl) (by kernel_rfl) (by kernel_rfl) (fun _ _ _ h => h) (Or.inr ⟨by kernel_rfl, rfl⟩) ?_
      refine wpAny_take (i := 5) (oi := ⟨some 15, _, _, _, _, _⟩) (v := undef) rfl (by kernel_rfl) (by kernel_rfl) (by kernel_rfl) (fun _ _ _ h => h) (Or.inr ⟨by kernel_rfl, rfl⟩) ?_
      refine wpAny_take (i := 6) (oi := ⟨some 16, _, _, _, _, _⟩) (v := undef) rfl (by kernel_rfl) (by kernel_rfl) (by kernel_rfl) (fun _ _ _ h => h) (Or.inr ⟨by kernel_rfl, rfl⟩) ?_
      refine wpAny_take (i := 7) (oi := ⟨some 17, _, _, _, _, _⟩) (v := undef) rfl (by kernel_rfl) (by kernel_rfl) (by kernel_rfl) (fun _ _ _ h => h) (Or.inr ⟨by kernel_rfl, rfl⟩) ?_
      refine wpAny_take (i := 8) (oi := ⟨some 18, _, _, _, _, _⟩) (v := undef) rfl (by kernel_rfl) (by kernel_rfl) (by kernel_rfl) (fun _ _ _ h => h) (Or.inr ⟨by kernel_rfl, rfl⟩) ?_
      refine wpAny_take (i := 9) (oi := ⟨some 19, _, _, _, _, _⟩) (v := undef) rfl (by kernel_rfl) (by kernel_rfl) (by kernel_rfl) (fun _ _ _ h => h) (Or.inr ⟨by kernel_rfl, rfl⟩) ?_
      refine wpAny_take (i := 10) (oi := ⟨some 20, _, _, _, _, _⟩) (v := undef) rfl (by kernel_rfl) (by kernel_rfl) (by kernel_rfl) (fun _ _ _ h => h) (Or.inr ⟨by kernel_rfl, rfl⟩) ?_
      refine wpAny_take (i := 11) (oi := ⟨some 21, _, _, _, _, _⟩) (v := undef) rfl (by kernel_rfl) (by kernel_rfl) (by kernel_rfl) (fun _ _ _ h => h) (Or.inr ⟨by kernel_rfl, rfl⟩) ?_
      refine wpAny_take (i := 12) (oi := ⟨some 22, _, _, _, _, _⟩) (v := undef) rfl (by kernel_rfl) (by kernel_rfl) (by kernel_rfl) (fun _ _ _ h => h) (Or.inr ⟨by kernel_rfl, rfl⟩) ?_
      refine wpAny_take (i := 13) (oi := ⟨some 23, _, _, _, _, _⟩) (v := .bool true) rfl (by kernel_rfl) (by kernel_rfl) (by kernel_rfl) (fun _ _ _ h => h) (Or.inl ⟨by kernel_rfl, ?_⟩) ?_
      · intro w; go_simp
      refine wpAny_ready (rs := [14]) (by kernel_rfl) (by simp) ?_
      refine AllReady.cons rfl (fun K hK => ?_) AllReady.nil
      go_simp
      refine hK _ _ ?_
      clear hK K
      refine wpAny_done (by kernel_rfl) ?_ _
      try simp only [Act.put, List.setIfInBounds_toArray, List.set_cons_zero, List.set_cons_succ]
      have EX := hid (HQ.out wd true (Below.refl _ _))
      clear HQ
      go_wp2_with fail
      go_meet
      exact EX.out
    | false =>
      refine wpAny_ready (rs := [0]) (by kernel_rfl) (by simp) ?_
      refine AllReady.cons rfl (fun K hK => ?_) AllReady.nil
      go_simp
      refine hK _ _ ?_
      clear hK K
      refine wpAny_take (i := 1) (oi := ⟨some 11, _, _, _, _, _⟩) (v := .bool false) rfl (by kernel_rfl) (by kernel_rfl) (by kernel_rfl) (fun _ _ _ h => h) (Or.inl ⟨by kernel_rfl, ?_⟩) ?_
      · intro w; go_simp
      refine wpAny_take (i := 2) (oi := ⟨some 12, _, _, _, _, _⟩) (v := .slice A ks.length cap) rfl (by kernel_rfl) (by kernel_rfl) (by kernel_rfl) (fun _ _ _ h => h) (Or.inl ⟨by kernel_rfl, ?_⟩) ?_
      · intro w; go_simp
      refine wpAny_ready (rs := [3]) (by kernel_rfl) (by simp) ?_
      refine AllReady.cons rfl (fun K hK => ?_) AllReady.nil
      go_simp
      refine hK _ _ ?_
      clear hK K
      refine wpAny_ready (rs := [4]) (by kernel_rfl) (by simp) ?_
      refine AllReady.cons rfl (fun K hK => ?_) AllReady.nil
      go_simp
      refine (HO.out _ HBD.out).mono ?_
      rintro e w1 ⟨rfl, hb1⟩
      have HB1 := hid hb1
      obtain ⟨eN, eU, eX, eO, eF, eR⟩ := HCN.out w1 hb1
      have HR1 := hid eR
      rw [← HQU.out] at eU
      clear hb1 eR eN dN dU dX dO dF HR
      refine hK _ _ ?_
      clear hK K
      cases OB with
      | false =>
        refine wpAny_take (i := 5) (oi := ⟨some 15, _, _, _, _, _⟩) (v := .bool false) rfl (by kernel_rfl) (by kernel_rfl) (by kernel_rfl) (fun _ _ _ h => h) (Or.inl ⟨by kernel_rfl, ?_⟩) ?_
        · intro w; go_simp
        refine wpAny_take (i := 6) (oi := ⟨some 16, _, _, _, _, _⟩) (v := undef) rfl (by kernel_rfl) (by kernel_rfl) (by kernel_rfl) (fun _ _ _ h => h) (Or.inr ⟨by kernel_rfl, rfl⟩) ?_
        refine wpAny_take (i := 7) (oi := ⟨some 17, _, _, _, _, _⟩) (v := undef) rfl (by kernel_rfl) (by kernel_rfl) (by kernel_rfl) (fun _ _ _ h => h) (Or.inr ⟨by kernel_rfl, rfl⟩) ?_
        refine wpAny_take (i := 8) (oi := ⟨some 18, _, _, _, _, _⟩) (v := undef) rfl (by kernel_rfl) (by kernel_rfl) (by kernel_rfl) (fun _ _ _ h => h) (Or.inr ⟨by kernel_rfl, rfl⟩) ?_
        refine wpAny_take (i := 9) (oi := ⟨some 19, _, _, _, _, _⟩) (v := undef) rfl (by kernel_rfl) (by kernel_rfl) (by kernel_rfl) (fun _ _ _ h => h) (Or.inr ⟨by kernel_rfl, rfl⟩) ?_
        refine wpAny_take (i := 10) (oi := ⟨some 20, _, _, _, _, _⟩) (v := undef) rfl (by kernel_rfl) (by kernel_rfl) (by kernel_rfl) (fun _ _ _ h => h) (Or.inr ⟨by kernel_rfl, rfl⟩) ?_
        refine wpAny_take (i := 11) (oi := ⟨some 21, _, _, _, _, _⟩) (v := undef) rfl (by kernel_rfl) (by kernel_rfl) (by kernel_rfl) (fun _ _ _ h => h) (Or.inr ⟨by kernel_rfl, rfl⟩) ?_
        refine wpAny_take (i := 12) (oi := ⟨some 22, _, _, _, _, _⟩) (v := .bool false) rfl (by kernel_rfl) (by kernel_rfl) (by kernel_rfl) (fun _ _ _ h => h) (Or.inl ⟨by kernel_rfl, ?_⟩) ?_
        · intro w; go_simp
        refine wpAny_take (i := 13) (oi := ⟨some 23, _, _, _, _, _⟩) (v := .bool false) rfl (by kernel_rfl) (by kernel_rfl) (by kernel_rfl) (fun _ _ _ h => h) (Or.inl ⟨by kernel_rfl, ?_⟩) ?_
        · intro w; go_simp
        refine wpAny_ready (rs := [14]) (by kernel_rfl) (by simp) ?_
        refine AllReady.cons rfl (fun K hK => ?_) AllReady.nil
        go_simp
        refine hK _ _ ?_
        clear hK K
        refine wpAny_done (by kernel_rfl) ?_ _
        try simp only [Act.put, List.setIfInBounds_toArray, List.set_cons_zero, List.set_cons_succ]
        have EX := hid (HQ.out w1 false HB1.out)
        clear HQ
        go_wp2_with fail
        go_meet
        exact EX.out
      | true =>
        refine wpAny_take (i := 5) (oi := ⟨some 15, _, _, _, _, _⟩) (v := .bool true) rfl (by kernel_rfl) (by kernel_rfl) (by kernel_rfl) (fun _ _ _ h => h) (Or.inl ⟨by kernel_rfl, ?_⟩) ?_
        · intro w; go_simp
        refine wpAny_take (i := 6) (oi := ⟨some 16, _, _, _, _, _⟩) (v := .pointer (some ⟨w.heap.size, 0, none⟩)) rfl (by kernel_rfl) (by kernel_rfl) (by kernel_rfl) (fun _ _ _ h => h) (Or.inl ⟨by kernel_rfl, ?_⟩) ?_
        · intro w; go_simp
        refine wpAny_ready (rs := [7, 8]) (by kernel_rfl) (by simp) ?_
        refine AllReady.cons rfl (fun K hK => ?_) (AllReady.cons rfl (fun K hK => ?_) AllReady.nil)
        · go_simp
          refine hK _ _ ?_
          clear hK K
          refine wpAny_ready (rs := [8]) (by kernel_rfl) (by simp) ?_
          refine AllReady.cons rfl (fun K hK => ?_) AllReady.nil
          go_simp
          refine hK _ _ ?_
          clear hK K
          refine wpAny_ready (rs := [9]) (by kernel_rfl) (by simp) ?_
          refine AllReady.cons rfl (fun K hK => ?_) AllReady.nil
          go_simp
          rw [HQU.out]
          refine (head_any y ru _ _ HR1.out).mono ?_
          rintro e w2 ⟨rfl, hb2⟩
          have HB2 := hid (HB1.out.trans (hb2.mono HB1.out.size))
          obtain ⟨gN, gU, gX, gO, gF, gR⟩ := HCN.out w2 HB2.out
          clear hb2 gR gN gU eU eF eX eO
          refine hK _ _ ?_
          clear hK K
          refine wpAny_take (i := 10) (oi := ⟨some 20, _, _, _, _, _⟩) (v := .int .i64 y.kind) rfl (by kernel_rfl) (by kernel_rfl) (by kernel_rfl) (fun _ _ _ h => h) (Or.inl ⟨by kernel_rfl, ?_⟩) ?_
          · intro w; have hfl := run_field0 y.kind y.n y.name w; go_simp
          refine wpAny_take (i := 11) (oi := ⟨some 21, _, _, _, _, _⟩) (v := .bool (k1 != y.kind)) rfl (by kernel_rfl) (by kernel_rfl) (by kernel_rfl) (fun _ _ _ h => h) (Or.inl ⟨by kernel_rfl, ?_⟩) ?_
          · intro w; go_simp
          refine wpAny_take (i := 12) (oi := ⟨some 22, _, _, _, _, _⟩) (v := .bool (k1 != y.kind)) rfl (by kernel_rfl) (by kernel_rfl) (by kernel_rfl) (fun _ _ _ h => h) (Or.inl ⟨by kernel_rfl, ?_⟩) ?_
          · intro w; go_simp
          refine wpAny_take (i := 13) (oi := ⟨some 23, _, _, _, _, _⟩) (v := .bool (k1 != y.kind)) rfl (by kernel_rfl) (by kernel_rfl) (by kernel_rfl) (fun _ _ _ h => h) (Or.inl ⟨by kernel_rfl, ?_⟩) ?_
          · intro w; go_simp
          refine wpAny_ready (rs := [14]) (by kernel_rfl) (by simp) ?_
          refine AllReady.cons rfl (fun K hK => ?_) AllReady.nil
          go_simp
          refine hK _ _ ?_
          clear hK K
          refine wpAny_done (by kernel_rfl) ?_ _
          try simp only [Act.put, List.setIfInBounds_toArray, List.set_cons_zero, List.set_cons_succ]
          have EX := hid (HQ.out w2 (k1 != y.kind) HB2.out)
          clear HQ
          go_wp2_with fail
          go_meet
          exact EX.out
        · go_simp
          refine hK _ _ ?_
          clear hK K
          refine wpAny_ready (rs := [7, 9]) (by kernel_rfl) (by simp) ?_
          refine AllReady.cons rfl (fun K hK => ?_) (AllReady.cons rfl (fun K hK => ?_) AllReady.nil)
          · go_simp
            refine hK _ _ ?_
            clear hK K
            refine wpAny_ready (rs := [9]) (by kernel_rfl) (by simp) ?_
            refine AllReady.cons rfl (fun K hK => ?_) AllReady.nil
            go_simp
            rw [HQU.out]
            refine (head_any y ru _ _ HR1.out).mono ?_
            rintro e w2 ⟨rfl, hb2⟩
            have HB2 := hid (HB1.out.trans (hb2.mono HB1.out.size))
            obtain ⟨gN, gU, gX, gO, gF, gR⟩ := HCN.out w2 HB2.out
            clear hb2 gR gN gU eU eF eX eO
            refine hK _ _ ?_
            clear hK K
            refine wpAny_take (i := 10) (oi := ⟨some 20, _, _, _, _, _⟩) (v := .int .i64 y.kind) rfl (by kernel_rfl) (by kernel_rfl) (by kernel_rfl) (fun _ _ _ h => h) (Or.inl ⟨by kernel_rfl, ?_⟩) ?_
            · intro w; have hfl := run_field0 y.kind y.n y.name w; go_simp
            refine wpAny_take (i := 11) (oi := ⟨some 21, _, _, _, _, _⟩) (v := .bool (k1 != y.kind)) rfl (by kernel_rfl) (by kernel_rfl) (by kernel_rfl) (fun _ _ _ h => h) (Or.inl ⟨by kernel_rfl, ?_⟩) ?_
            · intro w; go_simp
            refine wpAny_take (i := 12) (oi := ⟨some 22, _, _, _, _, _⟩) (v := .bool (k1 != y.kind)) rfl (by kernel_rfl) (by kernel_rfl) (by kernel_rfl) (fun _ _ _ h => h) (Or.inl ⟨by kernel_rfl, ?_⟩) ?_
            · intro w; go_simp
            refine wpAny_take (i := 13) (oi := ⟨some 23, _, _, _, _, _⟩) (v := .bool (k1 != y.kind)) rfl (by kernel_rfl) (by kernel_rfl) (by kernel_rfl) (fun _ _ _ h => h) (Or.inl ⟨by kernel_rfl, ?_⟩) ?_
            · intro w; go_simp
            refine wpAny_ready (rs := [14]) (by kernel_rfl) (by simp) ?_
            refine AllReady.cons rfl (fun K hK => ?_) AllReady.nil
            go_simp
            refine hK _ _ ?_
            clear hK K
            refine wpAny_done (by kernel_rfl) ?_ _
            try simp only [Act.put, List.setIfInBounds_toArray, List.set_cons_zero, List.set_cons_succ]
            have EX := hid (HQ.out w2 (k1 != y.kind) HB2.out)
            clear HQ
            go_wp2_with fail
            go_meet
            exact EX.out
          · go_simp
            rw [HQU.out]
            refine (head_any y ru _ _ HR1.out).mono ?_
            rintro e w2 ⟨rfl, hb2⟩
            have HB2 := hid (HB1.out.trans (hb2.mono HB1.out.size))
            obtain ⟨gN, gU, gX, gO, gF, gR⟩ := HCN.out w2 HB2.out
            clear hb2 gR gN gU eU eF eX eO
            refine hK _ _ ?_
            clear hK K
            refine wpAny_take (i := 10) (oi := ⟨some 20, _, _, _, _, _⟩) (v := .int .i64 y.kind) rfl (by kernel_rfl) (by kernel_rfl) (by kernel_rfl) (fun _ _ _ h => h) (Or.inl ⟨by kernel_rfl, ?_⟩) ?_
            · intro w; have hfl := run_field0 y.kind y.n y.name w; go_simp
            refine wpAny_ready (rs := [7]) (by kernel_rfl) (by simp) ?_
            refine AllReady.cons rfl (fun K hK => ?_) AllReady.nil
            go_simp
            refine hK _ _ ?_
            clear hK K
            refine wpAny_take (i := 11) (oi := ⟨some 21, _, _, _, _, _⟩) (v := .bool (k1 != y.kind)) rfl (by kernel_rfl) (by kernel_rfl) (by kernel_rfl) (fun _ _ _ h => h) (Or.inl ⟨by kernel_rfl, ?_⟩) ?_
            · intro w; go_simp
            refine wpAny_take (i := 12) (oi := ⟨some 22, _, _, _, _, _⟩) (v := .bool (k1 != y.kind)) rfl (by kernel_rfl) (by kernel_rfl) (by kernel_rfl) (fun _ _ _ h => h) (Or.inl ⟨by kernel_rfl, ?_⟩) ?_
            · intro w; go_simp
            refine wpAny_take (i := 13) (oi := ⟨some 23, _, _, _, _, _⟩) (v := .bool (k1 != y.kind)) rfl (by kernel_rfl) (by kernel_rfl) (by kernel_rfl) (fun _ _ _ h => h) (Or.inl ⟨by kernel_rfl, ?_⟩) ?_
            · intro w; go_simp
            refine wpAny_ready (rs := [14]) (by kernel_rfl) (by simp) ?_
            refine AllReady.cons rfl (fun K hK => ?_) AllReady.nil
            go_simp
            refine hK _ _ ?_
            clear hK K
            refine wpAny_done (by kernel_rfl) ?_ _
            try simp only [Act.put, List.setIfInBounds_toArray, List.set_cons_zero, List.set_cons_succ]
            have EX := hid (HQ.out w2 (k1 != y.kind) HB2.out)
            clear HQ
            go_wp2_with fail
            go_meet
            exact EX.out
  case rest =>
    clear cO cN cU fO h4 h5 HO
    have hent := enter_look
    have HQ := hid hcut
    obtain ⟨hk, hbx, hfr⟩ := hcut
    have HM := hid (hk.rm.mono (show C ≤ wc.heap.size by have := hk.size; omega))
    obtain ⟨Am, cm, rfl, -⟩ := hk.rm.val
    have cK : wc.cell? ⟨C + 6, 0, none⟩ = some (.func (.func 35) #[] #[.pointer (some ⟨C + 4, 0, none⟩), .pointer (some ⟨C + 5, 0, none⟩)]) := Lib.cell_of_heap hk.bk 0
    have cN : wc.cell? ⟨C, 0, none⟩ = some (.int .i64 n) := Lib.cell_of_heap hk.bn 0
    have cM : wc.cell? ⟨C + 2, 0, none⟩ = some (.slice Am more.length cm) := Lib.cell_of_heap hk.bm 0
    have HEC := hid (HEX.out wc (HROW.out.fr hfr fun i g => by omega))
    have hs6 : C + 6 < wc.heap.size := by have := hk.size; omega
    have HFIN := hid (fun (w2 w3 : World) (T U : Bool) (hb2 : Below wc.heap.size wc w2) (h1 : BoxB w3 (C + 4) T) (h2 : BoxB w3 (C + 5) U) (hf : Fr (fun i => i = C + 4 ∨ i = C + 5) w2 w3) =>
      show AskPost C n vu (y :: ru) (.slice Am more.length cm) more (o || (OB && (k1 != y.kind)), T, U) ⟨k1, s1, n1⟩ w (.returned (.slice (some ⟨w3.heap.size, 0, none⟩) 1 1)) (w3.alloc (.cells #[.int .i64 k1, .string s1, .int .i64 n1] 39)) ∧ w3.heap[w.heap.size]? = some (.cells #[.int .i64 k1, .string s1, .int .i64 n1] 39 (0, 0)) from by
      have e2 := hk.below hb2
      have hsz : w.heap.size < wc.heap.size := heap_lt hbx
      have e3 : EK C n vu (y :: ru) (.slice Am more.length cm) more (o || (OB && (k1 != y.kind)), T, U) w3 := e2.fr hf (fun i g => by omega) (e2.bo.fr hf fun g => by omega) h1 h2
      have hfw : Fr (fun i => i = C + 3 ∨ i = C + 4 ∨ i = C + 5) w w3 := ((hfr.mono (Q := fun i => i = C + 3 ∨ i = C + 4 ∨ i = C + 5) fun i _ g => Or.inl g).trans (Fr.of_below hb2)).then hf (fun i _ g => by omega)
      have hsw := hfw.size
      refine ⟨⟨_, rfl, lit_own w3 w.heap.size hsw k1 n1 s1, e3.below (below_new _), hfw.trans (Fr.of_below (below_new _))⟩, ?_⟩
      exact hf.heap ((hb2.block _ hsz).trans hbx) (fun g => by omega))
    clear hk hbx hfr
    go_wp2_with fail
    go_region_with (first
      | (go_at_call 23
         refine (HEC.out _ ?_ _ ?_).mono ?_
         · exact ⟨rfl, rfl, rfl, Nat.le_refl _, fun _ _ => rfl⟩
         · exact HM.out
         rintro e w2 ⟨v2, rfl, hr2, hb2⟩
         have HR2 := hid hr2
         have HB2 := hid (show Below wc.heap.size wc w2 from ⟨hb2.os, hb2.tape, hb2.output, hb2.size, hb2.block⟩)
         obtain ⟨A2, c2, rfl, -⟩ := hr2.val
         have cK2 : w2.cell? ⟨C + 6, 0, none⟩ = some (.func (.func 35) #[] #[.pointer (some ⟨C + 4, 0, none⟩), .pointer (some ⟨C + 5, 0, none⟩)]) := (hb2.cell (p := ⟨C + 6, 0, none⟩) hs6).trans cK
         clear hr2 hb2)
      | (go_at_call 35
         refine (look_any (extT n ks more) HE0.out HEL.out HEN.out _ (C + 4) (C + 5) (by omega) t l _ ?_ ?_ ?_).mono ?_
         · exact HR2.out
         · exact HQ.out.1.bt.below HB2.out
         · exact HQ.out.1.bl.below HB2.out
         rintro e w3 ⟨rfl, ht3, hl3, hf3⟩
         have EX := hid (HFIN.out w2 w3 _ _ HB2.out ht3 hl3 hf3)
         clear ht3 hl3 hf3))
    all_goals
      have d0 := Lib.cell_of_heap EX.out.2 0
      have d1 := Lib.cell_of_heap EX.out.2 1
      have d2 := Lib.cell_of_heap EX.out.2 2
      simp only [List.getElem?_toArray] at d0 d1 d2
      clear cK cN cM cK2 HFIN HEC HQ
      go_wp2_with fail
      go_ret
      rw [HOB.out]
      exact EX.out.1
end Go.Proofs.Ytkkigdbinnfbfaa
