/-
  The walk of term's rowErrno. Conditions: types of at most 10000 nodes, whose labels have at most 100 bytes.
-/
import Derived.Test.YtkkigdbinnfbfaaTmE4
import Derived.Test.YtkkigdbinnfbfaaTmV
import Derived.Test.YtkkigdbinnfbfaaTmR
namespace Go.Proofs.Ytkkigdbinnfbfaa.L
open Go
/-- In a row of labels none is twice. -/
theorem row_once {kd : Int} : ∀ (f : Fo) (b : ByteArray) (s : List ByteArray), Fo.row kd b f = true → (∀ a ∈ s, a = b ∨ ltB a b = true) → twiceF s (nameL f.tops1) = false
  | .nil, _, _, _, _ => rfl
  | .cons y ks r, b, s, h, hs => by
    rw [Fo.row] at h
    have e : nameL (Fo.cons y ks r).tops1 = y.name :: nameL r.tops1 := rfl
    rw [e, twiceF]
    by_cases h9 : y.kind = 9
    · rw [if_pos h9] at h
      simp only [Bool.and_eq_true, decide_eq_true_eq] at h
      have hy : y.name = ⟨#[]⟩ := by
        apply ByteArray.ext
        exact Array.eq_empty_of_size_eq_zero h.1
      have hr : r = .nil := ok_nil h.2
      subst hr
      simp [hy, Fo.tops1, nameL, twiceF]
    · rw [if_neg h9] at h
      simp only [Bool.and_eq_true] at h
      have hlt : ∀ a ∈ s, ltB a y.name = true := fun a ha => by
        rcases hs a ha with rfl | g
        · exact h.1.2
        · exact ltB_trans g h.1.2
      have hc : ¬ 0 < cnt y.name s := fun g => by
        have := hlt _ ((cnt_pos _ _).1 g)
        rw [ltB_irrefl] at this
        cases this
      rw [decide_eq_false hc, Bool.and_false, Bool.false_or]
      refine row_once r y.name _ h.2 fun a ha => ?_
      rcases List.mem_append.1 ha with ha | ha
      · exact Or.inr (hlt a ha)
      · exact Or.inl (List.mem_singleton.1 ha)
theorem bare_once {x : Nd} (h5 : x.kind = 5) : ∀ (f : Fo) (k : Nat) (b : ByteArray) (s : List ByteArray), Fo.stand x k b f = true → twiceF s (nameL f.tops1) = false
  | .nil, _, _, _, _ => rfl
  | .cons y ks r, k, b, s, h => by
    simp only [Fo.stand, Bool.and_eq_true, mayStand, if_pos h5, bare, decide_eq_true_eq] at h
    have e : nameL (Fo.cons y ks r).tops1 = y.name :: nameL r.tops1 := rfl
    have hy : y.name = ⟨#[]⟩ := by
      apply ByteArray.ext
      exact Array.eq_empty_of_size_eq_zero h.1.1
    rw [e, twiceF, bare_once h5 r _ _ _ h.2]
    simp [hy]
theorem ok_once {x : Nd} {ks : Fo} (hm : many x = ks.count) (hs : Fo.stand x 0 ⟨#[]⟩ ks = true) : twiceF [] (nameL ks.tops1) = false := by
  by_cases h5 : x.kind = 5
  · exact bare_once h5 ks _ _ _ hs
  · by_cases h67 : x.kind = 6 ∨ x.kind = 7
    · have hmx : many x = x.n := by unfold many; rw [if_neg h5, if_pos h67]
      rw [stand_row h5 ks 0 _ (by omega)] at hs
      exact row_once ks _ _ hs (by simp)
    · have h0 : many x = 0 := by unfold many; rw [if_neg h5, if_neg h67]
      have : ks = .nil := ok_nil (by omega)
      subst this
      rfl
theorem ok_looks : ∀ f : Fo, f.ok = true → anyF (fun _ ks => twiceF [] (nameL ks.tops1)) f = false ∧ anyF (fun _ ks => decide (50 < ks.tops1.length)) f = false
  | .nil, _ => ⟨rfl, rfl⟩
  | .cons x ks r, h => by
    simp only [Fo.ok, Bool.and_eq_true, decide_eq_true_eq] at h
    obtain ⟨⟨⟨⟨hn, hm⟩, hs⟩, hk⟩, hr⟩ := h
    obtain ⟨k1, k2⟩ := ok_looks ks hk
    obtain ⟨r1, r2⟩ := ok_looks r hr
    have hb := many_of_numbered hn
    have hc : ¬ 50 < ks.tops1.length := by rw [tops1_len]; omega
    simp only [anyF, k1, k2, r1, r2, ok_once hm hs, decide_eq_false hc, Bool.or_false]
    trivial
/-- Short labels. -/
def Short (l : List Nd) : Prop := ∀ x ∈ l, x.name.size ≤ 100
def codeE (o t l : Bool) : Int := if o = true then 1 else if t = true then 7 else if l = true then 3 else 0
end Go.Proofs.Ytkkigdbinnfbfaa.L
namespace Go.Proofs.Ytkkigdbinnfbfaa
open Go.RowKit

/-- What is asked of each node. -/
def AZ (_ : L.Nd) (kf : L.Fo) : Prop := kf.count ≤ 50 ∧ L.Short kf.flat
theorem all_az : ∀ (f : L.Fo), f.ok = true → L.Short f.flat → L.Fo.all AZ f
  | .nil, _, _ => trivial
  | .cons x ks r, h, hs => by
    simp only [L.Fo.ok, Bool.and_eq_true, decide_eq_true_eq] at h
    obtain ⟨⟨⟨⟨hn, hm⟩, -⟩, hk⟩, hr⟩ := h
    have hb := L.many_of_numbered hn
    have h1 : L.Short ks.flat := fun y hy => hs y (by simp [L.Fo.flat, hy])
    exact ⟨⟨by omega, h1⟩, all_az ks hk h1, all_az r hr fun y hy => hs y (by simp [L.Fo.flat, hy])⟩
theorem tops_names {kf : L.Fo} (h : L.Short kf.flat) {ks : List VT} (hk : ks.map (·.2) = kf.tops1) : (∀ t ∈ ks, t.2 ≠ []) ∧ ∀ t ∈ ks, (L.hd0 t.2).name.size ≤ 100 := by
  have key : ∀ t ∈ ks, ∃ x ∈ kf.flat, t.2 = [x] := fun t ht => L.tops1_mem kf t.2 (by rw [← hk]; exact List.mem_map_of_mem ht)
  constructor
  · intro t ht
    obtain ⟨x, -, e⟩ := key t ht
    rw [e]; simp
  · intro t ht
    obtain ⟨x, hx, e⟩ := key t ht
    rw [e]
    exact h x hx

def Uo (C : Nat) : Nat → Prop := fun i => i = C + 3 ∨ i = C + 4 ∨ i = C + 5

theorem enter_ask (args : Array Value) (W : World) : (callFunc 37 args).run Try.prog W = .ok (.enter 37 args) W := by kernel_rfl
theorem enter_ask3 (args : Array Value) (W : World) : (callFunc 41 args).run Try.prog W = .ok (.enter 41 args) W := by kernel_rfl

theorem ask_join (C : Nat) (n : Int) (vu vm : Value) (y : L.Nd) (ru : List L.Nd) (more : List VT) (hm0 : ∀ t ∈ more, t.2 ≠ []) (hmn : more.length ≤ 100) (hnm : ∀ t ∈ more, (L.hd0 t.2).name.size ≤ 100) {B1 : Nat} (hB1 : C + 7 ≤ B1) :
    JoinOk (L.askJ n y.kind (more.map (·.2))) (EK C n vu (y :: ru) vm more) (Uo C) AZ B1 37 #[.pointer (some ⟨C + 3, 0, none⟩), .pointer (some ⟨C, 0, none⟩), .pointer (some ⟨C + 1, 0, none⟩), .pointer (some ⟨C + 6, 0, none⟩), .pointer (some ⟨C + 2, 0, none⟩)] := by
  rintro s0 ⟨o, t, l⟩ x kf kv ks W ⟨hz1, hz2⟩ hks hB hK hr
  have hkm : ks.map (·.2) = kf.tops1 := by rw [← (L.ask_fold n y.kind (more.map (·.2)) kf s0).1, hks]
  obtain ⟨h0, hn⟩ := tops_names hz2 hkm
  have hlen : ks.length = kf.count := by rw [← L.tops1_len, ← hkm, List.length_map]
  refine (ask_any C n vu vm y ru more o t l x ks h0 (by omega) hn hm0 hmn hnm kv W hK hB1 hr).mono ?_
  rintro e W' ⟨v', rfl, hO, hE, hF⟩
  refine ⟨v', rfl, hO.rd, fun b hb => hO.blk hb, ?_, hF.mono fun i _ g => Or.inl g⟩
  rw [nameT_map, extT_map] at hE
  have e : (extT n ks more).length = (L.extL n (ks.map (·.2)) (more.map (·.2))).length := by rw [← extT_map, List.length_map]
  rw [e] at hE
  exact hE
theorem look_join (C : Nat) (n : Int) (vu vm : Value) (u : List L.Nd) (more : List VT) {B1 : Nat} :
    JoinOk L.lookJ (EK C n vu u vm more) (Uo C) AZ B1 41 #[.pointer (some ⟨C + 6, 0, none⟩)] := by
  rintro s0 ⟨o, t, l⟩ x kf kv ks W ⟨hz1, hz2⟩ hks hB hK hr
  have hkm : ks.map (·.2) = kf.tops1 := by rw [← (L.look_fold kf s0).1, hks]
  obtain ⟨h0, hn⟩ := tops_names hz2 hkm
  have hlen : ks.length = kf.count := by rw [← L.tops1_len, ← hkm, List.length_map]
  refine (ask3_any C n vu vm u more o t l x ks h0 (by omega) hn kv W hK hr.rdr).mono ?_
  rintro e W' ⟨v', rfl, hO, hE, hF⟩
  refine ⟨v', rfl, hO.rd, fun b hb => hO.blk hb, ?_, hF.mono fun i _ g => Or.inl g⟩
  have e : ks.length = (ks.map (·.2)).length := by rw [List.length_map]
  rw [nameT_map, e] at hE
  exact hE

theorem seven_new (w : World) (a b c d e f g : Obj) : ∃ W : World, W = ((((((w.alloc a).alloc b).alloc c).alloc d).alloc e).alloc f).alloc g ∧ W.heap[w.heap.size]? = some a ∧ W.heap[w.heap.size + 1]? = some b ∧ W.heap[w.heap.size + 2]? = some c ∧ W.heap[w.heap.size + 3]? = some d ∧ W.heap[w.heap.size + 4]? = some e ∧ W.heap[w.heap.size + 5]? = some f ∧ W.heap[w.heap.size + 6]? = some g ∧ Below w.heap.size w W ∧ W.heap.size = w.heap.size + 7 := by
  obtain ⟨h1, h2, h3, h4, h5, h6⟩ := four_new w a b c d
  obtain ⟨W4, hW4⟩ : ∃ W4, W4 = (((w.alloc a).alloc b).alloc c).alloc d := ⟨_, rfl⟩
  rw [← hW4] at h1 h2 h3 h4 h5 h6 ⊢
  have s5 : (W4.alloc e).heap.size = w.heap.size + 5 := by simp; omega
  have s6 : ((W4.alloc e).alloc f).heap.size = w.heap.size + 6 := by simp; omega
  have n5 := heap_alloc_new W4 e
  have n6 := heap_alloc_new (W4.alloc e) f
  have n7 := heap_alloc_new ((W4.alloc e).alloc f) g
  rw [h6] at n5
  rw [s5] at n6
  rw [s6] at n7
  have old : ∀ (k : Nat) (o : Obj), k < w.heap.size + 4 → W4.heap[k]? = some o → (((W4.alloc e).alloc f).alloc g).heap[k]? = some o := fun k o hk ho =>
    (heap_alloc_old _ _ (by omega)).trans ((heap_alloc_old _ _ (by omega)).trans ((heap_alloc_old _ _ (by omega)).trans ho))
  refine ⟨_, rfl, old _ _ (by omega) h1, old _ _ (by omega) h2, old _ _ (by omega) h3, old _ _ (by omega) h4, ?_, ?_, n7, ?_, by simp; omega⟩
  · exact (heap_alloc_old _ _ (by omega)).trans ((heap_alloc_old _ _ (by omega)).trans n5)
  · exact (heap_alloc_old _ _ (by omega)).trans n6
  · exact h5.trans ((below_new _).mono (by omega) |>.trans (((below_new _).mono (by omega)).trans ((below_new _).mono (by omega))))

/-- What is wrong with what is put: other kinds, labels twice, too many. -/
def putO (n uk : Int) (f : L.Fo) : Bool := L.anyF (fun x ks => L.q1 n uk x ks.tops1) f
def putT (n : Int) (more : List (List L.Nd)) (f : L.Fo) : Bool := L.anyF (fun _ ks => L.q2 n more ks.tops1) f
def putL (n : Int) (more : List (List L.Nd)) (f : L.Fo) : Bool := L.anyF (fun _ ks => L.q3 n more ks.tops1) f

set_option maxHeartbeats 8000000 in
set_option maxRecDepth 100000 in
theorem rowErrno_any (f : L.Fo) (hok : f.ok = true) (hl : f.flat.length ≤ 10000) (hsh : L.Short f.flat) (y : L.Nd) (yk : L.Fo) (huok : (L.Fo.cons y yk .nil).ok = true) (hul : (y :: yk.flat).length ≤ 10000) (hus : L.Short (y :: yk.flat))
    (n : Int) (vt vu vm : Value) (more : List VT) (hmm : more.map (·.2) = yk.rows) (w : World) (hx : Rd w w.heap.size vt f.flat) (hu : Rd w w.heap.size vu (y :: yk.flat)) (hm : RdR w w.heap.size vm more) :
    Calls Try.prog 17 #[vt, .int .i64 n, vu, vm] w fun e w' => e = .returned (.int .i64 (L.codeE (putO n y.kind f) (putT n yk.rows f) (putL n yk.rows f))) ∧ Below w.heap.size w w' := by
  have HX := hid hx
  have HU := hid hu
  have HM := hid hm
  have hm0 : ∀ t ∈ more, t.2 ≠ [] := fun t ht => L.rows_ne yk t.2 (by rw [← hmm]; exact List.mem_map_of_mem ht)
  have hmn : more.length ≤ 100 := by
    have h1 := congrArg List.length hmm
    rw [List.length_map, L.rows_len] at h1
    have h2 := huok
    simp only [L.Fo.ok, Bool.and_eq_true, decide_eq_true_eq] at h2
    have := L.many_of_numbered h2.1.1.1.1
    omega
  have hnm : ∀ t ∈ more, (L.hd0 t.2).name.size ≤ 100 := fun t ht => by
    have h1 : t.2 ∈ yk.rows := by rw [← hmm]; exact List.mem_map_of_mem ht
    have h2 : L.hd0 t.2 ∈ yk.flat := by
      rw [← L.rows_flat]
      have h3 := L.rows_ne yk t.2 h1
      refine List.mem_flatten.2 ⟨t.2, h1, ?_⟩
      cases hl : t.2 with
      | nil => exact absurd hl h3
      | cons a r => simp [L.hd0]
    exact hus _ (by simp [h2])
  obtain ⟨A1, c1, rfl, hl1, hl2⟩ := hx.len
  obtain ⟨A2, c2, rfl, hl3, hl4⟩ := hu.len
  obtain ⟨A3, c3, rfl, hl5, hl6⟩ := hm.val
  unfold maxLen at hl2 hl4 hl6
  obtain ⟨qu, hqu⟩ : ∃ qu, qu = (y :: yk.flat).length := ⟨_, rfl⟩
  rw [← hqu] at hl3 hu ⊢
  obtain ⟨W0, hW0, n0, n1, n2, n3, n4, n5, n6, hb0, hs0⟩ := seven_new w (.cells #[.int .i64 n] 3) (.cells #[.slice A2 qu c2] 23) (.cells #[.slice A3 more.length c3] 27) (.cells #[.bool false] 4) (.cells #[.bool false] 4) (.cells #[.bool false] 4) (.cells #[.func (.func 35) #[] #[.pointer (some ⟨w.heap.size + 1 + 1 + 1 + 1, 0, none⟩), .pointer (some ⟨w.heap.size + 1 + 1 + 1 + 1 + 1, 0, none⟩)]] 61)
  have E0 : EK w.heap.size n (.slice A2 qu c2) (y :: yk.flat) (.slice A3 more.length c3) more (false, false, false) W0 := ⟨n0, n1, n2, n3, n4, n5, n6, hu.below hb0, hm.below hb0⟩
  have hKs : ∀ s W W', EK w.heap.size n (.slice A2 qu c2) (y :: yk.flat) (.slice A3 more.length c3) more s W → Fr (fun i => w.heap.size + 7 ≤ i) W W' → EK w.heap.size n (.slice A2 qu c2) (y :: yk.flat) (.slice A3 more.length c3) more s W' := fun s W W' h hf => h.keep hf fun i g => g
  have HF := hid (fold_any (L.askJ n y.kind (more.map (·.2))) _ (Uo w.heap.size) AZ 37 #[.pointer (some ⟨w.heap.size + 1 + 1 + 1, 0, none⟩), .pointer (some ⟨w.heap.size, 0, none⟩), .pointer (some ⟨w.heap.size + 1, 0, none⟩), .pointer (some ⟨w.heap.size + 1 + 1 + 1 + 1 + 1 + 1, 0, none⟩), .pointer (some ⟨w.heap.size + 1 + 1, 0, none⟩)] enter_ask W0 (fun i g => by unfold Uo at g; omega) (fun s W W' h hf => hKs s W W' h (hf.mono fun i _ g => by omega)) (ask_join w.heap.size n (.slice A2 qu c2) (.slice A3 more.length c3) y yk.flat more hm0 hmn hnm (by omega)) f hok (all_az f hok hsh) (by omega) (.slice A1 f.flat.length c1) ((hx.below hb0).mono hb0.size) (fun b hb g => by have := Blk.lt hx hb; unfold Uo at g; omega) (false, false, false) E0)
  obtain ⟨bo, hbo⟩ : ∃ b, putO n y.kind f = b := ⟨_, rfl⟩
  obtain ⟨bt, hbt⟩ : ∃ b, putT n yk.rows f = b := ⟨_, rfl⟩
  obtain ⟨bl, hbl⟩ : ∃ b, putL n yk.rows f = b := ⟨_, rfl⟩
  have HST : Hid ((L.foldF (L.askJ n y.kind (more.map (·.2))) (false, false, false) f).1 = (bo, bt, bl)) := hid (by
    rw [(L.ask_fold n y.kind (more.map (·.2)) f (false, false, false)).2, hmm, ← hbo, ← hbt, ← hbl]
    simp only [Bool.false_or]
    rfl)
  rw [hbo, hbt, hbl]
  -- the second look, behind which all is as it was
  have HF2 := hid (fun (W : World) (hW : EK w.heap.size n (.slice A2 qu c2) (y :: yk.flat) (.slice A3 more.length c3) more (bo, bt, bl) W) =>
    fold_any L.lookJ _ (Uo w.heap.size) AZ 41 #[.pointer (some ⟨w.heap.size + 1 + 1 + 1 + 1 + 1 + 1, 0, none⟩)] enter_ask3 W (fun i g => by have := hW.size; unfold Uo at g; omega) (fun s V V' h hf => hKs s V V' h (hf.mono fun i _ g => by have := hW.size; omega)) (look_join w.heap.size n (.slice A2 qu c2) (.slice A3 more.length c3) (y :: yk.flat) more) (.cons y yk .nil) huok (all_az _ huok (by simpa [L.Fo.flat] using hus)) (by simp [L.Fo.flat] at hul ⊢; omega) (.slice A2 qu c2) (by simpa [L.Fo.flat] using hW.ru.mono (show w.heap.size ≤ W.heap.size by have := hW.size; omega)) (fun b hb g => by have := Blk.lt hW.ru (by simpa [L.Fo.flat] using hb); unfold Uo at g; omega) (bo, bt, bl) hW)
  have HST2 : Hid ((L.foldF L.lookJ (bo, bt, bl) (.cons y yk .nil)).1 = (bo, bt, bl)) := hid (by
    rw [(L.look_fold _ _).2, (L.ok_looks _ huok).1, (L.ok_looks _ huok).2]
    simp)
  have HV := hid (fun (W : World) (hW : Rd W W.heap.size (.slice A1 f.flat.length c1) f.flat) => vars_any f.flat (by omega) (.slice A1 f.flat.length c1) W hW)
  have HW0 := hid hW0
  have HB0 := hid hb0
  clear hx hu hm hm0 hmn hnm hqu n0 n1 n2 n3 n4 n5 n6 E0 hKs hbo hbt hbl hmm huok hus hsh hok hW0 hb0
  go_enter Try.func17, Try.ntmps17
  go_wp2_with fail
  rw [← HW0.out]
  refine (HF.out).mono ?_
  rintro e w1 ⟨vr, ts, rfl, -, hrow, hk1, hf1⟩
  rw [HST.out] at hk1
  have HK1 := hid hk1
  have HB1 := hid (HB0.out.trans (hf1.below (B := w.heap.size) HB0.out.size (fun i hi g => by unfold Uo at g; omega)))
  obtain ⟨Ar, cr, rfl, -⟩ := hrow.val
  have cN : w1.cell? ⟨w.heap.size, 0, none⟩ = some (.int .i64 n) := Lib.cell_of_heap hk1.bn 0
  have hs1 := HB1.out.size
  have hs7 := hk1.size
  have hnl : w.heap.size < w1.heap.size := by omega
  clear hrow hk1 hf1 HF
  go_wp2_with fail
  go_region_with (first
    | (go_at_call 7
       refine (HV.out _ ?_).mono ?_
       · exact (HX.out.below HB1.out).mono HB1.out.size
       rintro e w2 ⟨vz, rfl, hz, hb2⟩
       have HZ := hid hz
       have HB2 := hid (show Below w1.heap.size w1 w2 from ⟨hb2.os, hb2.tape, hb2.output, hb2.size, hb2.block⟩)
       have cN2 : w2.cell? ⟨w.heap.size, 0, none⟩ = some (.int .i64 n) := (hb2.cell (p := ⟨w.heap.size, 0, none⟩) hnl).trans cN
       clear hz hb2)
    | (go_at_call 40
       refine (contains_any (B := w1.heap.size) (L.varsL f.flat) n vz _ ?_).mono ?_
       · exact HZ.out
       rintro e w3 ⟨rfl, rfl⟩))
  all_goals
    have HK2 := hid (HK1.out.below HB2.out)
    have HBW := hid (HB1.out.trans (HB2.out.mono HB1.out.size))
    obtain ⟨hasb, hh⟩ : ∃ b, decide (n ∈ L.varsL f.flat) = b := ⟨_, rfl⟩
    rw [hh]
    clear hh cN cN2 HV HK1
    cases hasb with
    | false =>
      have EKF := hid (And.intro HK2.out HBW.out)
      have hO : w2.cell? ⟨w.heap.size + 1 + 1 + 1, 0, none⟩ = some (.bool bo) := Lib.cell_of_heap EKF.out.1.bo 0
      have hT : w2.cell? ⟨w.heap.size + 1 + 1 + 1 + 1, 0, none⟩ = some (.bool bt) := Lib.cell_of_heap EKF.out.1.bt 0
      have hL : w2.cell? ⟨w.heap.size + 1 + 1 + 1 + 1 + 1, 0, none⟩ = some (.bool bl) := Lib.cell_of_heap EKF.out.1.bl 0
      have EX := hid EKF.out.2
      cases bo with
      | true =>
        go_wp2_with fail
        go_ret
        exact ⟨rfl, EX.out⟩
      | false =>
        cases bt with
        | true =>
          go_wp2_with fail
          go_ret
          exact ⟨rfl, EX.out⟩
        | false =>
          cases bl with
          | true =>
            go_wp2_with fail
            go_ret
            exact ⟨rfl, EX.out⟩
          | false =>
            go_wp2_with fail
            go_ret
            exact ⟨rfl, EX.out⟩
    | true =>
      have HG := hid (HF2.out w2 HK2.out)
      have cU : w2.cell? ⟨w.heap.size + 1, 0, none⟩ = some (.slice A2 qu c2) := Lib.cell_of_heap HK2.out.bu 0
      clear HF2
      go_wp2_with fail
      refine (HG.out).mono ?_
      rintro e w4 ⟨v4, ts4, rfl, -, hr4, hk4, hf4⟩
      rw [HST2.out] at hk4
      obtain ⟨A4, c4, rfl, -⟩ := hr4.val
      have EKF := hid (And.intro hk4 (HBW.out.trans (hf4.below (B := w.heap.size) HBW.out.size (fun i hi g => by unfold Uo at g; omega))))
      clear hr4 hk4 hf4 HG cU
      have hO : w4.cell? ⟨w.heap.size + 1 + 1 + 1, 0, none⟩ = some (.bool bo) := Lib.cell_of_heap EKF.out.1.bo 0
      have hT : w4.cell? ⟨w.heap.size + 1 + 1 + 1 + 1, 0, none⟩ = some (.bool bt) := Lib.cell_of_heap EKF.out.1.bt 0
      have hL : w4.cell? ⟨w.heap.size + 1 + 1 + 1 + 1 + 1, 0, none⟩ = some (.bool bl) := Lib.cell_of_heap EKF.out.1.bl 0
      have EX := hid EKF.out.2
      cases bo with
      | true =>
        go_wp2_with fail
        go_ret
        exact ⟨rfl, EX.out⟩
      | false =>
        cases bt with
        | true =>
          go_wp2_with fail
          go_ret
          exact ⟨rfl, EX.out⟩
        | false =>
          cases bl with
          | true =>
            go_wp2_with fail
            go_ret
            exact ⟨rfl, EX.out⟩
          | false =>
            go_wp2_with fail
            go_ret
            exact ⟨rfl, EX.out⟩
end Go.Proofs.Ytkkigdbinnfbfaa
