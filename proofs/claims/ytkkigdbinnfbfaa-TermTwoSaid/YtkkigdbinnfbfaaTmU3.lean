/-
  The walk of what term's Put makes at a node. Conditions: at most 10000 nodes are made.
-/
import Derived.Test.YtkkigdbinnfbfaaTmE5
import Derived.Test.YtkkigdbinnfbfaaTmU1
namespace Go.Proofs.Ytkkigdbinnfbfaa
open Go.RowKit

/-- The boxes of Put: n, u, more. -/
structure PK (C bm : Nat) (n : Int) (vu : Value) (u : List L.Nd) (vm : Value) (more : List VT) (w : World) : Prop where
  bn : w.heap[C]? = some (.cells #[.int .i64 n] 3 (0, 0))
  bu : w.heap[C + 1]? = some (.cells #[vu] 23 (0, 0))
  bb : w.heap[bm]? = some (.cells #[vm] 27 (0, 0))
  ru : Rd w C vu u
  rm : RdR w bm vm more
  lt : C + 1 < bm
theorem PK.keep {C bm : Nat} {n : Int} {vu vm : Value} {u : List L.Nd} {more : List VT} {P : Nat → Prop} {w w' : World} (h : PK C bm n vu u vm more w) (hf : Fr P w w') (hp : ∀ i, P i → bm < i) : PK C bm n vu u vm more w' :=
  ⟨hf.heap h.bn (fun g => by have := hp _ g; have := h.lt; omega), hf.heap h.bu (fun g => by have := hp _ g; have := h.lt; omega), hf.heap h.bb (fun g => by have := hp _ g; omega),
    h.ru.fr hf (fun b hb g => by have := hp _ g; have := Blk.lt h.ru hb; have := h.lt; omega), h.rm.fr (hf.mono fun i _ g => by have := hp _ g; omega), h.lt⟩
theorem PK.below {C bm : Nat} {n : Int} {vu vm : Value} {u : List L.Nd} {more : List VT} {w w' : World} (h : PK C bm n vu u vm more w) (hb : Below w.heap.size w w') : PK C bm n vu u vm more w' := h.keep (Fr.of_below (P := fun _ => False) hb) (fun _ g => g.elim)

/-- What is asked of each node. -/
def PZ (n : Int) (u : List L.Nd) (more : List (List L.Nd)) (x : L.Nd) (kf : L.Fo) : Prop := (L.Fo.cons x kf .nil).ok = true ∧ x.n ≤ 9223372036854775807 ∧ (L.extL n (L.putK n u more kf) more).flatten.length ≤ 10000

theorem enter_put1 (args : Array Value) (W : World) : (callFunc 21 args).run Try.prog W = .ok (.enter 21 args) W := by kernel_rfl
theorem ext_catT {n : Int} {ks more : List VT} : catT (extT n ks more) = (L.extL n (ks.map (·.2)) (more.map (·.2))).flatten := by
  unfold catT
  rw [List.flatMap_def, extT_map]

/-- A row of types does not lie in a node's box. -/
theorem row_set {w w1 : World} {B g j : Nat} {v : Value} {ts : List VT} (h : RdR w1 w1.heap.size v ts) {a b c : Value} (hb : w1.heap[g]? = some (.cells #[a, b, c] 39 (0, 0))) (ha : ∀ A n k, a ≠ .slice A n k) (hb2 : ∀ A n k, b ≠ .slice A n k) (hc : ∀ A n k, c ≠ .slice A n k)
    (hr : ∀ t ∈ ts, Rd w B t.1 t.2) (hB : B ≤ w1.heap.size) (V : Value) (hbe : Below B w (w1.setCell ⟨g, j, none⟩ V)) : RdR (w1.setCell ⟨g, j, none⟩ V) (w1.setCell ⟨g, j, none⟩ V).heap.size v ts := by
  have hs : (w1.setCell ⟨g, j, none⟩ V).heap.size = w1.heap.size := by simp
  rw [hs]
  obtain ⟨⟨A, cap, hv, h1, h2, h3, hx⟩, hrd⟩ := h
  refine ⟨⟨A, cap, hv, h1, h2, h3, fun hn => ?_⟩, fun t ht => ((hr t ht).low hbe).mono hB⟩
  obtain ⟨b', o, e, hlt, hcell⟩ := hx hn
  have hne : b' ≠ g := by
    rintro rfl
    obtain ⟨t, ht⟩ := List.exists_mem_of_ne_nil ts hn
    obtain ⟨i, hi, rfl⟩ := List.getElem_of_mem ht
    have hc1 := hcell i hi
    obtain ⟨A2, c2, e2, -⟩ := (hrd _ (List.getElem_mem hi)).len
    rw [e2] at hc1
    have hc2 := Lib.cell_of_heap hb (o + i)
    rw [hc2] at hc1
    rcases (by omega : o + i = 0 ∨ o + i = 1 ∨ o + i = 2 ∨ 3 ≤ o + i) with e3 | e3 | e3 | e3
    · rw [e3] at hc1; simp at hc1; exact ha _ _ _ hc1
    · rw [e3] at hc1; simp at hc1; exact hb2 _ _ _ hc1
    · rw [e3] at hc1; simp at hc1; exact hc _ _ _ hc1
    · rw [Array.getElem?_eq_none (by simpa using e3)] at hc1; cases hc1
  refine ⟨b', o, e, hlt, fun i hi => ?_⟩
  exact (World.cell?_of_block (a := ⟨b', o + i, none⟩) (heap_setCell_other w1 ⟨g, j, none⟩ b' V hne)).trans (hcell i hi)

set_option maxHeartbeats 8000000 in
set_option maxRecDepth 100000 in
theorem put_join (C bm : Nat) (n : Int) (vu vm : Value) (u : List L.Nd) (hu0 : u ≠ []) (hul : u.length ≤ 10000) (more : List VT) (hm0 : ∀ t ∈ more, t.2 ≠ []) (hmn : more.length ≤ 100) {B1 : Nat} :
    JoinOk (L.putJ' n u (more.map (·.2))) (fun _ => PK C bm n vu u vm more) (fun _ => False) (PZ n u (more.map (·.2))) B1 21 #[.pointer (some ⟨C, 0, none⟩), .pointer (some ⟨C + 1, 0, none⟩), .pointer (some ⟨bm, 0, none⟩)] := by
  intro s0 s x kf kv ks w hz hks hB hK hr
  obtain ⟨hok, hbig, hsz⟩ := hz
  have hkm : ks.map (·.2) = L.putK n u (more.map (·.2)) kf := (congrArg (·.2) hks).symm
  simp only [L.Fo.ok, Bool.and_eq_true, decide_eq_true_eq] at hok
  obtain ⟨⟨⟨⟨hn, hm⟩, -⟩, -⟩, -⟩ := hok
  have hb50 := L.many_of_numbered hn
  have hc50 : kf.count ≤ 50 := by omega
  have hkn : ks.length = kf.count := by rw [← List.length_map (f := fun t : VT => t.2), hkm, L.putK_len]
  have h0 : ∀ t ∈ ks, t.2 ≠ [] := fun t ht => L.putK_ne hu0 _ kf t.2 (by rw [← hkm]; exact List.mem_map_of_mem ht)
  have hk50 : ks.length ≤ 50 := by omega
  have hel := extT_len n ks more
  have hcat : (catT (extT n ks more)).length ≤ 10000 := by rw [ext_catT, hkm]; exact hsz
  have hnx : 0 ≤ x.n := by
    unfold L.numbered at hn
    repeat' split at hn
    all_goals simp at hn
    all_goals omega
  -- a node with children has a small number
  have hnk : (ks.length = 0 ∧ (extT n ks more).length = 0) ∨ x.n ≤ 50 := by
    by_cases hz : kf.count = 0
    · left
      have : ks = [] := List.eq_nil_of_length_eq_zero (by omega)
      subst this
      exact ⟨rfl, rfl⟩
    · right
      unfold L.many at hm
      unfold L.numbered at hn
      split at hm
      · rename_i h5
        simp [h5] at hn
        omega
      · split at hm
        · omega
        · omega
  have HG : Hid (∀ v' W', Own w.heap.size v' (L.putJ n u (more.map (·.2)) x (ks.map (·.2))) W' → Below w.heap.size w W' →
      ∃ v, Ending.returned v' = Ending.returned v ∧ Rd W' W'.heap.size v (L.putJ' n u (more.map (·.2)) s x (ks.map (·.2))).2 ∧ (∀ b, Blk v (L.putJ' n u (more.map (·.2)) s x (ks.map (·.2))).2 b → w.heap.size ≤ b) ∧ PK C bm n vu u vm more W' ∧ Fr (fun i => False ∨ kv.ownBlock = some i) w W') := hid fun v' W' ho hf => ⟨v', rfl, ho.rd, fun b hb => ho.blk hb, hK.below hf, Fr.of_below hf⟩
  have HJ : Hid (L.putJ n u (more.map (·.2)) x (ks.map (·.2)) = if x.kind = 8 ∧ x.n = n then L.setName u x.name else ⟨x.kind, x.name, x.n + ((extT n ks more).length - (ks.length : Int))⟩ :: catT (extT n ks more)) := hid (by
    unfold L.putJ
    rw [ext_catT, List.length_map, ← extT_map, List.length_map])
  have HE := hid (fun (W : World) (hW : Below w.heap.size w W) (vm' : Value) (hm : RdR W W.heap.size vm' more) => extended_any ks more h0 hm0 (by omega) (by omega) n kv vm' W (hr.rdr.upon hW) hm)
  have HTS := hid (fun t (ht : t ∈ extT n ks more) => show Rd w w.heap.size t.1 t.2 from (extT_mem ht).elim (hr.rd t) (fun g => (hK.rm.2 t g).mono (by have := heap_lt hK.bb; omega)))
  obtain ⟨k1, s1, n1⟩ := x
  simp only at hbig hnx hnk
  have HNK := hid hnk
  have HB0 := hid (below_new (w := w) (.cells #[.int .i64 k1, .string s1, .int .i64 n1] 39))
  have HLB := hid (fun (W : World) (hW : Rd W W.heap.size vu u) => tlabelled_any u hu0 (by omega) vu s1 W hW)
  have HK := hid hK
  have cN : w.cell? ⟨C, 0, none⟩ = some (.int .i64 n) := Lib.cell_of_heap hK.bn 0
  have cU : w.cell? ⟨C + 1, 0, none⟩ = some vu := Lib.cell_of_heap hK.bu 0
  have cM : w.cell? ⟨bm, 0, none⟩ = some vm := Lib.cell_of_heap hK.bb 0
  have hlb := heap_lt hK.bb
  have hlt := hK.lt
  have h1 : C < w.heap.size := by omega
  have h2 : C + 1 < w.heap.size := by omega
  have HRU := hid (((hK.ru.below HB0.out).mono (show C ≤ (w.alloc (.cells #[.int .i64 k1, .string s1, .int .i64 n1] 39)).heap.size by simp; omega)))
  have HRM := hid (((hK.rm.below HB0.out).mono (show bm ≤ (w.alloc (.cells #[.int .i64 k1, .string s1, .int .i64 n1] 39)).heap.size by simp; omega)))
  obtain ⟨Ak, ck, rfl, hk1, hk2⟩ := hr.val
  obtain ⟨Au, cu, rfl, hu1, hu2⟩ := hK.ru.len
  obtain ⟨Am, cm, rfl, hm1, hm2⟩ := hK.rm.val
  unfold maxLen at hk2 hu2 hm2
  clear hks hkm hK hr hn hm hb50 h0 hm0 hsz hu0 hkn hnk
  by_cases h8 : k1 = 8 ∧ n1 = n
  · obtain ⟨rfl, rfl⟩ := h8
    rw [if_pos ⟨rfl, rfl⟩] at HJ
    go_enter Try.func21, Try.ntmps21
    go_wp2_with fail
    refine (HLB.out _ HRU.out).mono ?_
    rintro e w1 ⟨v1, rfl, hO, hb⟩
    have EX := hid (HG.out v1 w1 (by rw [HJ.out]; exact hO.more (by simp)) (HB0.out.trans (hb.mono (by simp))))
    clear hO hb HG HJ
    go_wp2_with fail
    go_ret
    exact EX.out
  · rw [if_neg h8] at HJ
    have hcond : (k1 == 8) = false ∨ (k1 = 8 ∧ (n1 == n) = false) := by
      by_cases e : k1 = 8
      · right; exact ⟨e, by simpa using fun g => h8 ⟨e, g⟩⟩
      · left; simpa using e
    clear h8
    go_enter Try.func21, Try.ntmps21
    rcases hcond with e8 | ⟨rfl, en⟩
    · go_wp2_with fail
      refine (HE.out _ HB0.out _ HRM.out).mono ?_
      rintro e w1 ⟨va, rfl, hra, hb1⟩
      have B1' := hid (HB0.out.trans (hb1.mono HB0.out.size))
      have hbx : w1.heap[w.heap.size]? = some (.cells #[.int .i64 k1, .string s1, .int .i64 n1] 39 (0, 0)) := (hb1.block _ (by simp)).trans (heap_alloc_new _ _)
      have HRA := hid hra
      have HBXX := hid hbx
      obtain ⟨Aa, ca, rfl, ha1, ha2⟩ := hra.val
      unfold maxLen at ha2
      have c0 := Lib.cell_of_heap hbx 0
      have c1 := Lib.cell_of_heap hbx 1
      have c2 := Lib.cell_of_heap hbx 2
      have g2 : w1.frozen? ⟨w.heap.size, 2, none⟩ = false := Lib.frozen_of_heap hbx 2
      simp only [List.getElem?_toArray] at c0 c1 c2
      have hzx := heap_lt hbx
      have hset := hid (fun (V : Value) => show Below w.heap.size w (w1.setCell ⟨w.heap.size, 2, none⟩ V) ∧ RdR (w1.setCell ⟨w.heap.size, 2, none⟩ V) (w1.setCell ⟨w.heap.size, 2, none⟩ V).heap.size (.slice Aa (extT n ks more).length ca) (extT n ks more) from by
        have hbe : Below w.heap.size w (w1.setCell ⟨w.heap.size, 2, none⟩ V) := B1'.out.setCell (p := ⟨w.heap.size, 2, none⟩) (Nat.le_refl _) V
        exact ⟨hbe, row_set HRA.out HBXX.out (fun _ _ _ => by simp) (fun _ _ _ => by simp) (fun _ _ _ => by simp) HTS.out B1'.out.size V hbe⟩)
      clear hbx hra hb1
      obtain ⟨le, hle⟩ : ∃ le, le = (extT n ks more).length := ⟨_, rfl⟩
      have HLE := hid hle
      have hnk2 : -9223372036854775808 ≤ n1 + ((le : Int) - (ks.length : Int)) ∧ n1 + ((le : Int) - (ks.length : Int)) ≤ 9223372036854775807 := by have hnk := HNK.out; rw [hle]; omega
      rw [← hle] at ha1 ⊢
      have hle2 : le ≤ 1000 := by omega
      clear hle
      have HT := hid (fun (N : Int) => tree_any ⟨k1, s1, N⟩ (extT n ks more) (.slice Aa le ca) (w1.setCell ⟨w.heap.size, 2, none⟩ (.int .i64 N)) (by rw [HLE.out]; exact (hset.out _).2) (by rw [← HLE.out]; exact hle2) (by omega))
      go_wp2_with fail
      refine (HT.out (n1 + ((le : Int) - (ks.length : Int)))).mono ?_
      rintro e w5 ⟨v5, rfl, hO, hb5⟩
      have EX := hid (HG.out v5 w5 (by rw [HJ.out, ← HLE.out]; exact hO.more (hset.out _).1.size) ((hset.out _).1.trans (hb5.mono (hset.out _).1.size)))
      clear hO hb5 HG HJ HT
      go_wp2_with fail
      go_ret
      exact EX.out
    · go_wp2_with fail
      refine (HE.out _ HB0.out _ HRM.out).mono ?_
      rintro e w1 ⟨va, rfl, hra, hb1⟩
      have B1' := hid (HB0.out.trans (hb1.mono HB0.out.size))
      have hbx : w1.heap[w.heap.size]? = some (.cells #[.int .i64 8, .string s1, .int .i64 n1] 39 (0, 0)) := (hb1.block _ (by simp)).trans (heap_alloc_new _ _)
      have HRA := hid hra
      have HBXX := hid hbx
      obtain ⟨Aa, ca, rfl, ha1, ha2⟩ := hra.val
      unfold maxLen at ha2
      have c0 := Lib.cell_of_heap hbx 0
      have c1 := Lib.cell_of_heap hbx 1
      have c2 := Lib.cell_of_heap hbx 2
      have g2 : w1.frozen? ⟨w.heap.size, 2, none⟩ = false := Lib.frozen_of_heap hbx 2
      simp only [List.getElem?_toArray] at c0 c1 c2
      have hzx := heap_lt hbx
      have hset := hid (fun (V : Value) => show Below w.heap.size w (w1.setCell ⟨w.heap.size, 2, none⟩ V) ∧ RdR (w1.setCell ⟨w.heap.size, 2, none⟩ V) (w1.setCell ⟨w.heap.size, 2, none⟩ V).heap.size (.slice Aa (extT n ks more).length ca) (extT n ks more) from by
        have hbe : Below w.heap.size w (w1.setCell ⟨w.heap.size, 2, none⟩ V) := B1'.out.setCell (p := ⟨w.heap.size, 2, none⟩) (Nat.le_refl _) V
        exact ⟨hbe, row_set HRA.out HBXX.out (fun _ _ _ => by simp) (fun _ _ _ => by simp) (fun _ _ _ => by simp) HTS.out B1'.out.size V hbe⟩)
      clear hbx hra hb1
      obtain ⟨le, hle⟩ : ∃ le, le = (extT n ks more).length := ⟨_, rfl⟩
      have HLE := hid hle
      have hnk2 : -9223372036854775808 ≤ n1 + ((le : Int) - (ks.length : Int)) ∧ n1 + ((le : Int) - (ks.length : Int)) ≤ 9223372036854775807 := by have hnk := HNK.out; rw [hle]; omega
      rw [← hle] at ha1 ⊢
      have hle2 : le ≤ 1000 := by omega
      clear hle
      have HT := hid (fun (N : Int) => tree_any ⟨8, s1, N⟩ (extT n ks more) (.slice Aa le ca) (w1.setCell ⟨w.heap.size, 2, none⟩ (.int .i64 N)) (by rw [HLE.out]; exact (hset.out _).2) (by rw [← HLE.out]; exact hle2) (by omega))
      go_wp2_with fail
      refine (HT.out (n1 + ((le : Int) - (ks.length : Int)))).mono ?_
      rintro e w5 ⟨v5, rfl, hO, hb5⟩
      have EX := hid (HG.out v5 w5 (by rw [HJ.out, ← HLE.out]; exact hO.more (hset.out _).1.size) ((hset.out _).1.trans (hb5.mono (hset.out _).1.size)))
      clear hO hb5 HG HJ HT
      go_wp2_with fail
      go_ret
      exact EX.out
end Go.Proofs.Ytkkigdbinnfbfaa
