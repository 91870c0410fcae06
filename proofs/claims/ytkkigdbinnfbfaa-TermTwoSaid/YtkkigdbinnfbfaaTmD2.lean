/-
  The walk of term.Ground. Condition: a type, of at most 10000 nodes.
-/
import Derived.Test.YtkkigdbinnfbfaaTmD1
import Derived.Test.YtkkigdbinnfbfaaTmF
import Derived.Test.YtkkigdbinnfbfaaTmG1
import Derived.Test.YtkkigdbinnfbfaaTmG
import Derived.Test.YtkkigdbinnfbfaaTmP
namespace Go.Proofs.Ytkkigdbinnfbfaa.L
open Go
/-- What is made of a node and of what was made of its children. -/
def groundJ (x : Nd) (kl : List (List Nd)) : List Nd :=
  if x.kind = 9 then [] else
  if x.kind = 8 ∨ (x.kind = 7 ∧ x.n + ((kl.filter fun l => !l.isEmpty).length - (kl.length : Int)) = 0) then [⟨4, x.name, 0⟩]
  else ⟨x.kind, x.name, x.n + ((kl.filter fun l => !l.isEmpty).length - (kl.length : Int))⟩ :: (kl.filter fun l => !l.isEmpty).flatten
abbrev groundJ' : Unit → Nd → List (List Nd) → Unit × List Nd := fun _ x kl => ((), groundJ x kl)
theorem filter_flat : ∀ kl : List (List Nd), (kl.filter fun l => !l.isEmpty).flatten = kl.flatten
  | [] => rfl
  | [] :: r => by simp [filter_flat r]
  | (x :: l) :: r => by simp [filter_flat r]
theorem fold_unit (f : Fo) (s : Unit) : (foldF groundJ' s f) = ((), (foldF groundJ' () f).2) := rfl
theorem ground_one {x : Nd} {ks : Fo} (hm : many x = ks.count) (hs : Fo.stand x 0 ⟨#[]⟩ ks = true) {kl : List (List Nd)} (h1 : kl.flatten = ks.ground.flat) (h2 : (kl.filter fun l => !l.isEmpty).length = ks.ground.count) (h3 : kl.length = ks.count) : groundJ x kl = (Fo.cons x ks .nil).ground.flat := by
  unfold groundJ
  rw [filter_flat, h1, h2, h3, Fo.ground]
  by_cases h9 : x.kind = 9
  · rw [if_pos h9, if_pos h9]; rfl
  rw [if_neg h9, if_neg h9]
  by_cases h8 : x.kind = 8
  · rw [if_pos (Or.inl h8), if_pos h8]; rfl
  rw [if_neg h8]
  by_cases h67 : x.kind = 6 ∨ x.kind = 7
  · have hmx : many x = x.n := by unfold many; rw [if_neg (by omega), if_pos h67]
    by_cases h7 : x.kind = 7 ∧ ks.ground.count = 0
    · rw [if_pos (Or.inr ⟨h7.1, by omega⟩), if_pos h7]; rfl
    · rw [if_neg (by
        rintro (g | ⟨g1, g2⟩)
        · exact h8 g
        · exact h7 ⟨g1, by omega⟩), if_neg h7, if_pos h67]
      have : x.n + ((ks.ground.count : Int) - (ks.count : Int)) = (ks.ground.count : Int) := by omega
      rw [this]
      simp [Fo.flat, ground_nil]
  · rw [if_neg (by omega), if_neg (by omega), if_neg h67]
    have : x.n + ((ks.ground.count : Int) - (ks.count : Int)) = x.n := by
      by_cases h5 : x.kind = 5
      · rw [ground_arrow h5 ks 0 _ hs]; omega
      · have h0 : many x = 0 := by unfold many; rw [if_neg h5, if_neg h67]
        have : ks = .nil := ok_nil_of (by omega)
        subst this
        simp [ground_nil, Fo.count]
    rw [this]
    simp [Fo.flat, ground_nil]
theorem ground_fold : ∀ f : Fo, f.ok = true → (foldF groundJ' () f).2.flatten = f.ground.flat ∧ ((foldF groundJ' () f).2.filter fun l => !l.isEmpty).length = f.ground.count ∧ (foldF groundJ' () f).2.length = f.count
  | .nil, _ => ⟨rfl, rfl, rfl⟩
  | .cons x ks r, h => by
    simp only [Fo.ok, Bool.and_eq_true, decide_eq_true_eq] at h
    obtain ⟨⟨⟨⟨hn, hm⟩, hs⟩, hk⟩, hr⟩ := h
    obtain ⟨k1, k2, k3⟩ := ground_fold ks hk
    obtain ⟨r1, r2, r3⟩ := ground_fold r hr
    have hb := ground_one hm hs k1 k2 k3
    have e : (foldF groundJ' () (.cons x ks r)).2 = groundJ x (foldF groundJ' () ks).2 :: (foldF groundJ' () r).2 := rfl
    rw [e, hb]
    by_cases h9 : x.kind = 9
    · rw [ground_9 h9, ground_9 h9]
      refine ⟨?_, ?_, ?_⟩
      · simp [ground_nil, Fo.flat, r1]
      · simp [ground_nil, Fo.flat, r2]
      · simp [Fo.count, r3]
    · obtain ⟨y, k', e1, -, -, e2⟩ := ground_head h9 ks r
      rw [e1, e2]
      refine ⟨?_, ?_, ?_⟩
      · simp [Fo.flat, r1]
      · simp [Fo.flat, Fo.count, r2]
      · simp [Fo.count, r3]
/-- At most the last of a row is empty. -/
theorem ground_last : ∀ f : Fo, f.ok = true → f.ends = true → (∀ l ∈ (foldF groundJ' () f).2, l ≠ []) ∨ ∃ init, (foldF groundJ' () f).2 = init ++ [[]] ∧ ∀ l ∈ init, l ≠ []
  | .nil, _, _ => Or.inl (by simp [foldF])
  | .cons x ks r, h, he => by
    simp only [Fo.ok, Bool.and_eq_true, decide_eq_true_eq] at h
    obtain ⟨⟨⟨⟨hn, hm⟩, hs⟩, hk⟩, hr⟩ := h
    simp only [Fo.ends, Bool.and_eq_true, Bool.or_eq_true, Bool.not_eq_true', decide_eq_false_iff_not, decide_eq_true_eq] at he
    have e : (foldF groundJ' () (.cons x ks r)).2 = groundJ x (foldF groundJ' () ks).2 :: (foldF groundJ' () r).2 := rfl
    rw [e]
    by_cases h9 : x.kind = 9
    · have h0 := he.1.resolve_left (fun g => g h9)
      have : r = .nil := ok_nil_of h0
      subst this
      refine Or.inr ⟨[], ?_, by simp⟩
      simp [groundJ, h9, foldF]
    · have hne : groundJ x (foldF groundJ' () ks).2 ≠ [] := by
        unfold groundJ
        rw [if_neg h9]
        split <;> simp
      rcases ground_last r hr he.2 with h1 | ⟨init, h1, h2⟩
      · refine Or.inl fun l hl => ?_
        rcases List.mem_cons.1 hl with rfl | hl
        · exact hne
        · exact h1 l hl
      · refine Or.inr ⟨groundJ x (foldF groundJ' () ks).2 :: init, by rw [h1]; rfl, fun l hl => ?_⟩
        rcases List.mem_cons.1 hl with rfl | hl
        · exact hne
        · exact h2 l hl
end Go.Proofs.Ytkkigdbinnfbfaa.L
namespace Go.Proofs.Ytkkigdbinnfbfaa
open Go.RowKit

theorem full_map (ks : List VT) : (fullT ks).map (·.2) = (ks.map (·.2)).filter fun l => !l.isEmpty := by
  unfold fullT
  induction ks with
  | nil => rfl
  | cons t r ih =>
    by_cases h : t.2.isEmpty = true
    · simp [h, ih]
    · simp [h, ih]
theorem catT_map (ts : List VT) : catT ts = (ts.map (·.2)).flatten := by
  unfold catT
  rw [List.flatMap_def]
theorem lastE_of {ks : List VT} {f : L.Fo} (hk : (L.foldF L.groundJ' () f).2 = ks.map (·.2)) (ho : f.ok = true) (he : f.ends = true) : LastE ks := by
  rcases L.ground_last f ho he with h | ⟨init, h1, h2⟩
  · exact Or.inl fun t ht => h _ (by rw [hk]; exact List.mem_map_of_mem ht)
  · rw [hk] at h1
    have hlen : ks.length = init.length + 1 := by simpa using congrArg List.length h1
    have hne : ks ≠ [] := by intro e; subst e; simp at hlen
    have hd := List.dropLast_concat_getLast hne
    rw [← hd, List.map_append] at h1
    have h3 := List.append_inj' h1 (by simp)
    refine Or.inr ⟨ks.dropLast, ks.getLast hne, hd.symm, by simpa using h3.2, fun t ht => h2 _ (by rw [← h3.1]; exact List.mem_map_of_mem ht)⟩

/-- What is asked of each node, with its children. -/
def GZ (x : L.Nd) (kf : L.Fo) : Prop := (L.Fo.cons x kf .nil).ok = true ∧ kf.flat.length ≤ 10000 ∧ x.n ≤ 9223372036854775807
theorem all_gz : ∀ (f : L.Fo), f.ok = true → f.flat.length ≤ 10000 → (∀ x ∈ f.flat, x.n ≤ 9223372036854775807) → L.Fo.all GZ f
  | .nil, _, _, _ => trivial
  | .cons x ks r, h, hl, hw => by
    have h' := h
    simp only [L.Fo.ok, Bool.and_eq_true] at h
    simp only [L.Fo.flat, List.length_cons, List.length_append] at hl
    simp only [L.Fo.flat, List.mem_cons, List.mem_append] at hw
    refine ⟨⟨?_, by omega, hw x (Or.inl rfl)⟩, all_gz ks h.1.2 (by omega) (fun y hy => hw y (Or.inr (Or.inl hy))), all_gz r h.2 (by omega) (fun y hy => hw y (Or.inr (Or.inr hy)))⟩
    simp only [L.Fo.ok, Bool.and_eq_true]
    exact ⟨h.1, trivial⟩

set_option maxHeartbeats 4000000 in
set_option maxRecDepth 100000 in
theorem ground_join (B1 : Nat) : JoinOk L.groundJ' (fun _ _ => True) (fun _ => False) GZ B1 28 #[] := by
  intro s0 s x kf kv ks w hz hks hB _ hr
  obtain ⟨hok, hlen, hbig⟩ := hz
  simp only [L.Fo.ok, Bool.and_eq_true, decide_eq_true_eq] at hok
  obtain ⟨⟨⟨⟨hn, hm⟩, hs⟩, hk⟩, -⟩ := hok
  have hkl : (L.foldF L.groundJ' () kf).2 = ks.map (·.2) := congrArg (·.2) hks
  obtain ⟨f1, f2, f3⟩ := L.ground_fold kf hk
  have hb50 := L.many_of_numbered hn
  have hkn : ks.length = kf.count := by
    have := congrArg List.length hkl
    rw [f3, List.length_map] at this
    exact this.symm
  have hE := lastE_of hkl hk (L.kids_ends hm hs)
  have hcat : (catT (fullT ks)).length ≤ 10000 := by
    rw [catT_map, full_map, L.filter_flat, ← hkl, f1]
    have := L.ground_len kf
    omega
  have hfl : (fullT ks).length ≤ ks.length := List.length_filter_le _ _
  have hn50 : ks.length ≤ 50 := by omega
  have HD := hid (fun (W : World) (hW : Below w.heap.size w W) => delete_any ks hE (by omega) kv W (hr.below hW) (hr.rdr.below hW))
  have HG : Hid (∀ v' W', Own w.heap.size v' (L.groundJ x (ks.map (·.2))) W' → Fr (fun i => kv.ownBlock = some i) w W' →
      ∃ v, Ending.returned v' = Ending.returned v ∧ Rd W' W'.heap.size v (L.groundJ' s x (ks.map (·.2))).2 ∧ (∀ b, Blk v (L.groundJ' s x (ks.map (·.2))).2 b → w.heap.size ≤ b) ∧ True ∧ Fr (fun i => False ∨ kv.ownBlock = some i) w W') := hid fun v' W' ho hf => ⟨v', rfl, ho.rd, fun b hb => ho.blk hb, trivial, hf.mono fun i _ g => Or.inr g⟩
  have hJ : L.groundJ x (ks.map (·.2)) = if x.kind = 9 then [] else if x.kind = 8 ∨ (x.kind = 7 ∧ x.n + ((fullT ks).length - (ks.length : Int)) = 0) then [⟨4, x.name, 0⟩] else ⟨x.kind, x.name, x.n + ((fullT ks).length - (ks.length : Int))⟩ :: catT (fullT ks) := by
    unfold L.groundJ
    rw [← full_map, List.length_map, List.length_map, catT_map]
  have HJ := hid hJ
  have hlo : ∀ b, kv.ownBlock = some b → b < w.heap.size := fun b hb => (World.ownsRow.lt hr.own b hb).2
  have HLO := hid hlo
  have hnn : 0 ≤ x.n := by
    unfold L.numbered at hn
    repeat' split at hn
    all_goals simp at hn
    all_goals omega
  obtain ⟨A, cap, rfl, hc1, hc2⟩ := hr.val
  unfold maxLen at hc2
  obtain ⟨k1, s1, n1⟩ := x
  simp only at hJ HJ
  clear hks hr hn hm hs hk hkl f1 f2 f3 hE hJ hlo hb50 hkn hlen
  simp only at hbig hnn
  go_enter Try.func28, Try.ntmps28
  go_wp2_with fail
  refine (HD.out _ (below_new _)).mono ?_
  rintro e w1 ⟨vl, rfl, hR1, hf1⟩
  have hbx : w1.heap[w.heap.size]? = some (.cells #[.int .i64 k1, .string s1, .int .i64 n1] 39 (0, 0)) := hf1.heap (heap_alloc_new _ _) (fun g => by have := HLO.out _ g; omega)
  have HBX := hid hbx
  have c0 := Lib.cell_of_heap hbx 0
  have c1 := Lib.cell_of_heap hbx 1
  have c2 := Lib.cell_of_heap hbx 2
  have g2 : w1.frozen? ⟨w.heap.size, 2, none⟩ = false := Lib.frozen_of_heap hbx 2
  simp only [List.getElem?_toArray] at c0 c1 c2
  have HR1 := hid hR1
  have HF1 := hid hf1
  obtain ⟨⟨Al, cl, rfl, hl1, hl2, -⟩, -⟩ := hR1
  unfold maxLen at hl2
  have hz1 := heap_lt hbx
  clear hf1 hbx HD
  have HF2 := hid (fun (V : Value) => show Fr (fun i => (Value.slice A ks.length cap).ownBlock = some i) w (w1.setCell ⟨w.heap.size, 2, none⟩ V) from
    ((Fr.of_below (below_new _)).trans HF1.out).then (Q := fun i => i = w.heap.size) ⟨rfl, rfl, rfl, by simp, fun i hi g => heap_setCell_other w1 ⟨w.heap.size, 2, none⟩ i _ g⟩ (fun i hi g => by omega))
  have HR2 := hid (fun (V : Value) => (HR1.out.fr (w' := w1.setCell ⟨w.heap.size, 2, none⟩ V) ⟨rfl, rfl, rfl, by simp, fun i hi g => heap_setCell_other w1 ⟨w.heap.size, 2, none⟩ i _ (fun e => g (by have e2 : i = w.heap.size := e; omega))⟩).mono (B' := (w1.setCell ⟨w.heap.size, 2, none⟩ V).heap.size) (by simp; omega))
  by_cases h9 : k1 = 9
  · subst h9
    rw [if_pos rfl] at HJ
    have EX := hid (HG.out (.slice none 0 0) _ (by rw [HJ.out]; exact Own.nil _ _) (HF2.out (.int .i64 (n1 + (((fullT ks).length : Int) - (ks.length : Int))))))
    clear HJ
    go_wp2_with fail
    go_ret
    exact EX.out
  have e9 : (k1 == 9) = false := by simpa using h9
  rw [if_neg h9] at HJ
  have hlit := hid (fun (h : L.groundJ ⟨k1, s1, n1⟩ (ks.map (·.2)) = [⟨4, s1, 0⟩]) =>
    HG.out (.slice (some ⟨w1.heap.size, 0, none⟩) 1 1) ((w1.setCell ⟨w.heap.size, 2, none⟩ (.int .i64 (n1 + (((fullT ks).length : Int) - (ks.length : Int))))).alloc (.cells #[.int .i64 4, .string s1, .int .i64 0] 39)) (by
      rw [h]
      have := lit_own (w1.setCell ⟨w.heap.size, 2, none⟩ (.int .i64 (n1 + (((fullT ks).length : Int) - (ks.length : Int))))) w.heap.size (by simp; omega) 4 0 s1
      simpa using this) ((HF2.out _).trans (Fr.of_below (below_new _))))
  by_cases h8 : k1 = 8
  · subst h8
    rw [if_pos (Or.inl rfl)] at HJ
    have EX := hid (hlit.out HJ.out)
    clear HJ hlit
    go_wp2_with fail
    go_ret
    exact EX.out
  have e8 : (k1 == 8) = false := by simpa using h8
  have htree : Hid (¬(k1 = 8 ∨ k1 = 7 ∧ n1 + (((fullT ks).length : Int) - (ks.length : Int)) = 0) → ∀ e W', OwnPost (treeL ⟨k1, s1, n1 + (((fullT ks).length : Int) - (ks.length : Int))⟩ (fullT ks)) (w1.setCell ⟨w.heap.size, 2, none⟩ (.int .i64 (n1 + (((fullT ks).length : Int) - (ks.length : Int))))) e W' →
      ∃ v, e = Ending.returned v ∧ ∃ v', Ending.returned v = Ending.returned v' ∧ Rd W' W'.heap.size v' (L.groundJ' s ⟨k1, s1, n1⟩ (ks.map (·.2))).2 ∧ (∀ b, Blk v' (L.groundJ' s ⟨k1, s1, n1⟩ (ks.map (·.2))).2 b → w.heap.size ≤ b) ∧ True ∧ Fr (fun i => False ∨ (Value.slice A ks.length cap).ownBlock = some i) w W') := hid (by
    rintro h e W' ⟨v3, rfl, hO3, hb3⟩
    refine ⟨v3, rfl, HG.out v3 W' ?_ ((HF2.out _).trans (Fr.of_below hb3))⟩
    rw [HJ.out, if_neg h]
    exact hO3.more (by simp; omega))
  by_cases h7 : k1 = 7
  · subst h7
    by_cases hN : n1 + (((fullT ks).length : Int) - (ks.length : Int)) = 0
    · have EX := hid (hlit.out (by rw [HJ.out, if_pos (Or.inr ⟨rfl, hN⟩)]))
      have eN : (n1 + (((fullT ks).length : Int) - (ks.length : Int)) == 0) = true := by simpa using hN
      clear HJ hlit hN htree
      go_wp2_with fail
      go_ret
      exact EX.out
    · have eN : (n1 + (((fullT ks).length : Int) - (ks.length : Int)) == 0) = false := by simpa using hN
      have HT := hid (htree.out (by rintro (g | ⟨-, g⟩); exact h8 g; exact hN g))
      clear HJ hlit hN htree h8
      go_wp2_with fail
      refine (tree_any ⟨7, s1, n1 + (((fullT ks).length : Int) - (ks.length : Int))⟩ (fullT ks) (.slice Al (fullT ks).length cl) _ (HR2.out _) (by omega) (by omega)).mono ?_
      intro e w3 hp3
      obtain ⟨v3, rfl, hq3⟩ := HT.out e w3 hp3
      have EX := hid hq3
      clear hp3 hq3
      go_wp2_with fail
      go_ret
      exact EX.out
  · have e7 : (k1 == 7) = false := by simpa using h7
    have HT := hid (htree.out (by rintro (g | ⟨g, -⟩); exact h8 g; exact h7 g))
    clear HJ hlit htree h8 h7 h9
    go_wp2_with fail
    refine (tree_any ⟨k1, s1, n1 + (((fullT ks).length : Int) - (ks.length : Int))⟩ (fullT ks) (.slice Al (fullT ks).length cl) _ (HR2.out _) (by omega) (by omega)).mono ?_
    intro e w3 hp3
    obtain ⟨v3, rfl, hq3⟩ := HT.out e w3 hp3
    have EX := hid hq3
    clear hp3 hq3
    go_wp2_with fail
    go_ret
    exact EX.out

theorem fo_count_le : ∀ f : L.Fo, f.count ≤ f.flat.length
  | .nil => Nat.le_refl _
  | .cons x ks r => by
    have := fo_count_le r
    simp only [L.Fo.count, L.Fo.flat, List.length_cons, List.length_append]
    omega
theorem enter_ground1 (args : Array Value) (W : World) : (callFunc 28 args).run Try.prog W = .ok (.enter 28 args) W := by kernel_rfl

set_option maxHeartbeats 4000000 in
set_option maxRecDepth 100000 in
/-- A type, grounded. -/
theorem ground_any (f : L.Fo) (hok : f.ok = true) (h1k : f.count ≤ 1000) (hl : f.flat.length ≤ 10000) (hw : ∀ x ∈ f.flat, x.n ≤ 9223372036854775807) (v : Value) (w : World) (hx : Rd w w.heap.size v f.flat) :
    Calls Try.prog 12 #[v] w (OwnPost f.ground.flat w) := by
  have HF := hid (fold_any L.groundJ' (fun _ _ => True) (fun _ => False) GZ 28 #[] enter_ground1 w (fun _ g => g.elim) (fun _ _ _ _ _ => trivial) (ground_join _) f hok (all_gz f hok hl hw) (by omega) v hx (fun _ _ g => g) () trivial)
  obtain ⟨f1, f2, f3⟩ := L.ground_fold f hok
  have hgl := L.ground_len f
  have hcn := fo_count_le f
  have HC := hid (fun (ts : List VT) (v1 : Value) (W : World) (h1 : L.foldF L.groundJ' () f = ((L.foldF L.groundJ' () f).1, ts.map (·.2))) (hr : RowT w.heap.size v1 ts W) => show Calls Try.prog 19 #[v1] W (OwnPost f.ground.flat W) from by
    have h2 : (L.foldF L.groundJ' () f).2 = ts.map (·.2) := congrArg (·.2) h1
    have h3 : catT ts = f.ground.flat := by rw [catT_map, ← h2, f1]
    have h4 : ts.length = f.count := by rw [← f3, h2, List.length_map]
    rw [← h3]
    exact concat_all ts v1 W hr.rdr (by omega) (by rw [h3]; omega))
  obtain ⟨A, cap, rfl, -⟩ := hx.len
  clear hx f1 f2 f3 hgl hcn hw
  go_enter Try.func12, Try.ntmps12
  go_wp2_with fail
  refine (HF.out).mono ?_
  rintro e w1 ⟨v1, ts, rfl, h1, hr, -, hf⟩
  have HC1 := hid (HC.out ts v1 w1 h1 hr)
  have HB := hid (show Below w.heap.size w w1 from hf.below (Nat.le_refl _) (fun _ _ g => g))
  clear h1 hr hf HC HF
  go_wp2_with fail
  refine (HC1.out).mono ?_
  rintro e w2 ⟨v2, rfl, hO, hb⟩
  have EX : Hid (OwnPost f.ground.flat w (.returned v2) w2) := hid ⟨v2, rfl, hO.more HB.out.size, HB.out.trans (hb.mono HB.out.size)⟩
  clear hO hb
  go_wp2_with fail
  go_ret
  exact EX.out
end Go.Proofs.Ytkkigdbinnfbfaa
