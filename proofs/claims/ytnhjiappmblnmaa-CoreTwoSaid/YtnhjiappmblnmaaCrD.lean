/-
  The walk of core's begin. Conditions: at most 1000 sets of at most 1000 numbers, each once.
-/
import Derived.Test.YtnhjiappmblnmaaCrC
import Derived.Deep.RegionHeld3
import Derived.Deep.RegionWith
import Derived.Deep.OwnRows
import Derived.Laws.EntriesVeiled
namespace Go.Proofs.Ytnhjiappmblnmaa.Cr
open Go
/-- The places of the first k sets that have a number, and the next one's, of its first j numbers. -/
def holdK (bad : List (List Int)) (k j : Nat) (x : Int) : List Nat := holdN (bad.take k) x ++ if x ∈ ((bad[k]?).getD []).take j then [k] else []
theorem holdN_snoc (l : List (List Int)) (b : List Int) (x : Int) : holdN (l ++ [b]) x = holdN l x ++ if x ∈ b then [l.length] else [] := by
  unfold holdN
  rw [List.length_append, List.length_singleton, List.range_succ, List.filter_append]
  congr 1
  · refine List.filter_congr fun i hi => ?_
    have : i < l.length := by simpa using hi
    simp [List.getElem?_append_left this]
  · by_cases h : x ∈ b <;> simp [h]
theorem holdK_start (bad : List (List Int)) (k : Nat) (x : Int) : holdK bad k 0 x = holdN (bad.take k) x := by simp [holdK]
theorem holdK_next {bad : List (List Int)} {k : Nat} (hk : k < bad.length) {j : Nat} (hj : bad[k].length ≤ j) (x : Int) : holdK bad k j x = holdN (bad.take (k + 1)) x := by
  have e : ((bad[k]?).getD []).take j = bad[k] := by rw [List.getElem?_eq_getElem hk]; exact List.take_of_length_le hj
  unfold holdK
  rw [e, List.take_succ_eq_append_getElem hk, holdN_snoc]
  simp [Nat.min_eq_left (Nat.le_of_lt hk)]
theorem holdK_end (bad : List (List Int)) (x : Int) : holdK bad bad.length 0 x = holdN bad x := by rw [holdK_start, List.take_length]
theorem holdK_put {bad : List (List Int)} {k : Nat} (hk : k < bad.length) {b : List Int} (hb : bad[k] = b) (hn : b.Nodup) {j : Nat} (hj : j < b.length) : holdK bad k (j + 1) b[j] = holdK bad k j b[j] ++ [k] ∧ ∀ y, y ≠ b[j] → holdK bad k (j + 1) y = holdK bad k j y := by
  have e : (bad[k]?).getD [] = b := by rw [List.getElem?_eq_getElem hk, hb]; rfl
  unfold holdK
  rw [e, List.take_succ_eq_append_getElem hj]
  have hnot : b[j] ∉ b.take j := fun h => by
    obtain ⟨i, hi, he⟩ := List.getElem_of_mem h
    have hi2 : i < j := by simp at hi; omega
    rw [List.getElem_take] at he
    have := (List.pairwise_iff_getElem.1 hn) i j (by omega) hj hi2
    exact this he
  have hin : b[j] ∈ b.take j ++ [b[j]] := List.mem_append.2 (Or.inr (by simp))
  refine ⟨by rw [if_pos hin, if_neg hnot]; simp, fun y hy => ?_⟩
  have : y ∈ b.take j ++ [b[j]] ↔ y ∈ b.take j := by
    rw [List.mem_append, List.mem_singleton]
    exact ⟨fun h => h.elim id fun e => absurd e hy, Or.inl⟩
  by_cases g : y ∈ b.take j
  · rw [if_pos g, if_pos (this.2 g)]
  · rw [if_neg g, if_neg fun h => g (this.1 h)]
/-- What the first k sets lack of nothing; 0 for the others. -/
def lenK (bad : List (List Int)) (k : Nat) : List Int := ((bad.take k).map fun b => (b.length : Int)) ++ List.replicate (bad.length - k) 0
theorem lenK_len (bad : List (List Int)) (k : Nat) : (lenK bad k).length = bad.length := by unfold lenK; simp; omega
theorem lenK_put {bad : List (List Int)} {k : Nat} (hk : k < bad.length) : (lenK bad k).set k (bad[k].length : Int) = lenK bad (k + 1) := by
  unfold lenK
  rw [List.take_succ_eq_append_getElem hk, List.map_append, List.append_assoc, show bad.length - k = (bad.length - (k + 1)) + 1 by omega, List.replicate_succ]
  rw [List.set_append_right _ _ (by simp; omega)]
  simp [-List.map_take, Nat.min_eq_left (Nat.le_of_lt hk)]
theorem lackN_nil (b : List Int) : lackN b [] = (b.length : Int) := by
  unfold lackN
  rw [List.countP_eq_length.2 (by simp)]
theorem lenK_end (bad : List (List Int)) : lenK bad bad.length = lacks bad [] := by
  unfold lenK lacks
  simp [lackN_nil]
/-- How many of the first k sets are empty. -/
def noneK (bad : List (List Int)) (k : Nat) : Nat := (bad.take k).countP fun b => decide (b.length = 0)
theorem noneK_next {bad : List (List Int)} {k : Nat} (hk : k < bad.length) : noneK bad (k + 1) = noneK bad k + if bad[k].length = 0 then 1 else 0 := by
  unfold noneK
  rw [List.take_succ_eq_append_getElem hk, List.countP_append]
  congr 1
  rw [List.countP_cons, List.countP_nil]
  by_cases h : bad[k].length = 0
  · rw [if_pos h, if_pos (decide_eq_true h)]
  · rw [if_neg h, if_neg (by simpa using h)]
theorem noneK_le (bad : List (List Int)) (k : Nat) : noneK bad k ≤ k := by
  unfold noneK
  refine Nat.le_trans List.countP_le_length ?_
  simp; omega
theorem noneK_end (bad : List (List Int)) : noneK bad bad.length = zeros (lacks bad []) := by
  unfold noneK zeros lacks
  rw [List.take_length, List.countP_map]
  congr 1
  funext b
  simp [lackN_nil]
theorem lacks_congr {bad : List (List Int)} {S T : List Int} (h : ∀ x, x ∈ S ↔ x ∈ T) : lacks bad S = lacks bad T := by
  unfold lacks
  refine List.map_congr_left fun b _ => ?_
  unfold lackN
  congr 2
  funext x
  simp [h x]
end Go.Proofs.Ytnhjiappmblnmaa.Cr
namespace Go.Proofs.Ytnhjiappmblnmaa
open Go.RowKit Go.Maps Go.ChangeMaps Go.ChangeShapes

theorem RdZZ.atw {w w' : World} {B m c : Nat} {A : Option Addr} {l : List (List Int)} (h : RdZZ w B (.slice A m c) l) (hb : Below B w w') {k : Nat} (hk : k < l.length) : ∃ b o A' c', A = some ⟨b, o, none⟩ ∧ b < B ∧ w'.cell? ⟨b, o + k, none⟩ = some (.slice A' l[k].length c') ∧ RdZ w B (.slice A' l[k].length c') l[k] := by
  obtain ⟨A', cap, hv, -, -, hc⟩ := h
  simp only [Value.slice.injEq] at hv
  obtain ⟨rfl, -, -⟩ := hv
  obtain ⟨b, o, hA, hlt, hcc⟩ := hc (by rintro rfl; simp at hk)
  obtain ⟨u, x1, x2⟩ := hcc k hk
  obtain ⟨A2, c2, rfl, -, -⟩ := x2.val
  exact ⟨b, o, A2, c2, hA, hlt, (hb.cell (p := ⟨b, o + k, none⟩) hlt).trans x1, x2⟩
theorem Tr.congr {w : World} {s fb M1 : Nat} {bad : List (List Int)} {S T : List Int} (h : Tr w s fb M1 bad S) (e : ∀ x, x ∈ S ↔ x ∈ T) : Tr w s fb M1 bad T := by
  unfold Tr at h ⊢
  rw [← Cr.lacks_congr e]
  exact h
/-- What is looked up hangs on the map's block alone. -/
theorem groups_look {w w' : World} {P : Program} {t E k : TypeId} {base : Nat} {e : TypeId} {q : IntKind} {b n : Nat} {D : DataW Unit} {key v : Value} {kl : Lit} (h : w.ownsGroups P k base e q b n D) (K : Keyed P k) (ht : P.underlying t = some (.map k E))
    (hz : ∀ w, (zeroValue E).run P w = .ok (.slice none 0 0) w) (hkey : keyOf P k key = some kl) (hrun : (Instr.lookup t (.map (some b)) key false).run P w = .ok v w) (hb' : w'.heap[b]? = w.heap[b]?) :
    (Instr.lookup t (.map (some b)) key false).run P w' = .ok v w' := by
  obtain ⟨es, clock, hb, F, -⟩ := h
  have hnd := F.stamped.2.2
  rcases Maps.fit_look false K ht (hz w) hb F hkey with ⟨h1, h2, _⟩ | ⟨e0, y, m0, k0, h1, _⟩
  · rcases Maps.fit_look false K ht (hz w') (hb'.trans hb) F hkey with ⟨g1, g2, _⟩ | ⟨e1, y1, m1, k1, g1, _⟩
    · rw [hrun] at h1
      simp only [Result.ok.injEq] at h1
      rw [g1, h1.1]
    · exact absurd k1 (h2 e1 m1)
  · rcases Maps.fit_look false K ht (hz w') (hb'.trans hb) F hkey with ⟨g1, g2, _⟩ | ⟨e1, y1, m1, k1, g1, _⟩
    · exact absurd k0 (g2 e0 m0)
    · have : e0 = e1 := by
        obtain ⟨i, hi, rfl⟩ := List.getElem_of_mem m0
        obtain ⟨j, hj, rfl⟩ := List.getElem_of_mem m1
        by_cases hij : i = j
        · subst hij; rfl
        · exfalso
          have hp := List.pairwise_iff_getElem.1 hnd
          rcases Nat.lt_or_gt_of_ne hij with g | g
          · exact hp i j (by simpa using hi) (by simpa using hj) g (by simp only [List.getElem_map]; rw [k0, k1])
          · exact hp j i (by simpa using hj) (by simpa using hi) g (by simp only [List.getElem_map]; rw [k0, k1])
      subst this
      rw [hrun] at h1
      simp only [Result.ok.injEq] at h1
      rw [g1, h1.1]
/-- What begin has in memory while it fills. -/
structure Beg (w : World) (s n : Nat) (D : DataW Unit) (F : Int → List Nat) (L : List Int) (c : Int) : Prop where
  grp : w.ownsGroups Try.prog 3 (s + 6) 3 .i64 (s + 1) n D
  hold : HoldD D F
  box : w.heap[s + 2]? = some (.cells #[.map (some (s + 1))] 44 (0, 0))
  row : w.heap[s + 3]? = some (.cells (L.map (Value.int .i64)).toArray 3 (0, 0))
  lbox : w.heap[s + 4]? = some (.cells #[.slice (some ⟨s + 3, 0, none⟩) L.length L.length] 22 (0, 0))
  cbox : w.heap[s + 5]? = some (.cells #[.int .i64 c] 3 (0, 0))
  res : w.heap[s]? = some (.cells #[.nilFunc, .nilFunc, .nilFunc] 39 (0, 0))
theorem Beg.congr {w : World} {s n : Nat} {D : DataW Unit} {F G : Int → List Nat} {L : List Int} {c : Int} (h : Beg w s n D F L c) (e : ∀ x, F x = G x) : Beg w s n D G L c := by
  have : F = G := funext e
  exact this ▸ h
theorem Beg.grpSet {w : World} {s n b : Nat} {D : DataW Unit} {F : Int → List Nat} {L : List Int} {c : Int} (h : Beg w s n D F L c) {w' : World} (hf : Fr (fun i => i = b) w w') (hb1 : s + 1 < b) (hb2 : b < s + 6) : w'.ownsGroups Try.prog 3 (s + 6) 3 .i64 (s + 1) n D :=
  groups_fr h.grp hf (by omega) fun es clock hb x hx g hg hlo => by omega
theorem Beg.setC {w : World} {s n : Nat} {D : DataW Unit} {F : Int → List Nat} {L : List Int} {c : Int} (h : Beg w s n D F L c) (c' : Int) : Beg (w.setCell ⟨s + 5, 0, none⟩ (.int .i64 c')) s n D F L c' := by
  have hf : Fr (fun i => i = s + 5) w (w.setCell ⟨s + 5, 0, none⟩ (.int .i64 c')) := Fr.setCell w _ _ rfl
  exact ⟨h.grpSet hf (by omega) (by omega), h.hold, hf.heap h.box (by omega), hf.heap h.row (by omega), hf.heap h.lbox (by omega), (heap_setCell_same w _ 0 _ _ _ h.cbox).trans rfl, hf.heap h.res (by omega)⟩
theorem Beg.setL {w : World} {s n : Nat} {D : DataW Unit} {F : Int → List Nat} {L : List Int} {c : Int} (h : Beg w s n D F L c) (p : Nat) (y : Int) : Beg (w.setCell ⟨s + 3, p, none⟩ (.int .i64 y)) s n D F (L.set p y) c := by
  have hf : Fr (fun i => i = s + 3) w (w.setCell ⟨s + 3, p, none⟩ (.int .i64 y)) := Fr.setCell w _ _ rfl
  refine ⟨h.grpSet hf (by omega) (by omega), h.hold, hf.heap h.box (by omega), ?_, ?_, hf.heap h.cbox (by omega), hf.heap h.res (by omega)⟩
  · rw [heap_setCell_same w _ p _ _ _ h.row]
    simp [List.map_set]
  · rw [List.length_set]; exact hf.heap h.lbox (by omega)
theorem Beg.start (w : World) (m : Nat) :
    Beg ((((((w.alloc (.cells #[.nilFunc, .nilFunc, .nilFunc] 39)).alloc (.map #[] 0)).alloc (.cells #[.map (some (w.heap.size + 1))] 44)).alloc (.cells (madeCells #[.int .i64 0] m) 3)).alloc (.cells #[.slice (some ⟨w.heap.size + 3, 0, none⟩) m m] 22)).alloc (.cells #[.int .i64 0] 3)) w.heap.size 0 (.map []) (fun _ => []) (List.replicate m 0) 0 := by
  have h5 : ∀ (W : World) (o : Obj) (j : Nat), W.heap.size = j → (W.alloc o).heap[j]? = some o := fun W o j h => by rw [← h]; exact heap_alloc_new W o
  have up : ∀ (W : World) (o : Obj) (j : Nat), j < W.heap.size → (W.alloc o).heap[j]? = W.heap[j]? := fun W o j h => Below.heap_alloc W o j h
  refine ⟨⟨#[], 0, ?_, ⟨by simp, MapKept.stamped_empty 0, by simp⟩, Nat.le_refl _, rfl, by omega, by simp, by simp⟩, HoldD.nil, ?_, ?_, ?_, ?_, ?_⟩
  · rw [up _ _ _ (by simp <;> omega), up _ _ _ (by simp <;> omega), up _ _ _ (by simp <;> omega), up _ _ _ (by simp <;> omega)]
    exact h5 _ _ _ (by simp)
  · rw [up _ _ _ (by simp <;> omega), up _ _ _ (by simp <;> omega), up _ _ _ (by simp <;> omega)]
    exact h5 _ _ _ (by simp)
  · rw [up _ _ _ (by simp <;> omega), up _ _ _ (by simp <;> omega)]
    rw [h5 _ _ _ (by simp)]
    have e : madeCells #[.int .i64 0] m = ((List.replicate m (0 : Int)).map (Value.int .i64)).toArray := by
      apply Array.toList_inj.1
      rw [toList_madeCells_one]
      simp
    rw [e]
  · rw [up _ _ _ (by simp <;> omega)]
    rw [h5 _ _ _ (by simp)]
    simp
  · exact h5 _ _ _ (by simp)
  · rw [up _ _ _ (by simp <;> omega), up _ _ _ (by simp <;> omega), up _ _ _ (by simp <;> omega), up _ _ _ (by simp <;> omega), up _ _ _ (by simp <;> omega)]
    exact h5 _ _ _ rfl

/-- An append to a row of the call's own, and where it lies, as one step of a region that draws. -/
theorem step_append_at {P : Program} {ops : Array Oper} {w : World} {o : Oper} {a : Act} {K : Act → World → Prop} {Q : Exit → Act → World → Prop} {E : Prop} (hg : o.guard = none) (s x : Operand) (t : TypeId)
    (ho : o.op = .call { callee := .builtin .append, args := #[s, x], argTypes := #[t, t] })
    (base : Nat) (e : TypeId) (i : TypeInfo) (z : Value) (size bytes : Nat) (ht : P.underlying t = some (.slice e)) (hi : P.info? e = some i) (hz : i.zero = some z)
    (hsize : i.size = size) (hby : i.bytes = bytes) (hzs : z.cells.size = size) (hsz : 0 < size)
    (v : Value) (n : Nat) (xs : List Value) (hs : a.eval s = v) (hown : w.ownsRow base e size v n xs)
    (ad : Addr) (m c : Nat) (news : List Value) (hx : a.eval x = .slice (some ad) m c) (hl : news.length = m * size) (hnews : ∀ j u, news[j]? = some u → w.cell? (ad.add j) = some u) (h1 : ∀ u ∈ news, u.oneCell' = true)
    (h63 : n + m ≤ maxLen) (hbytes : (n + m) * bytes ≤ 140737488355328) (hbase : base ≤ w.heap.size)
    (h : ∀ v' w', w'.ownsRow base e size v' (n + m) (xs ++ news) → w.grownBy w' v.ownBlock → (v'.ownBlock = v.ownBlock ∨ v'.ownBlock = some w.heap.size) → K (a.put o.dst v') w') :
    if Region.wanted o (yielded ops a.tmps) = true then Oper.wp P o a w K Q else E := by
  have hw : Region.wanted o (yielded ops a.tmps) = true := by simp [Region.wanted, hg]
  rw [if_pos hw]
  obtain ⟨v', w', hr, h2, h3, _, h5⟩ := run_append_own_at (P := P) w base t o.type e i z size bytes ht hi hz hsize hby hzs hsz v n xs hown ad m c news hl hnews h1 h63 hbytes hbase
  unfold Oper.wp execOp
  simp only [ho, resolve, invoke, builtin, Sem.run_bind, Sem.run_pure, Result.andThen_ok, List.map_toArray, List.map_cons, List.map_nil, hs, hx, hr]
  exact h v' w' h2 h3 h5
theorem grown_after {w W w1 : World} {r : Option Nat} (h : Below w.heap.size w W) (g : W.grownBy w1 r) : w.grownBy w1 r :=
  ⟨g.os.trans h.os, g.tape.trans h.tape, g.output.trans h.output, Nat.le_trans h.size g.size, fun i hi hne => (g.block i (Nat.lt_of_lt_of_le hi h.size) hne).trans (h.block i hi)⟩
theorem ints_below {w W : World} {base : Nat} {e : TypeId} {v : Value} {zs : List Int} (h : w.ownsInts base e .i64 v zs) (hb : Below w.heap.size w W) : W.ownsInts base e .i64 v zs :=
  ⟨row_kept h.1 fun g hg => hb.block g (World.ownsRow.lt h.1 g hg).2, h.2⟩

theorem run_make0 (w : World) : (Instr.makeMap 44 none).run Try.prog w = .ok (.map (some w.heap.size)) (w.alloc (.map #[] 0)) := by
  simp [Instr.makeMap]

def BegPost (S : List Int) (bad : List (List Int)) (w : World) (e : Ending) (w' : World) : Prop := ∃ fb M1, e = .returned (.agg #[.func (.func 34) #[] #[.pointer (some ⟨fb, 0, none⟩)], .func (.func 35) #[] #[.pointer (some ⟨fb, 0, none⟩)], .func (.func 36) #[] #[.pointer (some ⟨w.heap.size + 5, 0, none⟩)]]) ∧ Tr w' w.heap.size fb M1 bad S ∧ M1 ≤ w'.heap.size ∧ Below w.heap.size w w'

set_option maxHeartbeats 8000000 in
set_option maxRecDepth 100000 in
theorem begin_any (S : List Int) (bad : List (List Int)) (hS : S.Nodup) (hl : S.length ≤ 1000) (hb : Cr.Few bad) (v u : Value) (w : World) (hx : RdZ w w.heap.size v S) (hu : RdZZ w w.heap.size u bad) :
    Calls Try.prog 27 #[v, u] w (BegPost S bad w) := by
  obtain ⟨i0, hi, hz0, hz1, hz2⟩ := info_parts info_int
  have HX := hid hx
  have HU := hid hu
  have HS := hid hS
  have HBF := hid hb
  have hm := hb.n
  obtain ⟨A, cap, rfl, hc1, hc2⟩ := hx.val
  obtain ⟨A2, cap2, rfl, hd1, hd2⟩ := hu.val
  unfold maxLen at hc2 hd2
  clear hx hu hS hb
  have hmk := run_make_row' (P := Try.prog) 22 3 (.int .i64 0) 8 Try.underlying22 info_int rfl .i64 .i64 bad.length (by omega) (by omega)
  have hm0 := run_make0
  go_enter Try.func27, Try.ntmps27
  go_wp2_with fail
  clear hmk hm0
  have HB0 := hid (show Cr.lenK bad 0 = List.replicate bad.length 0 by simp [Cr.lenK])
  go_loopw [22] (fun v22 wr => ∃ (k n : Nat) (D : DataW Unit), v22 = .int .i64 k ∧ k ≤ bad.length ∧ Hid (n ≤ k * 1000) ∧ Hid (Beg wr w.heap.size n D (Cr.holdK bad k 0) (Cr.lenK bad k) (Cr.noneK bad k)) ∧ Hid (Below w.heap.size w wr) ∧ Hid (w.heap.size + 6 ≤ wr.heap.size)) (fun v22 _ => bad.length - (intOf v22).toNat)
  case atStart =>
    refine ⟨0, 0, .map [], rfl, by omega, hid (by omega), hid ?_, hid ?_, hid ?_⟩
    · rw [HB0.out]
      exact (Beg.start w bad.length).congr fun x => by simp [Cr.holdK, Cr.holdN]
    · exact (((((below_new _).alloc (by simp) _).alloc (by simp; omega) _).alloc (by simp; omega) _).alloc (by simp; omega) _).alloc (by simp; omega) _
    · simp
  case round =>
    obtain ⟨k, n, D, rfl, hk, hN, hG, hB, hS6⟩ := hrel
    obtain ⟨wo, hwo⟩ : ∃ wo : World, wo = wr := ⟨_, rfl⟩
    subst hwo
    by_cases hlt : k < bad.length
    · have hkz : (k : Int) < (bad.length : Int) := by omega
      obtain ⟨b, o, A', c', rfl, -, c0, hr⟩ := HU.out.atw hB.out hlt
      have hbl := HBF.out.len bad[k] (List.getElem_mem hlt)
      have HND := hid (HBF.out.nodup bad[k] (List.getElem_mem hlt))
      have HL2 := hid (Cr.lenK_put hlt)
      have HC2 := hid (Cr.noneK_next hlt)
      have hle := Cr.noneK_le bad k
      have hll := Cr.lenK_len bad k
      obtain ⟨bk, hbk⟩ : ∃ bk, bad[k] = bk := ⟨_, rfl⟩
      rw [hbk] at c0 hr hbl HND HL2 HC2
      have HR := hid hr
      have HBK := hid hbk
      have hkL : k < (Cr.lenK bad k).length := by omega
      obtain ⟨x3, hx3⟩ : ∃ x3, (Cr.lenK bad k)[k] = x3 := ⟨_, rfl⟩
      have c4 : wo.cell? ⟨w.heap.size + 1 + 1 + 1 + 1, 0, none⟩ = some (.slice (some ⟨w.heap.size + 1 + 1 + 1, 0, none⟩) bad.length bad.length) := by
        have := (heap_cell hG.out.lbox 0).trans rfl
        rw [hll] at this
        exact this
      have c3 : wo.cell? ⟨w.heap.size + 1 + 1 + 1, k, none⟩ = some (.int .i64 x3) := (heap_cell hG.out.row k).trans (by simp [hkL, hx3])
      have f3 : wo.frozen? ⟨w.heap.size + 1 + 1 + 1, k, none⟩ = false := heap_free hG.out.row k
      have c5 : wo.cell? ⟨w.heap.size + 1 + 1 + 1 + 1 + 1, 0, none⟩ = some (.int .i64 (Cr.noneK bad k : Nat)) := (heap_cell hG.out.cbox 0).trans rfl
      have f5 : wo.frozen? ⟨w.heap.size + 1 + 1 + 1 + 1 + 1, 0, none⟩ = false := heap_free hG.out.cbox 0
      obtain ⟨c, hc⟩ : ∃ c, Cr.noneK bad k = c := ⟨_, rfl⟩
      have HCC := hid hc
      rw [hc] at c5 hle HC2
      have hlen2 : (bk.length : Int) ≤ 1000 := by omega
      clear hbk hr hkL hx3 hll hc
      have HWB := hid (show ∀ (W : World) (a : Addr) (x : Value), w.heap.size ≤ a.block → Below w.heap.size w W → Below w.heap.size w (W.setCell a x) from fun W a x h g => g.setCell h x)
      by_cases h0 : bk.length = 0
      case' pos =>
        have hz : ((bk.length : Int) == 0) = true := by rw [beq_iff_eq]; omega
        have h00 := hid h0
        clear h0
        go_wp2_with fail
        obtain ⟨w1, hw1⟩ : ∃ w1, (wo.setCell ⟨w.heap.size + 1 + 1 + 1, k, none⟩ (.int .i64 (bk.length : Int))).setCell ⟨w.heap.size + 1 + 1 + 1 + 1 + 1, 0, none⟩ (.int .i64 ((c : Int) + 1)) = w1 := ⟨_, rfl⟩
        have G1 := hid (show Beg w1 w.heap.size n D (Cr.holdK bad k 0) (Cr.lenK bad (k + 1)) (Cr.noneK bad (k + 1)) by
          have := (hG.out.setL k (bk.length : Int)).setC ((c : Int) + 1)
          rw [HL2.out] at this
          rw [HC2.out, if_pos h00.out, ← hw1]
          exact this)
        have B1 := hid (show Below w.heap.size w w1 from hw1 ▸ HWB.out _ _ _ (by simp; omega) (HWB.out _ _ _ (by simp; omega) hB.out))
        have S1 := hid (show w.heap.size + 6 ≤ w1.heap.size by rw [← hw1]; simp; exact hS6.out)
      case' neg =>
        have hz : ((bk.length : Int) == 0) = false := by rw [beq_eq_false_iff_ne]; omega
        have h00 := hid h0
        clear h0
        go_wp2_with fail
        obtain ⟨w1, hw1⟩ : ∃ w1, wo.setCell ⟨w.heap.size + 1 + 1 + 1, k, none⟩ (.int .i64 (bk.length : Int)) = w1 := ⟨_, rfl⟩
        have G1 := hid (show Beg w1 w.heap.size n D (Cr.holdK bad k 0) (Cr.lenK bad (k + 1)) (Cr.noneK bad (k + 1)) by
          have := hG.out.setL k (bk.length : Int)
          rw [HL2.out, HCC.out] at this
          rw [HC2.out, if_neg h00.out, ← hw1]
          exact this)
        have B1 := hid (show Below w.heap.size w w1 from hw1 ▸ HWB.out _ _ _ (by simp; omega) hB.out)
        have S1 := hid (show w.heap.size + 6 ≤ w1.heap.size by rw [← hw1]; simp; exact hS6.out)
      all_goals
        rw [hw1]
        clear hw1 c4 c3 f3 c5 f5 c0 hG hB hS6 hz h00 HL2 HC2 HCC
        go_loopw [39] (fun v39 wi => ∃ (j n' : Nat) (D' : DataW Unit), v39 = .int .i64 j ∧ j ≤ bk.length ∧ Hid (n' ≤ k * 1000 + j) ∧ Hid (Beg wi w.heap.size n' D' (Cr.holdK bad k j) (Cr.lenK bad (k + 1)) (Cr.noneK bad (k + 1))) ∧ Hid (Below w.heap.size w wi) ∧ Hid (w.heap.size + 6 ≤ wi.heap.size)) (fun v39 _ => bk.length - (intOf v39).toNat)
        case atStart => exact ⟨0, n, D, rfl, by omega, hN, G1, B1, S1⟩
        case round =>
          clear G1 B1 S1 hN
          obtain ⟨j, n', D', rfl, hj, hN, hG, hB, hS6⟩ := hrel
          obtain ⟨wi, hwi⟩ : ∃ wi : World, wi = wr := ⟨_, rfl⟩
          subst hwi
          by_cases hjt : j < bk.length
          · have hjz : (j : Int) < (bk.length : Int) := by omega
            obtain ⟨b1, o1, rfl, -, c1⟩ := HR.out.atv hB.out hjt
            obtain ⟨hp1, hp2⟩ := Cr.holdK_put hlt HBK.out HND.out hjt
            have hz := HR.out.inZ bk[j] (List.getElem_mem hjt)
            obtain ⟨x, hxx⟩ : ∃ x, bk[j] = x := ⟨_, rfl⟩
            rw [hxx] at c1 hp1 hp2 hz
            have hkey : keyOf Try.prog 3 (.int .i64 x) = some (.int .i64 x) := keyOf_int_mk Try.underlying3 hz
            have hn' := hN.out
            obtain ⟨v, zs, hrun, hat, hoi, hzl, hback⟩ := hG.out.grp.at law_int Try.underlying44 (zero_ints wi) (by unfold maxLen; omega) hkey
            have hzs : zs = natZ (Cr.holdK bad k j x) := hG.out.hold.read hat hoi
            have c2 : wi.cell? ⟨w.heap.size + 1 + 1, 0, none⟩ = some (.map (some (w.heap.size + 1))) := (heap_cell hG.out.box 0).trans rfl
            have HP1 := hid hp1
            have HP2 := hid hp2
            have HZS := hid hzs
            have HBACK := hid hback
            have HOI := hid (fun (W : World) (h : Below wi.heap.size wi W) => ints_below hoi h)
            have HOI0 := hid hoi
            have HS := hid (show ∀ W, Fr (fun i => w.heap.size + 6 ≤ i) wi W → W.cell? ⟨w.heap.size + 1 + 1, 0, none⟩ = some (.map (some (w.heap.size + 1))) ∧ (Instr.lookup 44 (.map (some (w.heap.size + 1))) (.int .i64 x) false).run Try.prog W = .ok v W from fun W h => ⟨(heap_cell (h.heap hG.out.box (by omega)) 0).trans rfl, groups_look hG.out.grp law_int Try.underlying44 zero_ints hkey hrun (h.block _ (by have := hS6.out; omega) (by omega))⟩)
            obtain ⟨Av, cv, rfl, hv1, hv2⟩ := (show OwnZ (w.heap.size + 6) v zs wi from hoi.1).val
            obtain ⟨q, hq⟩ : ∃ q, zs.length = q := ⟨_, rfl⟩
            have hqn : q ≤ n' := by omega
            have HQ := hid hq
            rw [hq] at hrun HS HOI HOI0 HBACK
            have HKEY := hid hkey
            have hs6 := hS6.out
            have HLT := hid (World.ownsRow.lt hoi.1)
            clear hp1 hp2 hzs hback hoi hat hrun c2 hxx hz hkey hzl hv1 hv2 hq
            go_wp2_with fail
            have B00 := hid (Below.refl wi.heap.size wi)
            have B0d := hid (B00.out.drew)
            have B01 := hid (below_new (w := wi) (.cells #[.int .i64 (k : Int)] 3))
            have B02 := hid (B0d.out.alloc (Nat.le_refl _) (.cells #[.int .i64 (k : Int)] 3))
            have B03 := hid (B01.out.drew)
            have F03 := hid (Fr.of_below (P := fun i => w.heap.size + 6 ≤ i) B03.out fun i hi => Nat.le_trans hs6 hi)
            have F00 := hid (Fr.of_below (P := fun i => w.heap.size + 6 ≤ i) B00.out fun i hi => Nat.le_trans hs6 hi)
            have F0d := hid (Fr.of_below (P := fun i => w.heap.size + 6 ≤ i) B0d.out fun i hi => Nat.le_trans hs6 hi)
            have F01 := hid (Fr.of_below (P := fun i => w.heap.size + 6 ≤ i) B01.out fun i hi => Nat.le_trans hs6 hi)
            have F02 := hid (Fr.of_below (P := fun i => w.heap.size + 6 ≤ i) B02.out fun i hi => Nat.le_trans hs6 hi)
            have HOW := hid (show ∀ W, Below wi.heap.size wi W → W.ownsRow (w.heap.size + 6) 3 1 (.slice Av q cv) q (zs.map (Value.int .i64)) from fun W h => by have := (HOI.out W h).1; rw [HQ.out] at this; exact this)
            have HQ1 := hid (show q + 1 ≤ maxLen ∧ (q + 1) * 8 ≤ 140737488355328 by unfold maxLen; omega)
            have HAFT := hid (show ∀ (W w1 : World) (v' : Value), Below wi.heap.size wi W → w1.ownsRow (w.heap.size + 6) 3 1 v' (q + 1) (zs.map (Value.int .i64) ++ [.int .i64 (k : Int)]) → W.grownBy w1 (Value.slice Av q cv).ownBlock → (v'.ownBlock = (Value.slice Av q cv).ownBlock ∨ v'.ownBlock = some W.heap.size) →
                ∃ w2, (Instr.mapUpdate 44 (.map (some (w.heap.size + 1))) (.int .i64 x) v').run Try.prog w1 = .ok () w2 ∧ Fr (fun i => w.heap.size + 6 ≤ i) wi w1 ∧ Hid (∃ D2, Beg w2 w.heap.size (n' + 1) D2 (Cr.holdK bad k (j + 1)) (Cr.lenK bad (k + 1)) (Cr.noneK bad (k + 1))) ∧ Hid (Below w.heap.size w w2) ∧ Hid (w.heap.size + 6 ≤ w2.heap.size) ∧ Hid (w2.cell? ⟨w.heap.size + 1 + 1, 0, none⟩ = some (.map (some (w.heap.size + 1)))) from fun W w1 v' hb hown hgr hloc => by
              have hg1 := grown_after hb hgr
              have ho1 : w1.ownsInts (w.heap.size + 6) 3 .i64 v' (zs ++ [(k : Int)]) := World.ownsInts.appended HOI0.out (by rw [HQ.out]; exact hown) (WalkArith.wf_i64 (by omega))
              have hl1 : (zs ++ [(k : Int)]).length = q + 1 := by simp [HQ.out]
              obtain ⟨w2, r1, r2, r3⟩ := HBACK.out w1 v' _ hg1 ho1 (by omega) (hloc.imp id fun e => ⟨_, e, hb.size⟩)
              have hf1 : Fr (fun i => w.heap.size + 6 ≤ i) wi w1 := Fr.grown hg1 fun g hg => (HLT.out g (by rw [ownBlock_slice] at hg ⊢; exact hg)).1
              have hf2 : Fr (fun i => i = w.heap.size + 1 ∨ w.heap.size + 6 ≤ i) wi w2 := (hf1.mono fun i _ h => Or.inr h).trans ⟨r3.os, r3.tape, r3.output, r3.size, fun i hi hn => r3.block i hi fun e => hn (Or.inl (by cases e; rfl))⟩
              refine ⟨w2, r1, hf1, hid ⟨_, r2, ?_, hf2.heap hG.out.box (by omega), hf2.heap hG.out.row (by omega), hf2.heap hG.out.lbox (by omega), hf2.heap hG.out.cbox (by omega), hf2.heap hG.out.res (by omega)⟩, hid (hB.out.trans (hf2.below (by omega) fun i hi => by omega)), hid (Nat.le_trans hs6 hf2.size), hid ((heap_cell (hf2.heap hG.out.box (by omega)) 0).trans rfl)⟩
              exact HoldD.put (groups_isMap hG.out.grp) hG.out.hold ho1 (by simp) (by rw [HP1.out, HZS.out]; simp [natZ]) fun y hy => HP2.out y hy)
            clear HOI HOI0 HBACK HP1 HP2 HZS HLT
            have hl0 := (HS.out _ F00.out).2
            have hl1 := (HS.out _ F0d.out).2
            have hl2 := (HS.out _ F01.out).2
            have hl3 := (HS.out _ F02.out).2
            have hl4 := (HS.out _ F03.out).2
            go_region_held3 (fun w' => w'.cell? ⟨w.heap.size + 1 + 1, 0, none⟩ = some (.map (some (w.heap.size + 1)))) (first | exact (HS.out _ F00.out).1 | exact (HS.out _ F01.out).1 | exact (HS.out _ F0d.out).1 | exact (HS.out _ F02.out).1 | exact (HS.out _ F03.out).1 | exact (HS.out _ hF1.out).1 | exact hC2.out) (first
              | (refine step_append_at (by rfl) (.tmp 47) (.tmp 49) 22 (by rfl) (w.heap.size + 6) 3 i0 (.int .i64 0) 1 8 Try.underlying22 hi hz0 hz1 hz2 rfl (by decide) (.slice Av q cv) q (zs.map (Value.int .i64)) (by rfl) (HOW.out _ (by first | exact B02.out | exact B03.out | exact B01.out)) ⟨_, 0, none⟩ 1 1 [.int .i64 (k : Int)] (by rfl) rfl (by first | exact cell_one_new wi.drew _ _ | exact cell_one_new wi _ _) (ints_oneCell .i64 [(k : Int)]) HQ1.out.1 HQ1.out.2 (by simp; omega) ?_; intro v' w1 hown hgr hloc; obtain ⟨w2, hr2, hF1, HG2, HB2, HS2, hC2⟩ := HAFT.out _ w1 v' (by first | exact B02.out | exact B03.out | exact B01.out) hown hgr hloc; have hF1 := hid hF1; obtain ⟨g1, cp1, rfl⟩ : ∃ A1 cp1, v' = .slice A1 (q + 1) cp1 := (by rcases hown.2 with ⟨_, h0⟩ | ⟨g, cap, cur, h, _⟩; exact absurd h0 (by omega); exact ⟨_, _, h⟩); clear hown hgr hloc))
            all_goals
              clear hl0 hl1 hl2 hl3 hl4 hr2
              go_wp2_with fail
              go_roundw
              case rel => exact HG2.out.elim fun D2 hg => ⟨j + 1, n' + 1, D2, by go_num, by omega, hid (by omega), hid hg, HB2, HS2⟩
              case measure => simp [intOf]; omega
          · have hjz : ¬ (j : Int) < (bk.length : Int) := by omega
            have HG2 := hid (hG.out.congr fun x => (Cr.holdK_next hlt (by rw [HBK.out]; omega) x).trans (Cr.holdK_start bad (k + 1) x).symm)
            have hN2 : Hid (n' ≤ (k + 1) * 1000) := hid (by have := hN.out; omega)
            clear hG hN
            go_wp2_with fail
            go_roundw
            case rel => exact ⟨k + 1, n', D', by go_num, by omega, hN2, HG2, hB, hS6⟩
            case measure => simp [intOf]; omega
    · have hkz : ¬ (k : Int) < (bad.length : Int) := by omega
      have hke : k = bad.length := by omega
      have HG := hid (show Beg wo w.heap.size n D (Cr.holdN bad) (Cr.lacks bad []) (Cr.zeros (Cr.lacks bad [])) by
        have := hG.out
        rw [hke, Cr.lenK_end, Cr.noneK_end] at this
        exact this.congr (Cr.holdK_end bad))
      have hN2 := hid (show n ≤ 2000000 by have := hN.out; omega)
      clear hG hN hke
      go_wp2_with fail
      obtain ⟨fb, hfb⟩ : ∃ fb, wo.heap.size = fb := ⟨_, rfl⟩
      rw [hfb]
      obtain ⟨w3, hw3⟩ : ∃ w3, ((wo.alloc (.cells #[.func (.func 33) #[] #[.pointer (some ⟨w.heap.size + 1 + 1, 0, none⟩), .pointer (some ⟨w.heap.size + 1 + 1 + 1 + 1, 0, none⟩), .pointer (some ⟨w.heap.size + 1 + 1 + 1 + 1 + 1, 0, none⟩)]] 45)).alloc (.cells #[.func (.func 34) #[] #[.pointer (some ⟨fb, 0, none⟩)], .func (.func 35) #[] #[.pointer (some ⟨fb, 0, none⟩)], .func (.func 36) #[] #[.pointer (some ⟨w.heap.size + 1 + 1 + 1 + 1 + 1, 0, none⟩)]] 39)) = w3 := ⟨_, rfl⟩
      have b3 : Below fb wo w3 := by rw [← hw3, ← hfb]; exact (below_new _).alloc (by simp) _
      have z3 : w3.heap.size = fb + 2 := by rw [← hw3, ← hfb]; simp
      have f3 : Fr (fun i => fb ≤ i) wo w3 := Fr.of_below b3 fun i hi => hi
      have hs6 := hS6.out
      rw [hfb] at hs6
      have T0 := hid (show Tr w3 w.heap.size fb (fb + 2) bad [] from by
        refine ⟨⟨n, D, hN2.out, groups_fr HG.out.grp f3 (by omega) (fun es clock hb x hx g hg hlo hQ => ?_), HG.out.hold, fun es clock hb x hx g hg hQ => ?_⟩, f3.heap HG.out.box (by omega), f3.heap HG.out.row (by omega), f3.heap HG.out.lbox (by omega), f3.heap HG.out.cbox (by omega), ?_, by omega, by omega, by simp [Cr.lacks]⟩
        · exact (groups_shun HG.out.grp fb (by omega)) es clock hb x hx g hg hQ
        · obtain ⟨es0, clock0, hb0, -⟩ := HG.out.grp
          have e := f3.heap hb0 (by omega)
          rw [hb] at e
          cases e
          have hQ2 : fb + 2 ≤ g := hQ
          exact (groups_shun HG.out.grp fb (by omega)) es clock hb0 x hx g hg (by omega)
        · rw [← hw3, Below.heap_alloc _ _ _ (by simp; omega), ← hfb]
          exact heap_alloc_new _ _)
      have X0 := hid (show w3.heap[fb + 1]? = some (.cells #[.func (.func 34) #[] #[.pointer (some ⟨fb, 0, none⟩)], .func (.func 35) #[] #[.pointer (some ⟨fb, 0, none⟩)], .func (.func 36) #[] #[.pointer (some ⟨w.heap.size + 5, 0, none⟩)]] 39 (0, 0)) by
        rw [← hw3, ← hfb]
        have := heap_alloc_new (wo.alloc (.cells #[.func (.func 33) #[] #[.pointer (some ⟨w.heap.size + 1 + 1, 0, none⟩), .pointer (some ⟨w.heap.size + 1 + 1 + 1 + 1, 0, none⟩), .pointer (some ⟨w.heap.size + 1 + 1 + 1 + 1 + 1, 0, none⟩)]] 45)) (.cells #[.func (.func 34) #[] #[.pointer (some ⟨wo.heap.size, 0, none⟩)], .func (.func 35) #[] #[.pointer (some ⟨wo.heap.size, 0, none⟩)], .func (.func 36) #[] #[.pointer (some ⟨w.heap.size + 1 + 1 + 1 + 1 + 1, 0, none⟩)]] 39)
        simpa using this)
      have R0 := hid (show w3.heap[w.heap.size]? = some (.cells #[.nilFunc, .nilFunc, .nilFunc] 39 (0, 0)) from f3.heap HG.out.res (by omega))
      have B0 := hid (show Below w.heap.size w w3 from hB.out.trans (b3.mono (by omega)))
      have Z0 := hid (show fb + 2 ≤ w3.heap.size by omega)
      have HS6 := hid hs6
      rw [hw3]
      clear hw3 b3 z3 f3 hs6 hB hS6 HG hN2 hfb hlt hkz
      go_loopw [60] (fun v60 wr => ∃ j : Nat, v60 = .int .i64 j ∧ j ≤ S.length ∧ Hid (Tr wr w.heap.size fb (fb + 2) bad (S.take j).reverse) ∧ Hid (Fr (fun i => w.heap.size < i ∧ i < fb) w3 wr)) (fun v60 _ => S.length - (intOf v60).toNat)
      case atStart => exact ⟨0, rfl, by omega, hid (by simpa using T0.out), hid (Fr.refl _ _)⟩
      case round =>
        obtain ⟨j, rfl, hj, hT, hF⟩ := hrel
        obtain ⟨wi, hwi⟩ : ∃ wi : World, wi = wr := ⟨_, rfl⟩
        subst hwi
        have HX4 := hid (hF.out.heap X0.out (by omega))
        have HB4 := hid (show Below w.heap.size w wi from B0.out.trans (hF.out.below (by have := B0.out.size; omega) fun i hi => by omega))
        by_cases hjt : j < S.length
        · have hjz : (j : Int) < (S.length : Int) := by omega
          obtain ⟨b1, o1, rfl, -, c1⟩ := HX.out.atv HB4.out hjt
          have hz := HX.out.inZ S[j] (List.getElem_mem hjt)
          have hnot : S[j] ∉ (S.take j).reverse := fun h => by
            rw [List.mem_reverse] at h
            obtain ⟨i, hi, he⟩ := List.getElem_of_mem h
            have hi2 : i < j := by simp at hi; omega
            rw [List.getElem_take] at he
            exact (List.pairwise_iff_getElem.1 HS.out) i j (by omega) hjt hi2 he
          have HPUT := hid (put_any hT.out HBF.out S[j] hz hnot)
          have HTK := hid (show (S.take (j + 1)).reverse = S[j] :: (S.take j).reverse by rw [List.take_succ_eq_append_getElem hjt]; simp)
          obtain ⟨x, hx⟩ : ∃ x, S[j] = x := ⟨_, rfl⟩
          rw [hx] at c1 HPUT HTK
          have cx : wi.cell? ⟨fb + 1, 0, none⟩ = some (.func (.func 34) #[] #[.pointer (some ⟨fb, 0, none⟩)]) := (heap_cell HX4.out 0).trans rfl
          clear hz hnot hx
          go_wp2_with fail
          refine (HPUT.out).mono ?_
          rintro e w4 ⟨rfl, h1, h2⟩
          rw [← HTK.out] at h1
          have HT2 := hid h1
          have HF2 := hid (hF.out.trans (h2.mono fun i _ hi => by have := HS6.out; omega))
          clear h1 h2 cx c1
          go_wp2_with fail
          go_roundw
          case rel => exact ⟨j + 1, by go_num, by omega, HT2, HF2⟩
          case measure => simp [intOf]; omega
        · have hjz : ¬ (j : Int) < (S.length : Int) := by omega
          have hT1 := hT.out
          rw [List.take_of_length_le (by omega)] at hT1
          have HT2 := hid (show Tr wi w.heap.size fb (fb + 2) bad S from hT1.congr fun x => List.mem_reverse)
          have HR4 := hid (hF.out.heap R0.out (by omega))
          have x0 : wi.cell? ⟨fb + 1, 0, none⟩ = some (.func (.func 34) #[] #[.pointer (some ⟨fb, 0, none⟩)]) := (heap_cell HX4.out 0).trans rfl
          have x1 : wi.cell? ⟨fb + 1, 1, none⟩ = some (.func (.func 35) #[] #[.pointer (some ⟨fb, 0, none⟩)]) := (heap_cell HX4.out 1).trans rfl
          have x2 : wi.cell? ⟨fb + 1, 2, none⟩ = some (.func (.func 36) #[] #[.pointer (some ⟨w.heap.size + 5, 0, none⟩)]) := (heap_cell HX4.out 2).trans rfl
          have y0 : wi.cell? ⟨w.heap.size, 0, none⟩ = some .nilFunc := (heap_cell HR4.out 0).trans rfl
          have y1 : wi.cell? ⟨w.heap.size, 1, none⟩ = some .nilFunc := (heap_cell HR4.out 1).trans rfl
          have y2 : wi.cell? ⟨w.heap.size, 2, none⟩ = some .nilFunc := (heap_cell HR4.out 2).trans rfl
          have g0 : wi.frozen? ⟨w.heap.size, 0, none⟩ = false := heap_free HR4.out 0
          have g1 : wi.frozen? ⟨w.heap.size, 1, none⟩ = false := heap_free HR4.out 1
          have g2 : wi.frozen? ⟨w.heap.size, 2, none⟩ = false := heap_free HR4.out 2
          have HZ4 := hid (Nat.le_trans Z0.out hF.out.size)
          clear hT1 hT hF
          go_wp2_with fail
          obtain ⟨wf, hwf⟩ : ∃ wf, ((wi.setCell ⟨w.heap.size, 0, none⟩ (.func (.func 34) #[] #[.pointer (some ⟨fb, 0, none⟩)])).setCell ⟨w.heap.size, 1, none⟩ (.func (.func 35) #[] #[.pointer (some ⟨fb, 0, none⟩)])).setCell ⟨w.heap.size, 2, none⟩ (.func (.func 36) #[] #[.pointer (some ⟨w.heap.size + 5, 0, none⟩)]) = wf := ⟨_, rfl⟩
          have hfr : Fr (fun i => i = w.heap.size) wi wf := by
            have hone : ∀ (W : World) (i : Nat) (u : Value), Fr (fun i => i = w.heap.size) W (W.setCell ⟨w.heap.size, i, none⟩ u) := fun W i u => Fr.setCell W _ u rfl
            rw [← hwf]
            exact ((hone _ _ _).trans (hone _ _ _)).trans (hone _ _ _)
          have hbx : wf.heap[w.heap.size]? = some (.cells #[.func (.func 34) #[] #[.pointer (some ⟨fb, 0, none⟩)], .func (.func 35) #[] #[.pointer (some ⟨fb, 0, none⟩)], .func (.func 36) #[] #[.pointer (some ⟨w.heap.size + 5, 0, none⟩)]] 39 (0, 0)) := by
            rw [← hwf]
            exact (heap_setCell_same _ _ 2 _ _ _ (heap_setCell_same _ _ 1 _ _ _ (heap_setCell_same _ _ 0 _ _ _ HR4.out))).trans rfl
          have HE := hid (show BegPost S bad w (.returned (.agg #[.func (.func 34) #[] #[.pointer (some ⟨fb, 0, none⟩)], .func (.func 35) #[] #[.pointer (some ⟨fb, 0, none⟩)], .func (.func 36) #[] #[.pointer (some ⟨w.heap.size + 5, 0, none⟩)]])) wf from
            ⟨fb, fb + 2, rfl, TrC.fr HT2.out hfr (fun i hi => Or.inl (Nat.le_of_eq hi)), Nat.le_trans HZ4.out hfr.size, HB4.out.trans (hfr.below HB4.out.size fun i hi e => by omega)⟩)
          rw [hwf]
          have q0 : wf.cell? ⟨w.heap.size, 0, none⟩ = some (.func (.func 34) #[] #[.pointer (some ⟨fb, 0, none⟩)]) := (heap_cell hbx 0).trans rfl
          have q1 : wf.cell? ⟨w.heap.size, 1, none⟩ = some (.func (.func 35) #[] #[.pointer (some ⟨fb, 0, none⟩)]) := (heap_cell hbx 1).trans rfl
          have q2 : wf.cell? ⟨w.heap.size, 2, none⟩ = some (.func (.func 36) #[] #[.pointer (some ⟨w.heap.size + 5, 0, none⟩)]) := (heap_cell hbx 2).trans rfl
          clear hwf hfr hbx
          exact bodyPost_ret (v := .agg #[.func (.func 34) #[] #[.pointer (some ⟨fb, 0, none⟩)], .func (.func 35) #[] #[.pointer (some ⟨fb, 0, none⟩)], .func (.func 36) #[] #[.pointer (some ⟨w.heap.size + 5, 0, none⟩)]]) (by simp [results, Try.results27, q0, q1, q2, go_sem]) rfl HE.out
end Go.Proofs.Ytnhjiappmblnmaa
