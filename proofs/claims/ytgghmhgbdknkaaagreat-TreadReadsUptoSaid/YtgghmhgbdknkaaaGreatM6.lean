/-
  The texts TyRe, TyAp, TyRf, TyRs, TyRw, one behind the other. Conditions: those that each of them names.
-/
import Derived.Test.YtgghmhgbdknkaaaGreatM3
import Derived.Test.YtgghmhgbdknkaaaGreatM2
import Derived.Test.YtgghmhgbdknkaaaGreatM1
import Derived.Deep.CutRange
section
/-
  Plain lists: what the least labels, one behind the other, make: the one rising order, if there is one. No conditions but those that each lemma names.
-/
namespace Go.Proofs.YtgghmhgbdknkaaaGreat.L
open Go

theorem nodup_sub : ∀ (l : List Nat), l.Nodup → ∀ js : List Nat, (∀ x ∈ l, x ∈ js) → l.length ≤ js.length
  | [], _, _, _ => Nat.zero_le _
  | a :: l, hn, js, h => by
    have ha : a ∈ js := h a (by simp)
    have hn' := List.nodup_cons.1 hn
    have := nodup_sub l hn'.2 (js.erase a) (fun x hx => by
      have hne : x ≠ a := by rintro rfl; exact hn'.1 hx
      exact (List.mem_erase_of_ne hne).2 (h x (by simp [hx])))
    have hl := List.length_erase_of_mem ha
    have hp : 0 < js.length := List.length_pos_of_mem ha
    simp only [List.length_cons]
    omega

theorem perm_of_nodup {n : Nat} {js : List Nat} (hn : js.Nodup) (hl : js.length = n) (hlt : ∀ x ∈ js, x < n) : js.Perm (List.range n) := by
  induction n generalizing js with
  | zero =>
    have : js = [] := List.eq_nil_of_length_eq_zero hl
    subst this
    exact List.Perm.refl _
  | succ n ih =>
    have hm : n ∈ js := by
      rcases Decidable.em (n ∈ js) with h | h
      · exact h
      · have := nodup_sub js hn (List.range n) (fun x hx => by
          have h1 := hlt x hx
          have h2 : x ≠ n := by rintro rfl; exact h hx
          exact List.mem_range.2 (by omega))
        rw [List.length_range] at this
        omega
    have hp := List.perm_cons_erase hm
    have hn2 : (js.erase n).Nodup := hn.erase n
    have hl2 : (js.erase n).length = n := by rw [List.length_erase_of_mem hm, hl]; rfl
    have := ih hn2 hl2 (fun x hx => by
      have h1 := hlt x (List.mem_of_mem_erase hx)
      have h2 : x ≠ n := by rintro rfl; exact (hn.mem_erase_iff.1 hx).1 rfl
      omega)
    rw [List.range_succ]
    exact hp.trans ((this.cons n).trans (List.perm_append_singleton n (List.range n)).symm)

/-- How far the least labels were taken: the numbers so far, the last label. -/
structure Sel (ss : List ByteArray) (js : List Nat) (done : ByteArray) : Prop where
  rise : Rise ss js
  lt : ∀ x ∈ js, x < ss.length
  cov : ∀ i, i < ss.length → ¬ Lib.compareBytes done.data.toList (labL ss i) < 0 → ∃ j ∈ js, labL ss j = labL ss i
  top : ∀ j ∈ js, ¬ Lib.compareBytes done.data.toList (labL ss j) < 0

theorem cB_nil {s : List UInt8} (h : s ≠ []) : Lib.compareBytes [] s < 0 := by
  cases s with
  | nil => exact absurd rfl h
  | cons a r => simp [Lib.compareBytes]

theorem Sel.start (ss : List ByteArray) (h : ∀ i, i < ss.length → labL ss i ≠ []) : Sel ss [] ⟨#[]⟩ where
  rise := List.Pairwise.nil
  lt := by simp
  cov := fun i hi hn => absurd (cB_nil (h i hi)) hn
  top := by simp

theorem Rise.nodup {ss : List ByteArray} {js : List Nat} (h : Rise ss js) : js.Nodup := by
  unfold Rise at h
  exact h.imp (fun {a b} hab => by rintro rfl; rw [cB_self] at hab; omega)

theorem Rise.inj {ss : List ByteArray} {js : List Nat} (h : Rise ss js) {a b : Nat} (ha : a ∈ js) (hb : b ∈ js) (he : labL ss a = labL ss b) : a = b := by
  unfold Rise at h
  rw [List.pairwise_iff_getElem] at h
  obtain ⟨i, hi, rfl⟩ := List.getElem_of_mem ha
  obtain ⟨j, hj, rfl⟩ := List.getElem_of_mem hb
  rcases Nat.lt_trichotomy i j with h1 | h1 | h1
  · have := h i j hi hj h1
    rw [he, cB_self] at this
    omega
  · subst h1; rfl
  · have := h j i hj hi h1
    rw [he, cB_self] at this
    omega

/-- The least label behind the last one is taken. -/
theorem Sel.step {ss : List ByteArray} {js : List Nat} {done : ByteArray} (h : Sel ss js done) {b : Nat} (hb : b < ss.length) (hd : Lib.compareBytes done.data.toList (labL ss b) < 0)
    (hm : ∀ i, i < ss.length → Lib.compareBytes done.data.toList (labL ss i) < 0 → ¬ Lib.compareBytes (labL ss i) (labL ss b) < 0) : Sel ss (js ++ [b]) (ss.getD b ⟨#[]⟩) where
  rise := by
    have hr := h.rise
    unfold Rise at hr ⊢
    rw [List.pairwise_append]
    refine ⟨hr, List.pairwise_singleton _ _, fun x hx y hy => ?_⟩
    rw [List.mem_singleton.1 hy]
    have h1 := h.top x hx
    rcases Int.lt_or_le (Lib.compareBytes (labL ss x) (labL ss b)) 0 with h2 | h2
    · exact h2
    · exfalso
      have h3 := cB_anti done.data.toList (labL ss x)
      have h4 : ¬ Lib.compareBytes (labL ss x) (labL ss b) < 0 := by omega
      exact cB_ntrans h1 h4 hd
  lt := fun x hx => by
    rcases List.mem_append.1 hx with hx | hx
    · exact h.lt x hx
    · rw [List.mem_singleton.1 hx]; exact hb
  cov := fun i hi hn => by
    have hn' : ¬ Lib.compareBytes (labL ss b) (labL ss i) < 0 := hn
    by_cases hdi : Lib.compareBytes done.data.toList (labL ss i) < 0
    · have h1 := hm i hi hdi
      have h2 := cB_anti (labL ss i) (labL ss b)
      exact ⟨b, by simp, cB_zero (by omega)⟩
    · obtain ⟨j, hj, e⟩ := h.cov i hi hdi
      exact ⟨j, by simp [hj], e⟩
  top := fun j hj => by
    show ¬ Lib.compareBytes (labL ss b) (labL ss j) < 0
    rcases List.mem_append.1 hj with hj | hj
    · intro hlt
      exact h.top j hj (cB_trans hd hlt)
    · rw [List.mem_singleton.1 hj, cB_self]; omega

/-- No label is left though numbers are: a label is there twice. -/
theorem Sel.stuck {ss : List ByteArray} {js : List Nat} {done : ByteArray} (h : Sel ss js done) (hl : js.length < ss.length) (hd : ∀ i, i < ss.length → ¬ Lib.compareBytes done.data.toList (labL ss i) < 0) :
    ¬ ∃ ks : List Nat, ks.Perm (List.range ss.length) ∧ Rise ss ks := by
  rintro ⟨ks, hp, hr⟩
  have hmem : ∀ i, i < ss.length → i ∈ ks := fun i hi => hp.mem_iff.2 (List.mem_range.2 hi)
  have := nodup_sub (List.range ss.length) List.nodup_range js (fun i hi => by
    have hi' := List.mem_range.1 hi
    obtain ⟨j, hj, e⟩ := h.cov i hi' (hd i hi')
    rw [← hr.inj (hmem j (h.lt j hj)) (hmem i hi') e]
    exact hj)
  rw [List.length_range] at this
  omega

theorem Sel.done {ss : List ByteArray} {js : List Nat} {done : ByteArray} (h : Sel ss js done) (hl : js.length = ss.length) : js.Perm (List.range ss.length) :=
  perm_of_nodup h.rise.nodup hl h.lt

end Go.Proofs.YtgghmhgbdknkaaaGreat.L
end

section
/-
  An append of a slice that reads as nodes, nil or not, to a row that the call itself has made. Condition: together at most 40000 nodes.
-/
namespace Go.Proofs.YtgghmhgbdknkaaaGreat
open Go.RowKit

theorem run_append_none (w : World) (A : Option Addr) (n cap : Nat) (hn : n ≤ cap) : (Builtin.append_ #[26, 26] 26 #[.slice A n cap, .slice none 0 0]).run Tryz.prog w = .ok (.slice A n cap) w := by
  obtain ⟨i0, hi, hz0, hz1, hz2⟩ := info_parts infoNode
  have hu := run_underlying (w := w) Tryz.underlying26
  cases A with
  | none => simp [Builtin.append_, hu, sizeOf, typeInfo, hi, Builtin.lenOf, hn, Builtin.firstCells]
  | some a => simp [Builtin.append_, hu, sizeOf, typeInfo, hi, Builtin.lenOf, hn, Builtin.firstCells, storeCells]

set_option maxRecDepth 100000 in
theorem wpList_app {ops : Array Oper} {rest : List Oper} {w : World} {o : Oper} {a : Act} {Q : Exit → Act → World → Prop} (hgd : o.guard = none) (s x : Operand)
    (ho : o.op = .call { callee := .builtin .append, args := #[s, x], argTypes := #[26, 26] }) (hty : o.type = 26)
    (B : Nat) (v vx : Value) (l lx : List L.Nd) (hs : a.eval s = v) (hown : Own B v l w) (hx : a.eval x = vx) (hr : Rd w w.heap.size vx lx)
    (hl : l.length + lx.length ≤ 40000) (hB : B ≤ w.heap.size)
    (h : ∀ v' w', Own B v' (l ++ lx) w' → w.grownBy w' v.ownBlock → wpList Tryz.prog ops Q rest (a.put o.dst v') w') : wpList Tryz.prog ops Q (o :: rest) a w := by
  obtain ⟨i0, hi, hz0, hz1, hz2⟩ := info_parts infoNode
  rcases hr.src with ⟨rfl, rfl⟩ | ⟨ad, cap, rfl, hsrc⟩
  · obtain ⟨A, c, hv, hn, -⟩ := hown.rd
    refine wpList_plain hgd fun K hK => ?_
    unfold Oper.wp execOp
    have hrn := run_append_none w A l.length c hn
    rw [← hv] at hrn
    simp only [ho, hty, resolve, invoke, builtin, Sem.run_bind, Sem.run_pure, Result.andThen_ok, List.map_toArray, List.map_cons, List.map_nil, hs, hx, hrn]
    exact hK _ _ (h v w (by simpa using hown) (grown_refl w _))
  · refine wpList_append_own w hgd s x 26 ho B 54 i0 (.agg #[.int .i64 0, .string ⟨#[]⟩, .int .i64 0]) 3 32 Tryz.underlying26 hi hz0 hz1 hz2 rfl (by decide) v l.length (cellsN l) hs hown ad lx.length cap (cellsN lx) hx (cellsN_len lx) hsrc (cellsN_one lx) (by unfold maxLen; omega) (by omega) hB ?_
    intro v' w' h1 h2 _
    exact h v' w' (Own.append h1) h2

set_option maxRecDepth 100000 in
theorem wpList_app2 {ops : Array Oper} {rest : List Oper} {w : World} {o : Oper} {a : Act} {Q : Exit → Act → World → Prop} (hgd : o.guard = none) (s x : Operand)
    (ho : o.op = .call { callee := .builtin .append, args := #[s, x], argTypes := #[26, 26] }) (hty : o.type = 26)
    (B : Nat) (v vx : Value) (l lx : List L.Nd) (hs : a.eval s = v) (hown : Own B v l w) (hx : a.eval x = vx) (hr : Rd w w.heap.size vx lx)
    (hl : l.length + lx.length ≤ 4000000) (hB : B ≤ w.heap.size)
    (h : ∀ v' w', Own B v' (l ++ lx) w' → w.grownBy w' v.ownBlock → wpList Tryz.prog ops Q rest (a.put o.dst v') w') : wpList Tryz.prog ops Q (o :: rest) a w := by
  obtain ⟨i0, hi, hz0, hz1, hz2⟩ := info_parts infoNode
  rcases hr.src with ⟨rfl, rfl⟩ | ⟨ad, cap, rfl, hsrc⟩
  · obtain ⟨A, c, hv, hn, -⟩ := hown.rd
    refine wpList_plain hgd fun K hK => ?_
    unfold Oper.wp execOp
    have hrn := run_append_none w A l.length c hn
    rw [← hv] at hrn
    simp only [ho, hty, resolve, invoke, builtin, Sem.run_bind, Sem.run_pure, Result.andThen_ok, List.map_toArray, List.map_cons, List.map_nil, hs, hx, hrn]
    exact hK _ _ (h v w (by simpa using hown) (grown_refl w _))
  · refine wpList_append_own w hgd s x 26 ho B 54 i0 (.agg #[.int .i64 0, .string ⟨#[]⟩, .int .i64 0]) 3 32 Tryz.underlying26 hi hz0 hz1 hz2 rfl (by decide) v l.length (cellsN l) hs hown ad lx.length cap (cellsN lx) hx (cellsN_len lx) hsrc (cellsN_one lx) (by unfold maxLen; omega) (by omega) hB ?_
    intro v' w' h1 h2 _
    exact h v' w' (Own.append h1) h2

end Go.Proofs.YtgghmhgbdknkaaaGreat
end

section
/-
  The walk of the reference's Row. Conditions: at most 200 labels of at most 2000000 bytes, at most 200 types, none empty, of at most 20000 nodes each.
-/
namespace Go.Proofs.YtgghmhgbdknkaaaGreat
open Go.RowKit

/-- What the reference's Row tells. -/
def RefRowPost (kind : Int) (ss : List ByteArray) (ts : List (Value × List L.Nd)) (w : World) (e : Ending) (w' : World) : Prop :=
  Below w.heap.size w w' ∧
  ((L.isRow kind ss (ts.length : Int) = false ∧ e = .returned (.tuple #[.slice none 0 0, .int .i64 1])) ∨
   (L.isRow kind ss (ts.length : Int) = true ∧
     (((¬ ∃ ks : List Nat, ks.Perm (List.range ss.length) ∧ L.Rise ss ks) ∧ e = .returned (.tuple #[.slice none 0 0, .int .i64 7])) ∨
      ∃ ks : List Nat, ks.Perm (List.range ss.length) ∧ L.Rise ss ks ∧ ∃ v', e = .returned (.tuple #[v', .int .i64 0]) ∧ Own w.heap.size v' (⟨kind, ⟨#[]⟩, (ts.length : Int)⟩ :: rowsL ss ts ks) w')))

theorem labL_some {ss : List ByteArray} {i : Nat} (h : i < ss.length) : L.labL ss i = ss[i].data.toList := by
  unfold L.labL
  simp [List.getD, h]

theorem less_lab {ss : List ByteArray} {i : Nat} (h : i < ss.length) (d : ByteArray) : (Op.bytesLess d.toList ss[i].toList = true ↔ Lib.compareBytes d.data.toList (L.labL ss i) < 0) ∧ (Op.bytesLess d.toList ss[i].toList = false ↔ ¬ Lib.compareBytes d.data.toList (L.labL ss i) < 0) := by
  have := L.ltB_iff d ss[i]
  unfold L.ltB at this
  rw [this, labL_some h]
  simp

theorem cmp3 {ss : List ByteArray} {i : Nat} (h : i < ss.length) (d : ByteArray) :
    (Lib.compareBytes d.data.toList (L.labL ss i) < 0 ∧ Op.bytesLess (ss[i]'h).toList d.toList = false ∧ ((ss[i]'h).toList == d.toList) = false) ∨
    (¬ Lib.compareBytes d.data.toList (L.labL ss i) < 0 ∧ Op.bytesLess (ss[i]'h).toList d.toList = true) ∨
    (¬ Lib.compareBytes d.data.toList (L.labL ss i) < 0 ∧ Op.bytesLess (ss[i]'h).toList d.toList = false ∧ ((ss[i]'h).toList == d.toList) = true) := by
  have h1 := L.ltB_iff (ss[i]'h) d
  unfold L.ltB at h1
  have h2 := L.cB_anti d.data.toList (L.labL ss i)
  have he := eqS (ss[i]'h) d
  rw [← labL_some h] at h1
  rcases Int.lt_trichotomy (Lib.compareBytes d.data.toList (L.labL ss i)) 0 with h3 | h3 | h3
  · refine Or.inl ⟨h3, ?_, ?_⟩
    · rw [h1]; simp; omega
    · rw [he]
      simp only [decide_eq_false_iff_not]
      intro e
      rw [labL_some h, e, L.cB_self] at h3
      omega
  · refine Or.inr (Or.inr ⟨by omega, ?_, ?_⟩)
    · rw [h1]; simp; omega
    · rw [he, decide_eq_true_eq]
      have := L.cB_zero h3
      rw [labL_some h] at this
      exact (L.ba_eq this).symm
  · refine Or.inr (Or.inl ⟨by omega, ?_⟩)
    rw [h1]; simp; omega

/-- A cell of a row of nodes turns: the label of the first node of what was put behind. -/
theorem cells_named (l T : List L.Nd) (h : T ≠ []) (s : ByteArray) : (cellsN (l ++ T)).set (l.length * 3 + 1) (.string s) = cellsN (l ++ L.setName T s) := by
  rw [cellsN_append, cellsN_append, cellsN_setName h, List.set_append_right _ _ (by rw [cellsN_len]; omega), cellsN_len]
  congr 2
  omega

theorem own_named {B : Nat} {v : Value} {l T : List L.Nd} {w : World} (h : Own B v (l ++ T) w) (hT : T ≠ []) (s : ByteArray) :
    ∃ g cap, v = .slice (some ⟨g, 0, none⟩) (l.length + T.length) cap ∧ B ≤ g ∧ g < w.heap.size ∧ (∃ u, w.cell? ⟨g, l.length * 3 + 1, none⟩ = some u) ∧ w.frozen? ⟨g, l.length * 3 + 1, none⟩ = false ∧
      Own B v (l ++ L.setName T s) (w.setCell ⟨g, l.length * 3 + 1, none⟩ (.string s)) := by
  have hT0 : 0 < T.length := List.length_pos_iff.2 hT
  have hne : l ++ T ≠ [] := by intro h0; exact hT (List.append_eq_nil_iff.1 h0).2
  obtain ⟨g, cap, hv, -⟩ := h.slice hne
  have hlt := h.lt g (by rw [hv]; rfl)
  have ho := h
  unfold Own at ho
  rw [hv] at ho
  obtain ⟨hst, -⟩ := World.ownsRow.stored ho (l.length * 3 + 1) (.string s)
  have e : (l ++ L.setName T s).length = (l ++ T).length := by rw [List.length_append, L.setName_length, List.length_append]
  refine ⟨g, cap, by rw [hv, List.length_append], hlt.1, hlt.2, ?_, World.ownsRow.frozenAt ho _, ?_⟩
  · have h1 := World.ownsRow.cellAt ho (l.length * 3 + 1) (by rw [List.length_append]; omega)
    have h2 := (cellsN_get (l ++ T) l.length (by rw [List.length_append]; omega)).2.1
    exact ⟨_, h1.trans h2⟩
  · unfold Own
    rw [← cells_named l T hT s, e, hv]
    exact hst

/-- How far the least label is sought. -/
def SelIn (ss : List ByteArray) (n : Nat) (dn : ByteArray) (w0 w1 : World) (vb vi : Value) (wx : World) : Prop :=
  ∃ (best : Int) (i : Nat), vb = .int .i64 best ∧ vi = .int .i64 i ∧ i ≤ n ∧ (-1 ≤ best ∧ best < (ss.length : Int)) ∧ Below w0.heap.size w0 wx ∧ Below w1.heap.size w1 wx ∧
    Hid ((best < 0 ∧ ∀ x, x < i → ¬ Lib.compareBytes dn.data.toList (L.labL ss x) < 0) ∨ (0 ≤ best ∧ best.toNat < i ∧ Lib.compareBytes dn.data.toList (L.labL ss best.toNat) < 0 ∧ ∀ x, x < i → Lib.compareBytes dn.data.toList (L.labL ss x) < 0 → ¬ Lib.compareBytes (L.labL ss x) (L.labL ss best.toNat) < 0))
/-- How far the row is made. -/
def SelOut (kind : Int) (ss : List ByteArray) (ts : List (Value × List L.Nd)) (w : World) (vo vd vk : Value) (wr : World) : Prop :=
  ∃ (k : Nat) (js : List Nat) (dn : ByteArray), vd = .string dn ∧ vk = .int .i64 k ∧ k ≤ ts.length ∧ dn.size ≤ 2000000 ∧ Own w.heap.size vo (⟨kind, ⟨#[]⟩, (ts.length : Int)⟩ :: rowsL ss ts js) wr ∧ Below w.heap.size w wr ∧ Hid (js.length = k ∧ L.Sel ss js dn)

set_option maxHeartbeats 8000000 in
set_option maxRecDepth 100000 in
theorem refRow_any (kind : Int) (ss : List ByteArray) (ts : List (Value × List L.Nd)) (hsz : ∀ s ∈ ss, s.size ≤ 2000000) (hsn : ss.length ≤ 200) (htn : ts.length ≤ 200) (ht0 : ∀ t ∈ ts, t.2 ≠ []) (htl : ∀ t ∈ ts, t.2.length ≤ 20000)
    (vs vt : Value) (w : World) (hxs : RdS w w.heap.size vs ss) (hxt : RdT w vt ts) :
    Calls Tryz.prog 63 #[.int .i64 kind, vs, vt] w (RefRowPost kind ss ts w) := by
  obtain ⟨i0, hi, hz0, hz1, hz2⟩ := info_parts infoNode
  have HXS := hid hxs
  have HXT := hid hxt
  have HT0 := hid ht0
  have HTL := hid htl
  have HSZ := hid hsz
  obtain ⟨A, cap, rfl, -⟩ := hxs
  obtain ⟨⟨A2, cap2, rfl, -⟩, -⟩ := hxt
  clear hsz ht0 htl
  by_cases hk : kind = 6 ∨ kind = 7
  case neg =>
    have z6 : (kind != 6) = true := by simp; omega
    have z7 : (kind != 7) = true := by simp; omega
    have HZ : Hid (L.isRow kind ss (ts.length : Int) = false) := hid (by
      have h1 : ¬ kind = 6 := by omega
      have h2 : ¬ kind = 7 := by omega
      simp [L.isRow, h1, h2])
    clear hk
    go_enter Tryz.func63, Tryz.ntmps63
    go_wp2
    go_ret2
    exact ⟨Below.refl _ _, Or.inl ⟨HZ.out, rfl⟩⟩
  by_cases hln : ss.length = ts.length ∧ ts.length ≤ 50 ∧ (kind = 7 → 0 < ts.length)
  case neg =>
    have HZ : Hid (L.isRow kind ss (ts.length : Int) = false) := hid (by
      cases h : L.isRow kind ss (ts.length : Int) with
      | false => rfl
      | true =>
        obtain ⟨h1, h2⟩ := isRow_facts h
        refine absurd ⟨by omega, by omega, fun h7 => ?_⟩ hln
        simp only [L.isRow, Bool.and_eq_true, Bool.or_eq_true, decide_eq_true_eq] at h
        have h3 := h.2.2.1
        unfold L.numbered at h3
        simp [h7] at h3
        omega)
    by_cases h1 : ss.length = ts.length
    · by_cases h2 : ts.length ≤ 50
      · have h3 : kind = 7 ∧ ts.length = 0 := by
          rcases hk with rfl | rfl
          · exact absurd ⟨h1, h2, fun h => by omega⟩ hln
          · refine ⟨rfl, ?_⟩
            rcases Nat.eq_zero_or_pos ts.length with h | h
            · exact h
            · exact absurd ⟨h1, h2, fun _ => h⟩ hln
        obtain ⟨rfl, h4⟩ := h3
        have z1 : ((ss.length : Int) != (ts.length : Int)) = false := by simp; omega
        have z2 : ((ts.length : Int) == 0) = true := by
          have : (ts.length : Int) = 0 := by omega
          rw [this]
          rfl
        clear hk hln h1 h4
        go_enter Tryz.func63, Tryz.ntmps63
        go_wp2
        go_ret2
        exact ⟨Below.refl _ _, Or.inl ⟨HZ.out, rfl⟩⟩
      · have z1 : ((ss.length : Int) != (ts.length : Int)) = false := by simp; omega
        have z3 : (50 : Int) < (ts.length : Int) := by omega
        clear hln h1 h2
        rcases hk with rfl | rfl
        · go_enter Tryz.func63, Tryz.ntmps63
          go_wp2
          go_ret2
          exact ⟨Below.refl _ _, Or.inl ⟨HZ.out, rfl⟩⟩
        · go_enter Tryz.func63, Tryz.ntmps63
          go_wp2
          go_ret2
          exact ⟨Below.refl _ _, Or.inl ⟨HZ.out, rfl⟩⟩
    · have z1 : ((ss.length : Int) != (ts.length : Int)) = true := by simp; omega
      clear hln h1
      rcases hk with rfl | rfl
      · go_enter Tryz.func63, Tryz.ntmps63
        go_wp2
        go_ret2
        exact ⟨Below.refl _ _, Or.inl ⟨HZ.out, rfl⟩⟩
      · go_enter Tryz.func63, Tryz.ntmps63
        go_wp2
        go_ret2
        exact ⟨Below.refl _ _, Or.inl ⟨HZ.out, rfl⟩⟩
  obtain ⟨hl1, hl2, hl3⟩ := hln
  have z1 : ((ss.length : Int) != (ts.length : Int)) = false := by simp; omega
  have z3 : ¬ (50 : Int) < (ts.length : Int) := by omega
  have HLN := hid hl1
  have HK := hid hk
  have HNUM : Hid (L.numbered ⟨kind, ⟨#[]⟩, (ts.length : Int)⟩ = true) := hid (by
    unfold L.numbered
    rcases hk with rfl | rfl
    · simp; omega
    · have := hl3 rfl
      simp; omega)
  have H73 := hid hl3
  clear hl1 hl3
  go_enter Tryz.func63, Tryz.ntmps63
  go_upto_region 1 with fail
  go_cut [41] from 15 (fun s41 wx => s41 = .bool false ∧ w = wx)
  case first =>
    rcases hk with rfl | rfl
    · go_wp2
      go_meet
      exact ⟨rfl, rfl⟩
    · have z4 : ((ts.length : Int) == 0) = false := beq_eq_false_iff_ne.2 (by have := H73.out rfl; omega)
      go_wp2
      go_meet
      exact ⟨rfl, rfl⟩
  case rest =>
    obtain ⟨rfl, rfl⟩ := hcut
    clear hk z1
    go_wp2
    go_loopw [8] (fun vi wr => ∃ k : Nat, vi = .int .i64 k ∧ k ≤ ts.length ∧ w = wr ∧ Hid (∀ j (h : j < ss.length), j < k → L.isLabel kind ss[j] = true)) (fun vi _ => ts.length - (intOf vi).toNat)
    case atStart => exact ⟨0, rfl, by omega, rfl, hid fun j h hj => by omega⟩
    case round =>
      obtain ⟨k, rfl, hk, rfl, hD⟩ := hrel
      by_cases hlt : k < ts.length
      · have hks : k < ss.length := by have := HLN.out; omega
        obtain ⟨b, o, hA, hb, hcx⟩ : ∃ b o, A = some ⟨b, o, none⟩ ∧ b < w.heap.size ∧ ∀ (i : Nat) (h : i < ss.length), w.cell? ⟨b, o + i, none⟩ = some (.string ss[i]) := by
          obtain ⟨A', c', hv, hc⟩ := HXS.out
          simp only [Value.slice.injEq, true_and] at hv
          obtain ⟨rfl, -⟩ := hv
          exact hc (by rintro rfl; simp at hks)
        subst hA
        have c0 := hcx k hks
        have hsk := HSZ.out _ (List.getElem_mem hks)
        have HDK := hid hks
        have HLB := hid (refLabel_any kind ss[k] hsk w)
        have hkz : (k : Int) < (ss.length : Int) := by omega
        clear hcx
        cases hlb : L.isLabel kind ss[k] with
        | false =>
          rw [hlb] at HLB
          have HZ : Hid (L.isRow kind ss (ts.length : Int) = false) := hid (by
            cases h : L.isRow kind ss (ts.length : Int) with
            | false => rfl
            | true =>
              simp only [L.isRow, Bool.and_eq_true, List.all_eq_true] at h
              exact absurd (hlb.symm.trans (h.2.2.2 _ (List.getElem_mem hks))) (by decide))
          clear hlb
          generalize ss[k] = SK at *
          go_wp2_with fail
          refine (HLB.out).mono ?_
          rintro e w1 ⟨rfl, rfl⟩
          go_wp2
          go_ret2
          exact ⟨Below.refl _ _, Or.inl ⟨HZ.out, rfl⟩⟩
        | true =>
          rw [hlb] at HLB
          have HD2 : Hid (∀ j (h : j < ss.length), j < k + 1 → L.isLabel kind ss[j] = true) := hid fun j h hj => by
            rcases Nat.lt_or_ge j k with h2 | h2
            · exact hD.out j h h2
            · obtain rfl : j = k := by omega
              exact hlb
          clear hlb
          generalize ss[k] = SK at *
          go_wp2_with fail
          refine (HLB.out).mono ?_
          rintro e w1 ⟨rfl, rfl⟩
          go_wp2
          go_roundw
          case rel => exact ⟨k + 1, by go_num, by omega, by first | rfl | trivial, HD2⟩
          case measure => simp [intOf]; omega
      · obtain rfl : k = ts.length := by omega
        have HZ : Hid (L.isRow kind ss (ts.length : Int) = true) := hid (by
          simp only [L.isRow, Bool.and_eq_true, Bool.or_eq_true, decide_eq_true_eq, List.all_eq_true]
          refine ⟨HK.out, by have := HLN.out; omega, HNUM.out, fun s hs => ?_⟩
          obtain ⟨j, hj, rfl⟩ := List.getElem_of_mem hs
          exact hD.out j hj (by have := HLN.out; omega))
        have HNE : Hid (∀ i, i < ss.length → L.labL ss i ≠ []) := hid fun i hi h0 => by
          have h1 := hD.out i hi (by have := HLN.out; omega)
          rw [labL_some hi] at h0
          have h2 : ss[i].size = 0 := by
            have := congrArg List.length h0
            simpa using this
          simp [L.isLabel, nameB, h2] at h1
        clear hD
        go_wp2
        have hts0 := HLN.out
        have hN : ts.length ≤ 50 := hl2
        have HN0 : Hid (Own w.heap.size (.slice (some ⟨w.heap.size, 0, none⟩) 1 1) [⟨kind, ⟨#[]⟩, (ts.length : Int)⟩] (w.alloc (.cells #[.int .i64 kind, .string ⟨#[]⟩, .int .i64 (ts.length : Int)] 54))) := hid (lit_own w _ (Nat.le_refl _) kind (ts.length : Int) ⟨#[]⟩)
        clear hts0 hl2 z3
        go_loopw [9, 10, 11] (fun vo vd vk wr => SelOut kind ss ts w vo vd vk wr) (fun _ _ vk _ => ts.length - (intOf vk).toNat)
        case atStart => exact ⟨0, [], ⟨#[]⟩, rfl, rfl, by omega, by decide, HN0.out, below_new _, hid ⟨rfl, L.Sel.start ss HNE.out⟩⟩
        case round =>
          obtain ⟨k, js, dn, rfl, rfl, hk, hdz, hO, hB, hS⟩ := hrel
          have hbw := hB.size
          have hjl : js.length ≤ 50 := by have := hS.out.1; omega
          have HRL := hid (rowsL_len (ss := ss) HTL.out js)
          obtain ⟨RL, hRL⟩ : ∃ RL, RL = (⟨kind, ⟨#[]⟩, (ts.length : Int)⟩ :: rowsL ss ts js) := ⟨_, rfl⟩
          rw [← hRL] at hO
          have HO := hid hO
          obtain ⟨go, co, hvo, -⟩ := hO.slice (by rw [hRL]; simp)
          have HRE := hid hRL
          subst hvo
          clear hO hRL
          by_cases hlt : k < ts.length
          case neg =>
            obtain rfl : k = ts.length := by omega
            have HP := hid (L.Sel.done hS.out.2 (by rw [hS.out.1, HLN.out]))
            have HR := hid hS.out.2.rise
            clear hS
            go_wp2
            go_ret2
            exact ⟨hB, Or.inr ⟨HZ.out, Or.inr ⟨js, HP.out, HR.out, _, rfl, HRE.out ▸ HO.out⟩⟩⟩
          have hks : k < ss.length := by have := HLN.out; omega
          obtain ⟨b, o, hA, hb, hcx⟩ : ∃ b o, A = some ⟨b, o, none⟩ ∧ b < w.heap.size ∧ ∀ (i : Nat) (h : i < ss.length), w.cell? ⟨b, o + i, none⟩ = some (.string ss[i]) := by
            obtain ⟨A', c', hv, hc⟩ := HXS.out
            simp only [Value.slice.injEq, true_and] at hv
            obtain ⟨rfl, -⟩ := hv
            exact hc (by rintro rfl; simp at hks)
          subst hA
          have HCX : Hid (∀ (i : Nat) (h : i < ss.length), wr.cell? ⟨b, o + i, none⟩ = some (.string ss[i])) := hid fun i h => (hB.cell (p := ⟨b, o + i, none⟩) hb).trans (hcx i h)
          clear hcx
          go_wp2
          go_loopw [12, 13] (fun vb vi wx => SelIn ss ts.length dn w wr vb vi wx) (fun _ vi _ => ts.length - (intOf vi).toNat)
          case atStart => exact ⟨-1, 0, rfl, rfl, by omega, by omega, hB, Below.refl _ _, hid (Or.inl ⟨by omega, fun x hx => by omega⟩)⟩
          case round =>
            obtain ⟨best, i, rfl, rfl, hi2, hbest, hBx, hBr, hM⟩ := hrel
            by_cases hlti : i < ts.length
            · have his : i < ss.length := by have := HLN.out; omega
              have ci := (hBr.cell (p := ⟨b, o + i, none⟩) (Nat.lt_of_lt_of_le hb hbw)).trans (HCX.out i his)
              have hiz : (i : Int) < (ss.length : Int) := by omega
              have HIS := hid his
              rcases cmp3 his dn with ⟨hg1, e1, e2⟩ | ⟨hg1, e1⟩ | ⟨hg1, e1, e2⟩
              · skip
                by_cases hb0 : best < 0
                · have HM2 : Hid (((i : Int) < 0 ∧ ∀ x, x < i + 1 → ¬ Lib.compareBytes dn.data.toList (L.labL ss x) < 0) ∨ (0 ≤ (i : Int) ∧ (i : Int).toNat < i + 1 ∧ Lib.compareBytes dn.data.toList (L.labL ss (i : Int).toNat) < 0 ∧ ∀ x, x < i + 1 → Lib.compareBytes dn.data.toList (L.labL ss x) < 0 → ¬ Lib.compareBytes (L.labL ss x) (L.labL ss (i : Int).toNat) < 0)) := hid (Or.inr (by
                    rw [Int.toNat_natCast]
                    refine ⟨by omega, by omega, hg1, fun x hx hd => ?_⟩
                    rcases hM.out with ⟨-, h2⟩ | ⟨h1, -⟩
                    · rcases Nat.lt_or_ge x i with h | h
                      · exact absurd hd (h2 x h)
                      · obtain rfl : x = i := by omega
                        rw [L.cB_self]; omega
                    · omega))
                  clear hg1 hM
                  generalize ss[i] = SI at *
                  go_wp2
                  go_quiet (fail)
                  go_wp2
                  go_roundw
                  case rel => exact ⟨i, i + 1, by go_num, by go_num, by omega, by omega, below_drewN hBx _, below_drewN hBr _, hid (by have h := HM2.out; simp only [Int.not_lt] at h ⊢; exact h)⟩
                  case measure => simp [intOf]; omega
                · obtain ⟨bn, rfl⟩ : ∃ bn : Nat, best = bn := ⟨best.toNat, by omega⟩
                  have hbs : bn < ss.length := by omega
                  have cb := (hBr.cell (p := ⟨b, o + bn, none⟩) (Nat.lt_of_lt_of_le hb hbw)).trans (HCX.out bn hbs)
                  have hbz : (bn : Int) < (ss.length : Int) := by omega
                  have HLS := hid (less_lab hbs (ss[i]'his))
                  have hMM : bn < i ∧ Lib.compareBytes dn.data.toList (L.labL ss bn) < 0 ∧ ∀ x, x < i → Lib.compareBytes dn.data.toList (L.labL ss x) < 0 → ¬ Lib.compareBytes (L.labL ss x) (L.labL ss bn) < 0 := by
                    rcases hM.out with ⟨h1, -⟩ | ⟨-, h2⟩
                    · omega
                    · rw [Int.toNat_natCast] at h2; exact h2
                  have HMM := hid hMM
                  have hLI : L.labL ss i = (ss[i]'his).data.toList := labL_some his
                  cases hls : Op.bytesLess (ss[i]'his).toList (ss[bn]'hbs).toList with
                  | false =>
                    have h5 := (HLS.out.2).1 hls
                    rw [← hLI] at h5
                    have HM2 : Hid ((((bn : Nat) : Int) < 0 ∧ ∀ x, x < i + 1 → ¬ Lib.compareBytes dn.data.toList (L.labL ss x) < 0) ∨ (0 ≤ (bn : Int) ∧ (bn : Int).toNat < i + 1 ∧ Lib.compareBytes dn.data.toList (L.labL ss (bn : Int).toNat) < 0 ∧ ∀ x, x < i + 1 → Lib.compareBytes dn.data.toList (L.labL ss x) < 0 → ¬ Lib.compareBytes (L.labL ss x) (L.labL ss (bn : Int).toNat) < 0)) := hid (Or.inr (by
                      rw [Int.toNat_natCast]
                      obtain ⟨m1, m2, m3⟩ := HMM.out
                      refine ⟨by omega, by omega, m2, fun x hx hd => ?_⟩
                      rcases Nat.lt_or_ge x i with h | h
                      · exact m3 x h hd
                      · obtain rfl : x = i := by omega
                        exact h5))
                    clear hg1 hM hMM h5 hLI
                    generalize ss[i] = SI at *
                    generalize ss[bn] = SB at *
                    go_wp2
                    go_quiet (fail)
                    go_wp2
                    go_roundw
                    case rel => exact ⟨bn, i + 1, rfl, by go_num, by omega, by omega, below_drewN hBx _, below_drewN hBr _, hid (by have h := HM2.out; simp only [Int.not_lt] at h ⊢; exact h)⟩
                    case measure => simp [intOf]; omega
                  | true =>
                    have h5 := (HLS.out.1).1 hls
                    rw [← hLI] at h5
                    have HM2 : Hid (((i : Int) < 0 ∧ ∀ x, x < i + 1 → ¬ Lib.compareBytes dn.data.toList (L.labL ss x) < 0) ∨ (0 ≤ (i : Int) ∧ (i : Int).toNat < i + 1 ∧ Lib.compareBytes dn.data.toList (L.labL ss (i : Int).toNat) < 0 ∧ ∀ x, x < i + 1 → Lib.compareBytes dn.data.toList (L.labL ss x) < 0 → ¬ Lib.compareBytes (L.labL ss x) (L.labL ss (i : Int).toNat) < 0)) := hid (Or.inr (by
                      rw [Int.toNat_natCast]
                      obtain ⟨m1, m2, m3⟩ := HMM.out
                      refine ⟨by omega, by omega, hg1, fun x hx hd => ?_⟩
                      rcases Nat.lt_or_ge x i with h | h
                      · intro h6
                        exact m3 x h hd (L.cB_trans h6 h5)
                      · obtain rfl : x = i := by omega
                        rw [L.cB_self]; omega))
                    clear hg1 hM hMM h5 hLI
                    generalize ss[i] = SI at *
                    generalize ss[bn] = SB at *
                    go_wp2
                    go_quiet (fail)
                    go_wp2
                    go_roundw
                    case rel => exact ⟨i, i + 1, by go_num, by go_num, by omega, by omega, below_drewN hBx _, below_drewN hBr _, hid (by have h := HM2.out; simp only [Int.not_lt] at h ⊢; exact h)⟩
                    case measure => simp [intOf]; omega
              · skip
                have HM2 : Hid ((best < 0 ∧ ∀ x, x < i + 1 → ¬ Lib.compareBytes dn.data.toList (L.labL ss x) < 0) ∨ (0 ≤ best ∧ best.toNat < i + 1 ∧ Lib.compareBytes dn.data.toList (L.labL ss best.toNat) < 0 ∧ ∀ x, x < i + 1 → Lib.compareBytes dn.data.toList (L.labL ss x) < 0 → ¬ Lib.compareBytes (L.labL ss x) (L.labL ss best.toNat) < 0)) := hid (by
                  rcases hM.out with ⟨h1, h2⟩ | ⟨h1, h2, h3, h4⟩
                  · exact Or.inl ⟨h1, fun x hx => by
                      rcases Nat.lt_or_ge x i with h | h
                      · exact h2 x h
                      · obtain rfl : x = i := by omega
                        exact hg1⟩
                  · exact Or.inr ⟨h1, by omega, h3, fun x hx hd => by
                      rcases Nat.lt_or_ge x i with h | h
                      · exact h4 x h hd
                      · obtain rfl : x = i := by omega
                        exact absurd hd hg1⟩)
                clear hg1 hM
                generalize ss[i] = SI at *
                go_wp2
                go_quiet (fail)
                go_wp2
                go_roundw
                case rel => exact ⟨best, i + 1, rfl, by go_num, by omega, hbest, below_drewN hBx _, below_drewN hBr _, hid (by have h := HM2.out; simp only [Int.not_lt] at h ⊢; exact h)⟩
                case measure => simp [intOf]; omega
              · skip
                have HM2 : Hid ((best < 0 ∧ ∀ x, x < i + 1 → ¬ Lib.compareBytes dn.data.toList (L.labL ss x) < 0) ∨ (0 ≤ best ∧ best.toNat < i + 1 ∧ Lib.compareBytes dn.data.toList (L.labL ss best.toNat) < 0 ∧ ∀ x, x < i + 1 → Lib.compareBytes dn.data.toList (L.labL ss x) < 0 → ¬ Lib.compareBytes (L.labL ss x) (L.labL ss best.toNat) < 0)) := hid (by
                  rcases hM.out with ⟨h1, h2⟩ | ⟨h1, h2, h3, h4⟩
                  · exact Or.inl ⟨h1, fun x hx => by
                      rcases Nat.lt_or_ge x i with h | h
                      · exact h2 x h
                      · obtain rfl : x = i := by omega
                        exact hg1⟩
                  · exact Or.inr ⟨h1, by omega, h3, fun x hx hd => by
                      rcases Nat.lt_or_ge x i with h | h
                      · exact h4 x h hd
                      · obtain rfl : x = i := by omega
                        exact absurd hd hg1⟩)
                clear hg1 hM
                generalize ss[i] = SI at *
                go_wp2
                go_quiet (fail)
                go_wp2
                go_roundw
                case rel => exact ⟨best, i + 1, rfl, by go_num, by omega, hbest, below_drewN hBx _, below_drewN hBr _, hid (by have h := HM2.out; simp only [Int.not_lt] at h ⊢; exact h)⟩
                case measure => simp [intOf]; omega
            · obtain rfl : i = ts.length := by omega
              by_cases hb0 : best < 0
              · have HST : Hid (¬ ∃ ks : List Nat, ks.Perm (List.range ss.length) ∧ L.Rise ss ks) := hid (by
                  rcases hM.out with ⟨-, h2⟩ | ⟨h1, -⟩
                  · exact hS.out.2.stuck (by rw [hS.out.1]; exact hks) (fun x hx => h2 x (by have := HLN.out; omega))
                  · omega)
                clear hM
                go_wp2
                go_ret2
                exact ⟨hBx, Or.inr ⟨HZ.out, Or.inl ⟨HST.out, rfl⟩⟩⟩
              · obtain ⟨bn, rfl⟩ : ∃ bn : Nat, best = bn := ⟨best.toNat, by omega⟩
                have hbs : bn < ss.length := by omega
                have HS2 : Hid (L.Sel ss (js ++ [bn]) (ss.getD bn ⟨#[]⟩)) := hid (by
                  rcases hM.out with ⟨h1, -⟩ | ⟨-, h2⟩
                  · omega
                  · rw [Int.toNat_natCast] at h2
                    exact hS.out.2.step hbs h2.2.1 (fun x hx => h2.2.2 x (by have := HLN.out; omega)))
                have HGD : Hid (ss.getD bn ⟨#[]⟩ = ss[bn]'hbs) := hid (by simp [List.getD, hbs])
                have cb := (hBr.cell (p := ⟨b, o + bn, none⟩) (Nat.lt_of_lt_of_le hb hbw)).trans (HCX.out bn hbs)
                have hbz : (bn : Int) < (ss.length : Int) := by omega
                have hbt : bn < ts.length := by have := HLN.out; omega
                have hbtz : (bn : Int) < (ts.length : Int) := by omega
                have hsb : (ss[bn]'hbs).size ≤ 2000000 := HSZ.out _ (List.getElem_mem hbs)
                obtain ⟨b2, o2, hA2, hb2, hcx2⟩ : ∃ b o, A2 = some ⟨b, o, none⟩ ∧ b < w.heap.size ∧ ∀ (i : Nat) (h : i < ts.length), w.cell? ⟨b, o + i, none⟩ = some ts[i].1 := by
                  obtain ⟨⟨A', c', hv, hc⟩, _⟩ := HXT.out
                  simp only [Value.slice.injEq, true_and] at hv
                  obtain ⟨rfl, -⟩ := hv
                  exact hc (by rintro rfl; simp at hbt)
                subst hA2
                have t1 := (hBx.cell (p := ⟨b2, o2 + bn, none⟩) hb2).trans (hcx2 bn hbt)
                have hm := List.getElem_mem hbt
                have hRt : Rd wr wr.heap.size (ts[bn]'hbt).1 (ts[bn]'hbt).2 := ((HXT.out.2 _ hm).below hBx).size
                have h0t := HT0.out _ hm
                have hlt2 := HTL.out _ hm
                have HTG : Hid (rowsL ss ts (js ++ [bn]) = rowsL ss ts js ++ L.setName (ts[bn]'hbt).2 (ss[bn]'hbs)) := hid (by
                  unfold rowsL
                  rw [List.flatMap_append]
                  simp [List.getD, hbt, hbs])
                have HJ : Hid ((js ++ [bn]).length = k + 1) := hid (by rw [List.length_append, hS.out.1]; rfl)
                have hHO : Own w.heap.size (.slice (some ⟨go, 0, none⟩) RL.length co) RL wr := HO.out.below hBr
                obtain ⟨At, ct, hvt, -⟩ := hRt
                have HRT := hid ((HXT.out.2 _ hm).below hBx).size
                have hrl : RL.length ≤ 1000001 := by
                  have := HRL.out
                  rw [HRE.out, List.length_cons]
                  omega
                have H0T := hid h0t
                clear hM hm h0t hcx2
                rw [hvt] at t1 HRT
                generalize ss[bn] = SB at *
                generalize (ts[bn]'hbt).2 = TT at *
                go_wp2_with (at_builtin; refine wpList_app2 rfl _ _ rfl rfl w.heap.size _ _ RL TT rfl hHO rfl HRT.out ?c2 hBx.size ?_)
                case c2 => omega
                intro v' w6 hown hgrow
                have hB6 : Below w.heap.size w w6 := hBx.grown hgrow hBx.size (fun k hk => (hHO.lt k hk).1)
                obtain ⟨g6, c6, hv6, hg6, hg6l, ⟨u6', hu6⟩, hf6, hOn⟩ := own_named hown H0T.out SB
                have hT0 : 0 < TT.length := List.length_pos_iff.2 H0T.out
                have hT0z : (RL.length : Int) < (RL.length : Int) + (TT.length : Int) := by omega
                have HON := hid hOn
                have HB6 := hid hB6
                have hcm : RL.length + TT.length ≤ 2000000 := by omega
                subst hv6
                clear hown hgrow hOn hB6 hHO hvt
                go_wp2
                go_roundw
                case rel =>
                  refine ⟨k + 1, js ++ [bn], SB, rfl, by go_num, by omega, hsb, ?_, HB6.out.setCell (p := ⟨g6, RL.length * 3 + 1, none⟩) hg6 _, hid ⟨HJ.out, ?_⟩⟩
                  · rw [HTG.out, ← List.cons_append, ← HRE.out]
                    exact HON.out
                  · rw [← HGD.out]
                    exact HS2.out
                case measure => simp [intOf]; omega

end Go.Proofs.YtgghmhgbdknkaaaGreat
end

section
/-
  What both Rows say alike. Conditions: those of the two walks of Row.
-/
namespace Go.Proofs.YtgghmhgbdknkaaaGreat
open Go.RowKit

/-- What a Row says: its value, its number. -/
def RowSaid (kind : Int) (ss : List ByteArray) (ts : List (Value × List L.Nd)) (B : Nat) (v : Value) (c : Int) (w' : World) : Prop :=
  (L.isRow kind ss (ts.length : Int) = false ∧ v = .slice none 0 0 ∧ c = 1) ∨
  (L.isRow kind ss (ts.length : Int) = true ∧ (¬ ∃ ks : List Nat, ks.Perm (List.range ss.length) ∧ L.Rise ss ks) ∧ v = .slice none 0 0 ∧ c = 7) ∨
  (L.isRow kind ss (ts.length : Int) = true ∧ c = 0 ∧ ∃ ks : List Nat, ks.Perm (List.range ss.length) ∧ L.Rise ss ks ∧ Own B v (⟨kind, ⟨#[]⟩, (ts.length : Int)⟩ :: rowsL ss ts ks) w')

theorem row_said (kind : Int) (ss : List ByteArray) (ts : List (Value × List L.Nd)) (hsz : ∀ s ∈ ss, s.size ≤ 2000000) (hsn : ss.length ≤ 200) (htn : ts.length ≤ 200) (ht0 : ∀ t ∈ ts, t.2 ≠ []) (htl : ∀ t ∈ ts, t.2.length ≤ 20000)
    (vs vt : Value) (w : World) (hxs : RdS w w.heap.size vs ss) (hxt : RdT w vt ts) :
    Calls Tryz.prog 61 #[.int .i64 kind, vs, vt] w fun e w' => ∃ v c, e = .returned (.tuple #[v, .int .i64 c]) ∧ Below w.heap.size w w' ∧ RowSaid kind ss ts w.heap.size v c w' := by
  refine (row_any kind ss ts hsz hsn htn ht0 htl vs vt w hxs hxt).mono ?_
  rintro e w' ⟨hB, h⟩
  rcases h with ⟨h1, rfl⟩ | ⟨h1, ks, hp, hs, h⟩
  · exact ⟨_, _, rfl, hB, Or.inl ⟨h1, rfl, rfl⟩⟩
  · rcases h with ⟨⟨j, h0, h2, h3⟩, rfl⟩ | ⟨hne, v', rfl, ho⟩
    · exact ⟨_, _, rfl, hB, Or.inr (Or.inl ⟨h1, L.twice_of hp h0 h2 h3, rfl, rfl⟩)⟩
    · exact ⟨_, _, rfl, hB, Or.inr (Or.inr ⟨h1, rfl, ks, hp, L.rise_of hs hne, ho⟩)⟩

theorem refRow_said (kind : Int) (ss : List ByteArray) (ts : List (Value × List L.Nd)) (hsz : ∀ s ∈ ss, s.size ≤ 2000000) (hsn : ss.length ≤ 200) (htn : ts.length ≤ 200) (ht0 : ∀ t ∈ ts, t.2 ≠ []) (htl : ∀ t ∈ ts, t.2.length ≤ 20000)
    (vs vt : Value) (w : World) (hxs : RdS w w.heap.size vs ss) (hxt : RdT w vt ts) :
    Calls Tryz.prog 63 #[.int .i64 kind, vs, vt] w fun e w' => ∃ v c, e = .returned (.tuple #[v, .int .i64 c]) ∧ Below w.heap.size w w' ∧ RowSaid kind ss ts w.heap.size v c w' := by
  refine (refRow_any kind ss ts hsz hsn htn ht0 htl vs vt w hxs hxt).mono ?_
  rintro e w' ⟨hB, h⟩
  rcases h with ⟨h1, rfl⟩ | ⟨h1, h⟩
  · exact ⟨_, _, rfl, hB, Or.inl ⟨h1, rfl, rfl⟩⟩
  · rcases h with ⟨hn, rfl⟩ | ⟨ks, hp, hr, v', rfl, ho⟩
    · exact ⟨_, _, rfl, hB, Or.inr (Or.inl ⟨h1, hn, rfl, rfl⟩)⟩
    · exact ⟨_, _, rfl, hB, Or.inr (Or.inr ⟨h1, rfl, ks, hp, hr, ho⟩)⟩

theorem rd_nil (w : World) : Rd w w.heap.size (.slice none 0 0) [] := (Own.nil w.heap.size w).rd

theorem said_meets {kind : Int} {ss : List ByteArray} {ts : List (Value × List L.Nd)} {B1 B2 : Nat} {v1 v2 : Value} {c1 c2 : Int} {w1 w2 : World} (h1 : RowSaid kind ss ts B1 v1 c1 w1) (hb : Below w1.heap.size w1 w2) (h2 : RowSaid kind ss ts B2 v2 c2 w2) :
    c1 = c2 ∧ ∃ X, Rd w2 w2.heap.size v1 X ∧ Rd w2 w2.heap.size v2 X := by
  rcases h1 with ⟨a1, rfl, rfl⟩ | ⟨a1, b1, rfl, rfl⟩ | ⟨a1, rfl, ks, p1, r1, o1⟩
  · rcases h2 with ⟨a2, rfl, rfl⟩ | ⟨a2, b2, rfl, rfl⟩ | ⟨a2, rfl, js, p2, r2, o2⟩
    · exact ⟨rfl, [], rd_nil _, rd_nil _⟩
    · rw [a1] at a2; cases a2
    · rw [a1] at a2; cases a2
  · rcases h2 with ⟨a2, rfl, rfl⟩ | ⟨a2, b2, rfl, rfl⟩ | ⟨a2, rfl, js, p2, r2, o2⟩
    · rw [a1] at a2; cases a2
    · exact ⟨rfl, [], rd_nil _, rd_nil _⟩
    · exact absurd ⟨js, p2, r2⟩ b1
  · rcases h2 with ⟨a2, rfl, rfl⟩ | ⟨a2, b2, rfl, rfl⟩ | ⟨a2, rfl, js, p2, r2, o2⟩
    · rw [a1] at a2; cases a2
    · exact absurd ⟨ks, p1, r1⟩ b2
    · obtain rfl := L.rise_unique r1 r2 (p1.trans p2.symm)
      exact ⟨rfl, _, (o1.below hb).rd, o2.rd⟩

end Go.Proofs.YtgghmhgbdknkaaaGreat
end

section
/-
  Rows of types and of texts that the call itself has made. No conditions but those that each lemma names.
-/
namespace Go.Proofs.YtgghmhgbdknkaaaGreat
open Go.RowKit

/-- A row of texts of the call's own. -/
def OwnS (B : Nat) (v : Value) (ss : List ByteArray) (w : World) : Prop := w.ownsRow B 9 1 v ss.length (ss.map .string)
/-- A row of types of the call's own, each in a row of its own. -/
def OwnT (B : Nat) (v : Value) (ts : List (Value × List L.Nd)) (w : World) : Prop := w.ownsRow B 26 1 v ts.length (ts.map (·.1)) ∧ ∀ t ∈ ts, Own B t.1 t.2 w

theorem OwnS.below {B : Nat} {v : Value} {ss : List ByteArray} {w w' : World} (h : OwnS B v ss w) (hb : Below w.heap.size w w') : OwnS B v ss w' := row_below h hb
theorem OwnT.below {B : Nat} {v : Value} {ts : List (Value × List L.Nd)} {w w' : World} (h : OwnT B v ts w) (hb : Below w.heap.size w w') : OwnT B v ts w' := ⟨row_below h.1 hb, fun t ht => (h.2 t ht).below hb⟩

theorem OwnS.snoc {B : Nat} {v : Value} {ss : List ByteArray} {w : World} (s : ByteArray) (h : w.ownsRow B 9 1 v (ss.length + 1) (ss.map .string ++ [.string s])) : OwnS B v (ss ++ [s]) w := by
  unfold OwnS
  rw [List.map_append, List.length_append]
  exact h
theorem OwnT.snoc {B : Nat} {v : Value} {ts : List (Value × List L.Nd)} {w : World} (t : Value × List L.Nd) (h : w.ownsRow B 26 1 v (ts.length + 1) (ts.map (·.1) ++ [t.1])) (hp : ∀ x ∈ ts, Own B x.1 x.2 w) (ht : Own B t.1 t.2 w) : OwnT B v (ts ++ [t]) w := by
  refine ⟨by rw [List.map_append, List.length_append]; exact h, fun x hx => ?_⟩
  rcases List.mem_append.1 hx with hx | hx
  · exact hp x hx
  · rw [List.mem_singleton.1 hx]; exact ht

theorem OwnS.rd {B : Nat} {v : Value} {ss : List ByteArray} {w : World} (h : OwnS B v ss w) : RdS w w.heap.size v ss := by
  rcases h.2 with ⟨hv, h0⟩ | ⟨g, cap, cur, hv, _, hh, hc, hm, _⟩
  · exact ⟨none, 0, by rw [hv, h0], fun hn => absurd (List.eq_nil_of_length_eq_zero h0) hn⟩
  · subst hv
    refine ⟨_, cap, rfl, fun _ => ⟨g, 0, rfl, heap_lt hh, fun i hi => ?_⟩⟩
    rw [Nat.zero_add, World.ownsRow.cellAt h i (by omega)]
    simp [hi]

theorem OwnT.rd {B : Nat} {v : Value} {ts : List (Value × List L.Nd)} {w : World} (h : OwnT B v ts w) : RdT w v ts := by
  refine ⟨?_, fun t ht => (h.2 t ht).rd⟩
  rcases h.1.2 with ⟨hv, h0⟩ | ⟨g, cap, cur, hv, _, hh, hc, hm, _⟩
  · exact ⟨none, 0, by rw [hv, h0], fun hn => absurd (List.eq_nil_of_length_eq_zero h0) hn⟩
  · subst hv
    refine ⟨_, cap, rfl, fun _ => ⟨g, 0, rfl, heap_lt hh, fun i hi => ?_⟩⟩
    rw [Nat.zero_add, World.ownsRow.cellAt h.1 i (by omega)]
    simp [hi]

theorem OwnS.val {B : Nat} {v : Value} {ss : List ByteArray} {w : World} (h : OwnS B v ss w) : ∃ A cap, v = .slice A ss.length cap := by
  obtain ⟨A, cap, hv, -⟩ := h.rd
  exact ⟨A, cap, hv⟩
theorem OwnT.val {B : Nat} {v : Value} {ts : List (Value × List L.Nd)} {w : World} (h : OwnT B v ts w) : ∃ A cap, v = .slice A ts.length cap := by
  obtain ⟨⟨A, cap, hv, -⟩, -⟩ := h.rd
  exact ⟨A, cap, hv⟩

theorem OwnT.two {B : Nat} {A : Option Addr} {cp : Nat} {ts : List (Value × List L.Nd)} {t1 t2 : Value × List L.Nd} {w : World} (h : OwnT B (.slice A ts.length cp) ts w) (hts : ts = [t1, t2]) :
    ∃ g, A = some ⟨g, 0, none⟩ ∧ g < w.heap.size ∧ w.cell? ⟨g, 0, none⟩ = some t1.1 ∧ w.cell? ⟨g, 1, none⟩ = some t2.1 := by
  subst hts
  rcases h.1.2 with ⟨hv, h0⟩ | ⟨g, cap, cur, hv, _, hh, hc, hm, _⟩
  · simp at h0
  · simp only [Value.slice.injEq] at hv
    obtain ⟨rfl, -, rfl⟩ := hv
    exact ⟨g, rfl, heap_lt hh, World.ownsRow.cellAt h.1 0 (by simp), World.ownsRow.cellAt h.1 1 (by simp)⟩

theorem infoStr : (Tryz.prog.info? 9).map (fun i => (i.zero, i.size, i.bytes)) = some (some (.string ⟨#[]⟩), 1, 16) := by kernel_rfl
theorem infoTyp : (Tryz.prog.info? 26).map (fun i => (i.zero, i.size, i.bytes)) = some (some (.slice none 0 0), 1, 24) := by kernel_rfl

end Go.Proofs.YtgghmhgbdknkaaaGreat
end
