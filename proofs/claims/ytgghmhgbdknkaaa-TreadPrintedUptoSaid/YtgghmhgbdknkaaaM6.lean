/-
  The texts TyRe, TyAp, TyRf, TyRs, TyRw, one behind the other. Conditions: those that each of them names.
-/
import Derived.Test.YtgghmhgbdknkaaaM3
import Derived.Test.YtgghmhgbdknkaaaM2
import Derived.Test.YtgghmhgbdknkaaaM1
import Derived.Deep.CutRange
section
/-
  Plain lists: what the least labels, one behind the other, make: the one rising order, if there is one. No conditions but those that each lemma names.
-/
namespace Go.Proofs.Ytgghmhgbdknkaaa.L
open Go

theorem nodup_sub : ∀ (l : List Nat), l.Nodup → ∀ js : List Nat, (∀ x ∈ l, x ∈ js) → l.length ≤ js.length
  | [], _, _, _ => Nat.zero_le _
  | a :: l, hn, js, h => by
    have ha : a ∈ js := h a (by simp)
    have hn' := List.nodup_cons.1 hn
    have := nodup_sub l hn'.2 (js.erase a) (fun x hx => by
      have hne : x ≠ a := by rintro rfl; exact hn'.1 hx
      exact (List.mem_erase_of_ne hne).2 (h x (by simp [hx])))
    have hl := List.length_erase_of_mem ha
    have hp : 0 < js.length := List.length_pos_of_mem ha
    simp only [List.length_cons]
    omega

theorem perm_of_nodup {n : Nat} {js : List Nat} (hn : js.Nodup) (hl : js.length = n) (hlt : ∀ x ∈ js, x < n) : js.Perm (List.range n) := by
  induction n generalizing js with
  | zero =>
    have : js = [] := List.eq_nil_of_length_eq_zero hl
    subst this
    exact List.Perm.refl _
  | succ n ih =>
    have hm : n ∈ js := by
      rcases Decidable.em (n ∈ js) with h | h
      · exact h
      · have := nodup_sub js hn (List.range n) (fun x hx => by
          have h1 := hlt x hx
          have h2 : x ≠ n := by rintro rfl; exact h hx
          exact List.mem_range.2 (by omega))
        rw [List.length_range] at this
        omega
    have hp := List.perm_cons_erase hm
    have hn2 : (js.erase n).Nodup := hn.erase n
    have hl2 : (js.erase n).length = n := by rw [List.length_erase_of_mem hm, hl]; rfl
    have := ih hn2 hl2 (fun x hx => by
      have h1 := hlt x (List.mem_of_mem_erase hx)
      have h2 : x ≠ n := by rintro rfl; exact (hn.mem_erase_iff.1 hx).1 rfl
      omega)
    rw [List.range_succ]
    exact hp.trans ((this.cons n).trans (List.perm_append_singleton n (List.range n)).symm)

/-- How far the least labels were taken: the numbers so far, the last label. -/
structure Sel (ss : List ByteArray) (js : List Nat) (done : ByteArray) : Prop where
  rise : Rise ss js
  lt : ∀ x ∈ js, x < ss.length
  cov : ∀ i, i < ss.length → ¬ Lib.compareBytes done.data.toList (labL ss i) < 0 → ∃ j ∈ js, labL ss j = labL ss i
  top : ∀ j ∈ js, ¬ Lib.compareBytes done.data.toList (labL ss j) < 0

theorem cB_nil {s : List UInt8} (h : s ≠ []) : Lib.compareBytes [] s < 0 := by
  cases s with
  | nil => exact absurd rfl h
  | cons a r => simp [Lib.compareBytes]

theorem Sel.start (ss : List ByteArray) (h : ∀ i, i < ss.length → labL ss i ≠ []) : Sel ss [] ⟨#[]⟩ where
  rise := List.Pairwise.nil
  lt := by simp
  cov := fun i hi hn => absurd (cB_nil (h i hi)) hn
  top := by simp

theorem Rise.nodup {ss : List ByteArray} {js : List Nat} (h : Rise ss js) : js.Nodup := by
  unfold Rise at h
  exact h.imp (fun {a b} hab => by rintro rfl; rw [cB_self] at hab; omega)

theorem Rise.inj {ss : List ByteArray} {js : List Nat} (h : Rise ss js) {a b : Nat} (ha : a ∈ js) (hb : b ∈ js) (he : labL ss a = labL ss b) : a = b := by
  unfold Rise at h
  rw [List.pairwise_iff_getElem] at h
  obtain ⟨i, hi, rfl⟩ := List.getElem_of_mem ha
  obtain ⟨j, hj, rfl⟩ := List.getElem_of_mem hb
  rcases Nat.lt_trichotomy i j with h1 | h1 | h1
  · have := h i j hi hj h1
    rw [he, cB_self] at this
    omega
  · subst h1; rfl
  · have := h j i hj hi h1
    rw [he, cB_self] at this
    omega

/-- The least label behind the last one is taken. -/
theorem Sel.step {ss : List ByteArray} {js : List Nat} {done : ByteArray} (h : Sel ss js done) {b : Nat} (hb : b < ss.length) (hd : Lib.compareBytes done.data.toList (labL ss b) < 0)
    (hm : ∀ i, i < ss.length → Lib.compareBytes done.data.toList (labL ss i) < 0 → ¬ Lib.compareBytes (labL ss i) (labL ss b) < 0) : Sel ss (js ++ [b]) (ss.getD b ⟨#[]⟩) where
  rise := by
    have hr := h.rise
    unfold Rise at hr ⊢
    rw [List.pairwise_append]
    refine ⟨hr, List.pairwise_singleton _ _, fun x hx y hy => ?_⟩
    rw [List.mem_singleton.1 hy]
    have h1 := h.top x hx
    rcases Int.lt_or_le (Lib.compareBytes (labL ss x) (labL ss b)) 0 with h2 | h2
    · exact h2
    · exfalso
      have h3 := cB_anti done.data.toList (labL ss x)
      have h4 : ¬ Lib.compareBytes (labL ss x) (labL ss b) < 0 := by omega
      exact cB_ntrans h1 h4 hd
  lt := fun x hx => by
    rcases List.mem_append.1 hx with hx | hx
    · exact h.lt x hx
    · rw [List.mem_singleton.1 hx]; exact hb
  cov := fun i hi hn => by
    have hn' : ¬ Lib.compareBytes (labL ss b) (labL ss i) < 0 := hn
    by_cases hdi : Lib.compareBytes done.data.toList (labL ss i) < 0
    · have h1 := hm i hi hdi
      have h2 := cB_anti (labL ss i) (labL ss b)
      exact ⟨b, by simp, cB_zero (by omega)⟩
    · obtain ⟨j, hj, e⟩ := h.cov i hi hdi
      exact ⟨j, by simp [hj], e⟩
  top := fun j hj => by
    show ¬ Lib.compareBytes (labL ss b) (labL ss j) < 0
    rcases List.mem_append.1 hj with hj | hj
    · intro hlt
      exact h.top j hj (cB_trans hd hlt)
    · rw [List.mem_singleton.1 hj, cB_self]; omega

/-- No label is left though numbers are: a label is there twice. -/
theorem Sel.stuck {ss : List ByteArray} {js : List Nat} {done : ByteArray} (h : Sel ss js done) (hl : js.length < ss.length) (hd : ∀ i, i < ss.length → ¬ Lib.compareBytes done.data.toList (labL ss i) < 0) :
    ¬ ∃ ks : List Nat, ks.Perm (List.range ss.length) ∧ Rise ss ks := by
  rintro ⟨ks, hp, hr⟩
  have hmem : ∀ i, i < ss.length → i ∈ ks := fun i hi => hp.mem_iff.2 (List.mem_range.2 hi)
  have := nodup_sub (List.range ss.length) List.nodup_range js (fun i hi => by
    have hi' := List.mem_range.1 hi
    obtain ⟨j, hj, e⟩ := h.cov i hi' (hd i hi')
    rw [← hr.inj (hmem j (h.lt j hj)) (hmem i hi') e]
    exact hj)
  rw [List.length_range] at this
  omega

theorem Sel.done {ss : List ByteArray} {js : List Nat} {done : ByteArray} (h : Sel ss js done) (hl : js.length = ss.length) : js.Perm (List.range ss.length) :=
  perm_of_nodup h.rise.nodup hl h.lt

end Go.Proofs.Ytgghmhgbdknkaaa.L
end

section
/-
  An append of a slice that reads as nodes, nil or not, to a row that the call itself has made. Condition: together at most 40000 nodes.
-/
namespace Go.Proofs.Ytgghmhgbdknkaaa
open Go.RowKit

theorem run_append_none (w : World) (A : Option Addr) (n cap : Nat) (hn : n ≤ cap) : (Builtin.append_ #[23, 23] 23 #[.slice A n cap, .slice none 0 0]).run Try.prog w = .ok (.slice A n cap) w := by
  obtain ⟨i0, hi, hz0, hz1, hz2⟩ := info_parts infoNode
  have hu := run_underlying (w := w) Try.underlying23
  cases A with
  | none => simp [Builtin.append_, hu, sizeOf, typeInfo, hi, Builtin.lenOf, hn, Builtin.firstCells]
  | some a => simp [Builtin.append_, hu, sizeOf, typeInfo, hi, Builtin.lenOf, hn, Builtin.firstCells, storeCells]

set_option maxRecDepth 100000 in
theorem wpList_app {ops : Array Oper} {rest : List Oper} {w : World} {o : Oper} {a : Act} {Q : Exit → Act → World → Prop} (hgd : o.guard = none) (s x : Operand)
    (ho : o.op = .call { callee := .builtin .append, args := #[s, x], argTypes := #[23, 23] }) (hty : o.type = 23)
    (B : Nat) (v vx : Value) (l lx : List L.Nd) (hs : a.eval s = v) (hown : Own B v l w) (hx : a.eval x = vx) (hr : Rd w w.heap.size vx lx)
    (hl : l.length + lx.length ≤ 40000) (hB : B ≤ w.heap.size)
    (h : ∀ v' w', Own B v' (l ++ lx) w' → w.grownBy w' v.ownBlock → wpList Try.prog ops Q rest (a.put o.dst v') w') : wpList Try.prog ops Q (o :: rest) a w := by
  obtain ⟨i0, hi, hz0, hz1, hz2⟩ := info_parts infoNode
  rcases hr.src with ⟨rfl, rfl⟩ | ⟨ad, cap, rfl, hsrc⟩
  · obtain ⟨A, c, hv, hn, -⟩ := hown.rd
    refine wpList_plain hgd fun K hK => ?_
    unfold Oper.wp execOp
    have hrn := run_append_none w A l.length c hn
    rw [← hv] at hrn
    simp only [ho, hty, resolve, invoke, builtin, Sem.run_bind, Sem.run_pure, Result.andThen_ok, List.map_toArray, List.map_cons, List.map_nil, hs, hx, hrn]
    exact hK _ _ (h v w (by simpa using hown) (grown_refl w _))
  · refine wpList_append_own w hgd s x 23 ho B 28 i0 (.agg #[.int .i64 0, .string ⟨#[]⟩, .int .i64 0]) 3 32 Try.underlying23 hi hz0 hz1 hz2 rfl (by decide) v l.length (cellsN l) hs hown ad lx.length cap (cellsN lx) hx (cellsN_len lx) hsrc (cellsN_one lx) (by unfold maxLen; omega) (by omega) hB ?_
    intro v' w' h1 h2 _
    exact h v' w' (Own.append h1) h2

set_option maxRecDepth 100000 in
theorem wpList_app2 {ops : Array Oper} {rest : List Oper} {w : World} {o : Oper} {a : Act} {Q : Exit → Act → World → Prop} (hgd : o.guard = none) (s x : Operand)
    (ho : o.op = .call { callee := .builtin .append, args := #[s, x], argTypes := #[23, 23] }) (hty : o.type = 23)
    (B : Nat) (v vx : Value) (l lx : List L.Nd) (hs : a.eval s = v) (hown : Own B v l w) (hx : a.eval x = vx) (hr : Rd w w.heap.size vx lx)
    (hl : l.length + lx.length ≤ 4000000) (hB : B ≤ w.heap.size)
    (h : ∀ v' w', Own B v' (l ++ lx) w' → w.grownBy w' v.ownBlock → wpList Try.prog ops Q rest (a.put o.dst v') w') : wpList Try.prog ops Q (o :: rest) a w := by
  obtain ⟨i0, hi, hz0, hz1, hz2⟩ := info_parts infoNode
  rcases hr.src with ⟨rfl, rfl⟩ | ⟨ad, cap, rfl, hsrc⟩
  · obtain ⟨A, c, hv, hn, -⟩ := hown.rd
    refine wpList_plain hgd fun K hK => ?_
    unfold Oper.wp execOp
    have hrn := run_append_none w A l.length c hn
    rw [← hv] at hrn
    simp only [ho, hty, resolve, invoke, builtin, Sem.run_bind, Sem.run_pure, Result.andThen_ok, List.map_toArray, List.map_cons, List.map_nil, hs, hx, hrn]
    exact hK _ _ (h v w (by simpa using hown) (grown_refl w _))
  · refine wpList_append_own w hgd s x 23 ho B 28 i0 (.agg #[.int .i64 0, .string ⟨#[]⟩, .int .i64 0]) 3 32 Try.underlying23 hi hz0 hz1 hz2 rfl (by decide) v l.length (cellsN l) hs hown ad lx.length cap (cellsN lx) hx (cellsN_len lx) hsrc (cellsN_one lx) (by unfold maxLen; omega) (by omega) hB ?_
    intro v' w' h1 h2 _
    exact h v' w' (Own.append h1) h2

end Go.Proofs.Ytgghmhgbdknkaaa
end

section
/-
  The walk of the reference's Row. Conditions: at most 200 labels of at most 2000000 bytes, at most 200 types, none empty, of at most 20000 nodes each.
-/
namespace Go.Proofs.Ytgghmhgbdknkaaa
open Go.RowKit

/-- What the reference's Row tells. -/
def RefRowPost (kind : Int) (ss : List ByteArray) (ts : List (Value × List L.Nd)) (w : World) (e : Ending) (w' : World) : Prop :=
  Below w.heap.size w w' ∧
  ((L.isRow kind ss (ts.length : Int) = false ∧ e = .returned (.tuple #[.slice none 0 0, .int .i64 1])) ∨
   (L.isRow kind ss (ts.length : Int) = true ∧
     (((¬ ∃ ks : List Nat, ks.Perm (List.range ss.length) ∧ L.Rise ss ks) ∧ e = .returned (.tuple #[.slice none 0 0, .int .i64 7])) ∨
      ∃ ks : List Nat, ks.Perm (List.range ss.length) ∧ L.Rise ss ks ∧ ∃ v', e = .returned (.tuple #[v', .int .i64 0]) ∧ Own w.heap.size v' (⟨kind, ⟨#[]⟩, (ts.length : Int)⟩ :: rowsL ss ts ks) w')))

theorem labL_some {ss : List ByteArray} {i : Nat} (h : i < ss.length) : L.labL ss i = ss[i].data.toList := by
  unfold L.labL
  simp [List.getD, h]

theorem less_lab {ss : List ByteArray} {i : Nat} (h : i < ss.length) (d : ByteArray) : (Op.bytesLess d.toList ss[i].toList = true ↔ Lib.compareBytes d.data.toList (L.labL ss i) < 0) ∧ (Op.bytesLess d.toList ss[i].toList = false ↔ ¬ Lib.compareBytes d.data.toList (L.labL ss i) < 0) := by
  have := L.ltB_iff d ss[i]
  unfold L.ltB at this
  rw [this, labL_some h]
  simp

theorem cmp3 {ss : List ByteArray} {i : Nat} (h : i < ss.length) (d : ByteArray) :
    (Lib.compareBytes d.data.toList (L.labL ss i) < 0 ∧ Op.bytesLess (ss[i]'h).toList d.toList = false ∧ ((ss[i]'h).toList == d.toList) = false) ∨
    (¬ Lib.compareBytes d.data.toList (L.labL ss i) < 0 ∧ Op.bytesLess (ss[i]'h).toList d.toList = true) ∨
    (¬ Lib.compareBytes d.data.toList (L.labL ss i) < 0 ∧ Op.bytesLess (ss[i]'h).toList d.toList = false ∧ ((ss[i]'h).toList == d.toList) = true) := by
  have h1 := L.ltB_iff (ss[i]'h) d
  unfold L.ltB at h1
  have h2 := L.cB_anti d.data.toList (L.labL ss i)
  have he := eqS (ss[i]'h) d
  rw [← labL_some h] at h1
  rcases Int.lt_trichotomy (Lib.compareBytes d.data.toList (L.labL ss i)) 0 with h3 | h3 | h3
  · refine Or.inl ⟨h3, ?_, ?_⟩
    · rw [h1]; simp; omega
    · rw [he]
      simp only [decide_eq_false_iff_not]
      intro e
      rw [labL_some h, e, L.cB_self] at h3
      omega
  · refine Or.inr (Or.inr ⟨by omega, ?_, ?_⟩)
    · rw [h1]; simp; omega
    · rw [he, decide_eq_true_eq]
      have := L.cB_zero h3
      rw [labL_some h] at this
      exact (L.ba_eq this).symm
  · refine Or.inr (Or.inl ⟨by omega, ?_⟩)
    rw [h1]; simp; omega

/-- A cell of a row of nodes turns: the label of the first node of what was put behind. -/
theorem cells_named (l T : List L.Nd) (h : T ≠ []) (s : ByteArray) : (cellsN (l ++ T)).set (l.length * 3 + 1) (.string s) = cellsN (l ++ L.setName T s) := by
  rw [cellsN_append, cellsN_append, cellsN_setName h, List.set_append_right _ _ (by rw [cellsN_len]; omega), cellsN_len]
  congr 2
  omega

theorem own_named {B : Nat} {v : Value} {l T : List L.Nd} {w : World} (h : Own B v (l ++ T) w) (hT : T ≠ []) (s : ByteArray) :
    ∃ g cap, v = .slice (some ⟨g, 0, none⟩) (l.length + T.length) cap ∧ B ≤ g ∧ g < w.heap.size ∧ (∃ u, w.cell? ⟨g, l.length * 3 + 1, none⟩ = some u) ∧ w.frozen? ⟨g, l.length * 3 + 1, none⟩ = false ∧
      Own B v (l ++ L.setName T s) (w.setCell ⟨g, l.length * 3 + 1, none⟩ (.string s)) := by
  have hT0 : 0 < T.length := List.length_pos_iff.2 hT
  have hne : l ++ T ≠ [] := by intro h0; exact hT (List.append_eq_nil_iff.1 h0).2
  obtain ⟨g, cap, hv, -⟩ := h.slice hne
  have hlt := h.lt g (by rw [hv]; rfl)
  have ho := h
  unfold Own at ho
  rw [hv] at ho
  obtain ⟨hst, -⟩ := World.ownsRow.stored ho (l.length * 3 + 1) (.string s)
  have e : (l ++ L.setName T s).length = (l ++ T).length := by rw [List.length_append, L.setName_length, List.length_append]
  refine ⟨g, cap, by rw [hv, List.length_append], hlt.1, hlt.2, ?_, World.ownsRow.frozenAt ho _, ?_⟩
  · have h1 := World.ownsRow.cellAt ho (l.length * 3 + 1) (by rw [List.length_append]; omega)
    have h2 := (cellsN_get (l ++ T) l.length (by rw [List.length_append]; omega)).2.1
    exact ⟨_, h1.trans h2⟩
  · unfold Own
    rw [← cells_named l T hT s, e, hv]
    exact hst

/-- How far the least label is sought. -/
def SelIn (ss : List ByteArray) (n : Nat) (dn : ByteArray) (w0 w1 : World) (vb vi : Value) (wx : World) : Prop :=
  ∃ (best : Int) (i : Nat), vb = .int .i64 best ∧ vi = .int .i64 i ∧ i ≤ n ∧ (-1 ≤ best ∧ best < (ss.length : Int)) ∧ Below w0.heap.size w0 wx ∧ Below w1.heap.size w1 wx ∧
    Hid ((best < 0 ∧ ∀ x, x < i → ¬ Lib.compareBytes dn.data.toList (L.labL ss x) < 0) ∨ (0 ≤ best ∧ best.toNat < i ∧ Lib.compareBytes dn.data.toList (L.labL ss best.toNat) < 0 ∧ ∀ x, x < i → Lib.compareBytes dn.data.toList (L.labL ss x) < 0 → ¬ Lib.compareBytes (L.labL ss x) (L.labL ss best.toNat) < 0))
/-- How far the row is made. -/
def SelOut (kind : Int) (ss : List ByteArray) (ts : List (Value × List L.Nd)) (w : World) (vo vd vk : Value) (wr : World) : Prop :=
  ∃ (k : Nat) (js : List Nat) (dn : ByteArray), vd = .string dn ∧ vk = .int .i64 k ∧ k ≤ ts.length ∧ dn.size ≤ 2000000 ∧ Own w.heap.size vo (⟨kind, ⟨#[]⟩, (ts.length : Int)⟩ :: rowsL ss ts js) wr ∧ Below w.heap.size w wr ∧ Hid (js.length = k ∧ L.Sel ss js dn)

end Go.Proofs.Ytgghmhgbdknkaaa
end

section
/-
  What both Rows say alike. Conditions: those of the two walks of Row.
-/
namespace Go.Proofs.Ytgghmhgbdknkaaa
open Go.RowKit

/-- What a Row says: its value, its number. -/
def RowSaid (kind : Int) (ss : List ByteArray) (ts : List (Value × List L.Nd)) (B : Nat) (v : Value) (c : Int) (w' : World) : Prop :=
  (L.isRow kind ss (ts.length : Int) = false ∧ v = .slice none 0 0 ∧ c = 1) ∨
  (L.isRow kind ss (ts.length : Int) = true ∧ (¬ ∃ ks : List Nat, ks.Perm (List.range ss.length) ∧ L.Rise ss ks) ∧ v = .slice none 0 0 ∧ c = 7) ∨
  (L.isRow kind ss (ts.length : Int) = true ∧ c = 0 ∧ ∃ ks : List Nat, ks.Perm (List.range ss.length) ∧ L.Rise ss ks ∧ Own B v (⟨kind, ⟨#[]⟩, (ts.length : Int)⟩ :: rowsL ss ts ks) w')

theorem row_said (kind : Int) (ss : List ByteArray) (ts : List (Value × List L.Nd)) (hsz : ∀ s ∈ ss, s.size ≤ 2000000) (hsn : ss.length ≤ 200) (htn : ts.length ≤ 200) (ht0 : ∀ t ∈ ts, t.2 ≠ []) (htl : ∀ t ∈ ts, t.2.length ≤ 20000)
    (vs vt : Value) (w : World) (hxs : RdS w w.heap.size vs ss) (hxt : RdT w vt ts) :
    Calls Try.prog 59 #[.int .i64 kind, vs, vt] w fun e w' => ∃ v c, e = .returned (.tuple #[v, .int .i64 c]) ∧ Below w.heap.size w w' ∧ RowSaid kind ss ts w.heap.size v c w' := by
  refine (row_any kind ss ts hsz hsn htn ht0 htl vs vt w hxs hxt).mono ?_
  rintro e w' ⟨hB, h⟩
  rcases h with ⟨h1, rfl⟩ | ⟨h1, ks, hp, hs, h⟩
  · exact ⟨_, _, rfl, hB, Or.inl ⟨h1, rfl, rfl⟩⟩
  · rcases h with ⟨⟨j, h0, h2, h3⟩, rfl⟩ | ⟨hne, v', rfl, ho⟩
    · exact ⟨_, _, rfl, hB, Or.inr (Or.inl ⟨h1, L.twice_of hp h0 h2 h3, rfl, rfl⟩)⟩
    · exact ⟨_, _, rfl, hB, Or.inr (Or.inr ⟨h1, rfl, ks, hp, L.rise_of hs hne, ho⟩)⟩

theorem rd_nil (w : World) : Rd w w.heap.size (.slice none 0 0) [] := (Own.nil w.heap.size w).rd

theorem said_meets {kind : Int} {ss : List ByteArray} {ts : List (Value × List L.Nd)} {B1 B2 : Nat} {v1 v2 : Value} {c1 c2 : Int} {w1 w2 : World} (h1 : RowSaid kind ss ts B1 v1 c1 w1) (hb : Below w1.heap.size w1 w2) (h2 : RowSaid kind ss ts B2 v2 c2 w2) :
    c1 = c2 ∧ ∃ X, Rd w2 w2.heap.size v1 X ∧ Rd w2 w2.heap.size v2 X := by
  rcases h1 with ⟨a1, rfl, rfl⟩ | ⟨a1, b1, rfl, rfl⟩ | ⟨a1, rfl, ks, p1, r1, o1⟩
  · rcases h2 with ⟨a2, rfl, rfl⟩ | ⟨a2, b2, rfl, rfl⟩ | ⟨a2, rfl, js, p2, r2, o2⟩
    · exact ⟨rfl, [], rd_nil _, rd_nil _⟩
    · rw [a1] at a2; cases a2
    · rw [a1] at a2; cases a2
  · rcases h2 with ⟨a2, rfl, rfl⟩ | ⟨a2, b2, rfl, rfl⟩ | ⟨a2, rfl, js, p2, r2, o2⟩
    · rw [a1] at a2; cases a2
    · exact ⟨rfl, [], rd_nil _, rd_nil _⟩
    · exact absurd ⟨js, p2, r2⟩ b1
  · rcases h2 with ⟨a2, rfl, rfl⟩ | ⟨a2, b2, rfl, rfl⟩ | ⟨a2, rfl, js, p2, r2, o2⟩
    · rw [a1] at a2; cases a2
    · exact absurd ⟨ks, p1, r1⟩ b2
    · obtain rfl := L.rise_unique r1 r2 (p1.trans p2.symm)
      exact ⟨rfl, _, (o1.below hb).rd, o2.rd⟩

end Go.Proofs.Ytgghmhgbdknkaaa
end

section
/-
  Rows of types and of texts that the call itself has made. No conditions but those that each lemma names.
-/
namespace Go.Proofs.Ytgghmhgbdknkaaa
open Go.RowKit

/-- A row of texts of the call's own. -/
def OwnS (B : Nat) (v : Value) (ss : List ByteArray) (w : World) : Prop := w.ownsRow B 9 1 v ss.length (ss.map .string)
/-- A row of types of the call's own, each in a row of its own. -/
def OwnT (B : Nat) (v : Value) (ts : List (Value × List L.Nd)) (w : World) : Prop := w.ownsRow B 23 1 v ts.length (ts.map (·.1)) ∧ ∀ t ∈ ts, Own B t.1 t.2 w

theorem OwnS.below {B : Nat} {v : Value} {ss : List ByteArray} {w w' : World} (h : OwnS B v ss w) (hb : Below w.heap.size w w') : OwnS B v ss w' := row_below h hb
theorem OwnT.below {B : Nat} {v : Value} {ts : List (Value × List L.Nd)} {w w' : World} (h : OwnT B v ts w) (hb : Below w.heap.size w w') : OwnT B v ts w' := ⟨row_below h.1 hb, fun t ht => (h.2 t ht).below hb⟩

theorem OwnS.snoc {B : Nat} {v : Value} {ss : List ByteArray} {w : World} (s : ByteArray) (h : w.ownsRow B 9 1 v (ss.length + 1) (ss.map .string ++ [.string s])) : OwnS B v (ss ++ [s]) w := by
  unfold OwnS
  rw [List.map_append, List.length_append]
  exact h
theorem OwnT.snoc {B : Nat} {v : Value} {ts : List (Value × List L.Nd)} {w : World} (t : Value × List L.Nd) (h : w.ownsRow B 23 1 v (ts.length + 1) (ts.map (·.1) ++ [t.1])) (hp : ∀ x ∈ ts, Own B x.1 x.2 w) (ht : Own B t.1 t.2 w) : OwnT B v (ts ++ [t]) w := by
  refine ⟨by rw [List.map_append, List.length_append]; exact h, fun x hx => ?_⟩
  rcases List.mem_append.1 hx with hx | hx
  · exact hp x hx
  · rw [List.mem_singleton.1 hx]; exact ht

theorem OwnS.rd {B : Nat} {v : Value} {ss : List ByteArray} {w : World} (h : OwnS B v ss w) : RdS w w.heap.size v ss := by
  rcases h.2 with ⟨hv, h0⟩ | ⟨g, cap, cur, hv, _, hh, hc, hm, _⟩
  · exact ⟨none, 0, by rw [hv, h0], fun hn => absurd (List.eq_nil_of_length_eq_zero h0) hn⟩
  · subst hv
    refine ⟨_, cap, rfl, fun _ => ⟨g, 0, rfl, heap_lt hh, fun i hi => ?_⟩⟩
    rw [Nat.zero_add, World.ownsRow.cellAt h i (by omega)]
    simp [hi]

theorem OwnT.rd {B : Nat} {v : Value} {ts : List (Value × List L.Nd)} {w : World} (h : OwnT B v ts w) : RdT w v ts := by
  refine ⟨?_, fun t ht => (h.2 t ht).rd⟩
  rcases h.1.2 with ⟨hv, h0⟩ | ⟨g, cap, cur, hv, _, hh, hc, hm, _⟩
  · exact ⟨none, 0, by rw [hv, h0], fun hn => absurd (List.eq_nil_of_length_eq_zero h0) hn⟩
  · subst hv
    refine ⟨_, cap, rfl, fun _ => ⟨g, 0, rfl, heap_lt hh, fun i hi => ?_⟩⟩
    rw [Nat.zero_add, World.ownsRow.cellAt h.1 i (by omega)]
    simp [hi]

theorem OwnS.val {B : Nat} {v : Value} {ss : List ByteArray} {w : World} (h : OwnS B v ss w) : ∃ A cap, v = .slice A ss.length cap := by
  obtain ⟨A, cap, hv, -⟩ := h.rd
  exact ⟨A, cap, hv⟩
theorem OwnT.val {B : Nat} {v : Value} {ts : List (Value × List L.Nd)} {w : World} (h : OwnT B v ts w) : ∃ A cap, v = .slice A ts.length cap := by
  obtain ⟨⟨A, cap, hv, -⟩, -⟩ := h.rd
  exact ⟨A, cap, hv⟩

theorem OwnT.two {B : Nat} {A : Option Addr} {cp : Nat} {ts : List (Value × List L.Nd)} {t1 t2 : Value × List L.Nd} {w : World} (h : OwnT B (.slice A ts.length cp) ts w) (hts : ts = [t1, t2]) :
    ∃ g, A = some ⟨g, 0, none⟩ ∧ g < w.heap.size ∧ w.cell? ⟨g, 0, none⟩ = some t1.1 ∧ w.cell? ⟨g, 1, none⟩ = some t2.1 := by
  subst hts
  rcases h.1.2 with ⟨hv, h0⟩ | ⟨g, cap, cur, hv, _, hh, hc, hm, _⟩
  · simp at h0
  · simp only [Value.slice.injEq] at hv
    obtain ⟨rfl, -, rfl⟩ := hv
    exact ⟨g, rfl, heap_lt hh, World.ownsRow.cellAt h.1 0 (by simp), World.ownsRow.cellAt h.1 1 (by simp)⟩

theorem infoStr : (Try.prog.info? 9).map (fun i => (i.zero, i.size, i.bytes)) = some (some (.string ⟨#[]⟩), 1, 16) := by kernel_rfl
theorem infoTyp : (Try.prog.info? 23).map (fun i => (i.zero, i.size, i.bytes)) = some (some (.slice none 0 0), 1, 24) := by kernel_rfl

end Go.Proofs.Ytgghmhgbdknkaaa
end
