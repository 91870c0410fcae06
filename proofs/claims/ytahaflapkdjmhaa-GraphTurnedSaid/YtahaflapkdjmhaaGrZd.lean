/-
  Rows of modules of the call's own. Conditions: few modules.
-/
import Derived.Test.YtahaflapkdjmhaaRows
import Derived.Test.YtahaflapkdjmhaaGrZa
namespace Go.Proofs.Ytahaflapkdjmhaa
open Go.RowKit

/-- A module as it lies in memory: what it says, and the values of its three slices. -/
structure Row where
  m : Gr.Md
  vi : Value
  vd : Value
  vs : Value
def Row.cells (y : Row) : List Value := [.string y.m.name, y.vi, y.vd, y.vs]
def cellsR (ys : List Row) : List Value := ys.flatMap Row.cells
theorem cellsR_snoc (ys : List Row) (y : Row) : cellsR (ys ++ [y]) = cellsR ys ++ y.cells := by simp [cellsR]
theorem cellsR_len (ys : List Row) : (cellsR ys).length = ys.length * 4 := by
  induction ys with
  | nil => rfl
  | cons y ys ih =>
    have e : cellsR (y :: ys) = y.cells ++ cellsR ys := by simp [cellsR]
    rw [e, List.length_append, ih]
    simp [Row.cells]
    omega
theorem cellsR_at : ∀ (ys : List Row) (i : Nat) (hi : i < ys.length) (k : Nat), k < 4 → (cellsR ys)[i * 4 + k]? = ys[i].cells[k]?
  | y :: ys, 0, _, k, hk => by
    have e : cellsR (y :: ys) = y.cells ++ cellsR ys := by simp [cellsR]
    rw [e, List.getElem?_append_left (by simp [Row.cells]; omega)]
    simp
  | y :: ys, i + 1, hi, k, hk => by
    have e : cellsR (y :: ys) = y.cells ++ cellsR ys := by simp [cellsR]
    rw [e, List.getElem?_append_right (by simp [Row.cells]; omega)]
    have e2 : (i + 1) * 4 + k - y.cells.length = i * 4 + k := by simp [Row.cells]; omega
    rw [e2, cellsR_at ys i (by simpa using hi) k hk]
    simp
/-- What a module's slices are. -/
structure RowOk (w : World) (B : Nat) (y : Row) : Prop where
  imps : RdS w B y.vi y.m.imps
  defs : ∃ A n c, y.vd = .slice A n c
  sites : ∃ A n c, y.vs = .slice A n c
theorem info_mod : (Try.prog.info? 29).map (fun i => (i.zero, i.size, i.bytes)) = some (some (.agg #[.string ⟨#[]⟩, .slice none 0 0, .slice none 0 0, .slice none 0 0]), 4, 88) := by kernel_rfl
/-- Modules of the call's own read as modules. -/
theorem rdm_own {w w0 : World} {B B0 g c : Nat} {ys : List Row} (h : w.ownsRow B 29 4 (.slice (some ⟨g, 0, none⟩) ys.length c) ys.length (cellsR ys)) (ho : ∀ y ∈ ys, RowOk w0 B0 y) (hb : Below B0 w0 w) (hB : B0 ≤ w.heap.size) : RdM w w.heap.size (.slice (some ⟨g, 0, none⟩) ys.length c) (ys.map (·.m)) := by
  have hcap : ys.length ≤ c ∧ c ≤ maxLen := by
    rcases h.2 with ⟨e, _⟩ | ⟨g2, cap, cur, e, _, _, h1, h2, _⟩
    · simp at e
    · simp only [Value.slice.injEq] at e
      obtain ⟨-, -, rfl⟩ := e
      exact ⟨h1, h2⟩
  refine ⟨_, _, by rw [List.length_map], by rw [List.length_map]; exact hcap.1, hcap.2, fun _ => ⟨g, 0, rfl, (h.lt g rfl).2, fun i hi => ?_⟩⟩
  have hi2 : i < ys.length := by simpa using hi
  obtain ⟨h1, ⟨A2, n2, c2, e2⟩, ⟨A3, n3, c3, e3⟩⟩ := ho ys[i] (List.getElem_mem hi2)
  have h1 := (h1.below hb).mono hB
  obtain ⟨A1, c1, e1, -⟩ := id h1
  have hc : ∀ k, k < 4 → w.cell? ⟨g, 0 + i * 4 + k, none⟩ = ys[i].cells[k]? := fun k hk => by
    rw [Nat.zero_add, h.cellAt (i * 4 + k) (by omega), cellsR_at ys i hi2 k hk]
  rw [List.getElem_map]
  rw [e1] at h1
  refine ⟨A1, c1, A2, n2, c2, A3, n3, c3, (hc 0 (by omega)).trans (by simp [Row.cells]), (hc 1 (by omega)).trans (by simp [Row.cells, e1]), (hc 2 (by omega)).trans (by simp [Row.cells, e2]), (hc 3 (by omega)).trans (by simp [Row.cells, e3]), h1⟩
theorem rows_of {w : World} {B : Nat} {v : Value} {l : List Gr.Md} (h : RdM w B v l) : ∃ ys : List Row, ys.map (·.m) = l ∧ (∀ y ∈ ys, RowOk w B y) ∧ ∀ (i : Nat) (hi : i < ys.length) (b o cap : Nat), v = .slice (some ⟨b, o, none⟩) l.length cap → w.cell? ⟨b, o + i * 4, none⟩ = some (.string ys[i].m.name) ∧ w.cell? ⟨b, o + i * 4 + 1, none⟩ = some ys[i].vi ∧ w.cell? ⟨b, o + i * 4 + 2, none⟩ = some ys[i].vd ∧ w.cell? ⟨b, o + i * 4 + 3, none⟩ = some ys[i].vs := by
  have hel : ∀ i, ∃ y : Row, ∀ (hi : i < l.length), y.m = l[i] ∧ RowOk w B y ∧ ∀ (b o cap : Nat), v = .slice (some ⟨b, o, none⟩) l.length cap → w.cell? ⟨b, o + i * 4, none⟩ = some (.string y.m.name) ∧ w.cell? ⟨b, o + i * 4 + 1, none⟩ = some y.vi ∧ w.cell? ⟨b, o + i * 4 + 2, none⟩ = some y.vd ∧ w.cell? ⟨b, o + i * 4 + 3, none⟩ = some y.vs := by
    intro i
    by_cases hi : i < l.length
    · obtain ⟨b, o, cap, Ai, ci, Ad, nd, cd, As, ns, cs, hv, hb, x0, x1, x2, x3, hs⟩ := h.at_ (Below.refl _ _) hi
      refine ⟨⟨l[i], .slice Ai l[i].imps.length ci, .slice Ad nd cd, .slice As ns cs⟩, fun _ => ⟨rfl, ⟨hs, ⟨_, _, _, rfl⟩, ⟨_, _, _, rfl⟩⟩, fun b' o' cap' hv' => ?_⟩⟩
      rw [hv] at hv'
      simp only [Value.slice.injEq, Option.some.injEq, Addr.mk.injEq, and_true, true_and] at hv'
      obtain ⟨⟨rfl, rfl⟩, -⟩ := hv'
      exact ⟨x0, x1, x2, x3⟩
    · exact ⟨⟨⟨⟨#[]⟩, []⟩, .nilFunc, .nilFunc, .nilFunc⟩, fun h => absurd h hi⟩
  obtain ⟨F, hF⟩ := Classical.axiomOfChoice hel
  refine ⟨(List.range l.length).map F, ?_, ?_, ?_⟩
  · apply List.ext_getElem
    · simp
    · intro i h1 h2
      simp only [List.getElem_map, List.getElem_range]
      exact (hF i h2).1
  · intro y hy
    obtain ⟨i, hi, rfl⟩ := List.mem_map.1 hy
    exact (hF i (List.mem_range.1 hi)).2.1
  · intro i hi b o cap hv
    have hi2 : i < l.length := by simpa using hi
    simp only [List.getElem_map, List.getElem_range]
    exact (hF i hi2).2.2 b o cap hv
theorem row_one {y : Row} (h1 : ∃ A n c, y.vi = .slice A n c) (h2 : ∃ A n c, y.vd = .slice A n c) (h3 : ∃ A n c, y.vs = .slice A n c) : ∀ u ∈ y.cells, u.oneCell' = true := by
  obtain ⟨_, _, _, e1⟩ := h1
  obtain ⟨_, _, _, e2⟩ := h2
  obtain ⟨_, _, _, e3⟩ := h3
  intro u hu
  simp only [Row.cells, List.mem_cons, List.not_mem_nil, or_false] at hu
  rcases hu with rfl | rfl | rfl | rfl
  · rfl
  · rw [e1]; rfl
  · rw [e2]; rfl
  · rw [e3]; rfl

theorem cells_new4 (w : World) (a b c d : Value) (t : TypeId) : ∀ j u, [a, b, c, d][j]? = some u → (w.alloc (.cells #[a, b, c, d] t)).cell? ((⟨w.heap.size, 0, none⟩ : Addr).add j) = some u := by
  intro j u h
  have e : ((⟨w.heap.size, 0, none⟩ : Addr).add j) = ⟨w.heap.size, j, none⟩ := by
    simp [Addr.add]
    intro h; exact h.symm
  rw [e]
  refine (heap_cell (heap_alloc_new w _) j).trans ?_
  simpa using h
theorem few_rev {l : List Gr.Md} (h : Gr.Few l) : Gr.Few l.reverse := ⟨by rw [List.length_reverse]; exact h.n, fun m hm => h.name m (List.mem_reverse.1 hm), fun m hm => h.imps m (List.mem_reverse.1 hm), fun m hm => h.imp m (List.mem_reverse.1 hm)⟩

/-- The cells of modules that come in, in a row. -/
theorem cellsR_src {w : World} {b o : Nat} {ys : List Row} (h : ∀ (i : Nat) (hi : i < ys.length), w.cell? ⟨b, o + i * 4, none⟩ = some (.string ys[i].m.name) ∧ w.cell? ⟨b, o + i * 4 + 1, none⟩ = some ys[i].vi ∧ w.cell? ⟨b, o + i * 4 + 2, none⟩ = some ys[i].vd ∧ w.cell? ⟨b, o + i * 4 + 3, none⟩ = some ys[i].vs) :
    ∀ j u, (cellsR ys)[j]? = some u → w.cell? ((⟨b, o, none⟩ : Addr).add j) = some u := by
  intro j u hu
  have e : ((⟨b, o, none⟩ : Addr).add j) = ⟨b, o + j, none⟩ := by
    simp [Addr.add]
  rw [e]
  have hj : j < (cellsR ys).length := by
    rcases Nat.lt_or_ge j (cellsR ys).length with h1 | h1
    · exact h1
    · rw [List.getElem?_eq_none h1] at hu; cases hu
  rw [cellsR_len] at hj
  have hi : j / 4 < ys.length := by omega
  have hk : j % 4 < 4 := Nat.mod_lt _ (by omega)
  have hd : j = j / 4 * 4 + j % 4 := by omega
  rw [hd, cellsR_at ys (j / 4) hi (j % 4) hk] at hu
  obtain ⟨c0, c1, c2, c3⟩ := h (j / 4) hi
  have ho : o + j = o + j / 4 * 4 + j % 4 := by omega
  rw [ho]
  have hcase : j % 4 = 0 ∨ j % 4 = 1 ∨ j % 4 = 2 ∨ j % 4 = 3 := by omega
  rcases hcase with k | k | k | k <;> rw [k] at hu ⊢ <;> simp [Row.cells] at hu <;> subst hu
  · exact c0
  · exact c1
  · exact c2
  · exact c3
theorem cellsR_one {ys : List Row} (h : ∀ y ∈ ys, (∃ A n c, y.vi = .slice A n c) ∧ (∃ A n c, y.vd = .slice A n c) ∧ ∃ A n c, y.vs = .slice A n c) : ∀ u ∈ cellsR ys, u.oneCell' = true := by
  intro u hu
  obtain ⟨y, hy, h1⟩ := List.mem_flatMap.1 hu
  obtain ⟨h2, h3, h4⟩ := h y hy
  exact row_one h2 h3 h4 u h1

theorem grown_refl (w : World) (r : Option Nat) : w.grownBy w r := ⟨rfl, rfl, rfl, Nat.le_refl _, fun _ _ _ => rfl⟩
theorem run_append_nil (w : World) (A : Option Addr) (n cap c : Nat) (hn : n ≤ cap) : (Builtin.append_ #[22, 22] 22 #[.slice A n cap, .slice none 0 c]).run Try.prog w = .ok (.slice A n cap) w := by
  obtain ⟨i0, hi, hz0, hz1, hz2⟩ := info_parts info_mod
  have hu := run_underlying (w := w) Try.underlying22
  cases A with
  | none => simp [Builtin.append_, hu, sizeOf, typeInfo, hi, Builtin.lenOf, hn, Builtin.firstCells]
  | some a => simp [Builtin.append_, hu, sizeOf, typeInfo, hi, Builtin.lenOf, hn, Builtin.firstCells, storeCells]

set_option maxRecDepth 100000 in
/-- An append of modules that come in to an empty row of the call's own. -/
theorem wpList_appM {ops : Array Oper} {rest : List Oper} {w : World} {o : Oper} {a : Act} {Q : Exit → Act → World → Prop} (hgd : o.guard = none) (s x : Operand)
    (ho : o.op = .call { callee := .builtin .append, args := #[s, x], argTypes := #[22, 22] }) (hty : o.type = 22)
    (B g c : Nat) (A : Option Addr) (n cap : Nat) (ys : List Row) (hs : a.eval s = .slice (some ⟨g, 0, none⟩) 0 c) (hown : w.ownsRow B 29 4 (.slice (some ⟨g, 0, none⟩) 0 c) 0 [])
    (hx : a.eval x = .slice A n cap) (hyl : ys.length = n) (hyo : ∀ y ∈ ys, (∃ A n c, y.vi = .slice A n c) ∧ (∃ A n c, y.vd = .slice A n c) ∧ ∃ A n c, y.vs = .slice A n c)
    (hsrc : ∀ ad, A = some ad → ∀ j u, (cellsR ys)[j]? = some u → w.cell? (ad.add j) = some u) (hne : A = none → n = 0) (hl : n ≤ 20) (hB : B ≤ w.heap.size)
    (h : ∀ g' c' w', w'.ownsRow B 29 4 (.slice (some ⟨g', 0, none⟩) n c') n (cellsR ys) → w.grownBy w' (some g) → wpList Try.prog ops Q rest (a.put o.dst (.slice (some ⟨g', 0, none⟩) n c')) w') : wpList Try.prog ops Q (o :: rest) a w := by
  obtain ⟨i0, hi, hz0, hz1, hz2⟩ := info_parts info_mod
  cases A with
  | none =>
    have hn0 := hne rfl
    subst hn0
    have hy0 : ys = [] := List.eq_nil_of_length_eq_zero hyl
    subst hy0
    refine wpList_plain hgd fun K hK => ?_
    unfold Oper.wp execOp
    have hrn := run_append_nil w (some ⟨g, 0, none⟩) 0 c cap (Nat.zero_le _)
    simp only [ho, hty, resolve, invoke, builtin, Sem.run_bind, Sem.run_pure, Result.andThen_ok, List.map_toArray, List.map_cons, List.map_nil, hs, hx, hrn]
    exact hK _ _ (h g c w hown (grown_refl w _))
  | some ad =>
    refine wpList_append_own w hgd s x 22 ho B 29 i0 (.agg #[.string ⟨#[]⟩, .slice none 0 0, .slice none 0 0, .slice none 0 0]) 4 88 Try.underlying22 hi hz0 hz1 hz2 rfl (by decide) _ 0 [] hs hown ad n cap (cellsR ys) hx (by rw [cellsR_len, hyl]) (hsrc ad rfl) (cellsR_one hyo) (by unfold maxLen; omega) (by omega) hB ?_
    intro v' w' h1 h2 h3
    rw [Nat.zero_add, List.nil_append] at h1
    rcases h1.2 with ⟨e, e2⟩ | ⟨g2, cap2, cur, e, _⟩
    · have := (h3.1 e).1
      cases this
    · subst e
      exact h g2 cap2 w' h1 h2

end Go.Proofs.Ytahaflapkdjmhaa
