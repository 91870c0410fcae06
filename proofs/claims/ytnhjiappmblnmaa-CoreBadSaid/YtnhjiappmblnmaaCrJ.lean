/-
  Appends of rows that come in, and rows of rows of the call's own. Conditions: at most 1000 of them.
-/
import Derived.Test.YtnhjiappmblnmaaCrI
import Derived.Laws.AppendOwnNone
namespace Go.Proofs.Ytnhjiappmblnmaa
open Go.RowKit

theorem run_append_noZ (w : World) (A : Option Addr) (n cap c : Nat) (hn : n ≤ cap) : (Builtin.append_ #[22, 22] 22 #[.slice A n cap, .slice none 0 c]).run Try.prog w = .ok (.slice A n cap) w := by
  obtain ⟨i0, hi, hz0, hz1, hz2⟩ := info_parts info_int
  have hu := run_underlying (w := w) Try.underlying22
  cases A with
  | none => simp [Builtin.append_, hu, sizeOf, typeInfo, hi, Builtin.lenOf, hn, Builtin.firstCells]
  | some a => simp [Builtin.append_, hu, sizeOf, typeInfo, hi, Builtin.lenOf, hn, Builtin.firstCells, storeCells]
theorem run_append_noY (w : World) (A : Option Addr) (n cap c : Nat) (hn : n ≤ cap) : (Builtin.append_ #[23, 23] 23 #[.slice A n cap, .slice none 0 c]).run Try.prog w = .ok (.slice A n cap) w := by
  obtain ⟨i0, hi, hz0, hz1, hz2⟩ := info_parts info_ints
  have hu := run_underlying (w := w) Try.underlying23
  cases A with
  | none => simp [Builtin.append_, hu, sizeOf, typeInfo, hi, Builtin.lenOf, hn, Builtin.firstCells]
  | some a => simp [Builtin.append_, hu, sizeOf, typeInfo, hi, Builtin.lenOf, hn, Builtin.firstCells, storeCells]

set_option maxRecDepth 100000 in
/-- An append of numbers that come in to an empty row of the call's own. -/
theorem wpList_appZ {ops : Array Oper} {rest : List Oper} {w : World} {o : Oper} {a : Act} {Q : Exit → Act → World → Prop} (hgd : o.guard = none) (s x : Operand)
    (ho : o.op = .call { callee := .builtin .append, args := #[s, x], argTypes := #[22, 22] }) (hty : o.type = 22)
    (B g c C : Nat) (A : Option Addr) (n cap : Nat) (l : List Int) (hs : a.eval s = .slice (some ⟨g, 0, none⟩) 0 c) (hown : w.ownsRow B 3 1 (.slice (some ⟨g, 0, none⟩) 0 c) 0 [])
    (hx : a.eval x = .slice A n cap) (hr : RdZ w C (.slice A n cap) l) (hl : l.length ≤ 1000) (hB : B ≤ w.heap.size)
    (h : ∀ v' w', OwnZ B v' l w' → w.grownBy w' (some g) → wpList Try.prog ops Q rest (a.put o.dst v') w') : wpList Try.prog ops Q (o :: rest) a w := by
  obtain ⟨i0, hi, hz0, hz1, hz2⟩ := info_parts info_int
  obtain ⟨A', cap', hv, k1, k2, hz, hc⟩ := hr
  simp only [Value.slice.injEq] at hv
  obtain ⟨rfl, rfl, rfl⟩ := hv
  by_cases hn : l = []
  · subst hn
    cases A with
    | none =>
      refine wpList_plain hgd fun K hK => ?_
      unfold Oper.wp execOp
      have hrn := run_append_noZ w (some ⟨g, 0, none⟩) 0 c cap (Nat.zero_le _)
      simp only [List.length_nil] at hx
      simp only [ho, hty, resolve, invoke, builtin, Sem.run_bind, Sem.run_pure, Result.andThen_ok, List.map_toArray, List.map_cons, List.map_nil, hs, hx, hrn]
      exact hK _ _ (h _ w hown (grown_refl w _))
    | some ad =>
      refine wpList_append_own w hgd s x 22 ho B 3 i0 (.int .i64 0) 1 8 Try.underlying22 hi hz0 hz1 hz2 rfl (by decide) _ 0 [] hs hown ad 0 cap [] hx rfl (by simp) (by simp) (by unfold maxLen; omega) (by omega) hB ?_
      intro v' w' h1 h2 h3
      exact h v' w' h1 h2
  · obtain ⟨b, oo, rfl, hlt, hc⟩ := hc hn
    refine wpList_append_own w hgd s x 22 ho B 3 i0 (.int .i64 0) 1 8 Try.underlying22 hi hz0 hz1 hz2 rfl (by decide) _ 0 [] hs hown ⟨b, oo, none⟩ l.length cap (l.map (Value.int .i64)) hx (by simp) (fun j u hj => ?_) (by intro u hu; obtain ⟨z, _, rfl⟩ := List.mem_map.1 hu; rfl) (by unfold maxLen; omega) (by omega) hB ?_
    · have hj2 : j < l.length := by
        have := (List.getElem?_eq_some_iff.1 hj).1
        simpa using this
      rw [show (⟨b, oo, none⟩ : Addr).add j = ⟨b, oo + j, none⟩ by simp [Addr.add], hc j hj2]
      rw [← hj]
      simp [hj2]
    · intro v' w' h1 h2 h3
      rw [Nat.zero_add, List.nil_append] at h1
      exact h v' w' h1 h2

/-- A row of rows of the call's own; the rows lie below it. -/
def OwnY (B : Nat) (v : Value) (ll : List (List Int)) (w : World) : Prop := ∃ us : List Value, us.length = ll.length ∧ w.ownsRow B 22 1 v ll.length us ∧ ∀ (i : Nat) (h1 : i < us.length) (h2 : i < ll.length), RdZ w B us[i] ll[i]
theorem OwnY.made (w : World) : OwnY w.heap.size (.slice (some ⟨w.heap.size, 0, none⟩) 0 0) [] (w.alloc (.cells #[] 22)) := ⟨[], rfl, World.ownsRow_made w #[] 0 (Nat.le_refl _) (Nat.zero_le _) (by simp), fun i h1 => by simp at h1⟩
theorem OwnY.below {B : Nat} {v : Value} {ll : List (List Int)} {w w' : World} (h : OwnY B v ll w) (hb : Below w.heap.size w w') (hB : B ≤ w.heap.size) : OwnY B v ll w' := by
  obtain ⟨us, h1, h2, h3⟩ := h
  exact ⟨us, h1, row_kept h2 fun g hg => hb.block g (World.ownsRow.lt h2 g hg).2, fun i a b => (h3 i a b).below (hb.mono hB)⟩
theorem OwnY.rdzz {B : Nat} {v : Value} {ll : List (List Int)} {w : World} (h : OwnY B v ll w) (hB : B ≤ w.heap.size) : RdZZ w w.heap.size v ll := by
  obtain ⟨us, h1, h2, h3⟩ := h
  rcases h2.2 with ⟨hv, h0⟩ | ⟨g, cap, cur, hv, _, hh, k1, k2, _⟩
  · exact ⟨none, 0, by rw [hv, h0], by omega, Nat.zero_le _, fun hn => absurd (List.eq_nil_of_length_eq_zero h0) hn⟩
  · refine ⟨_, cap, hv, k1, k2, fun _ => ⟨g, 0, rfl, heap_lt hh, fun i hi => ⟨us[i]'(by omega), ?_, (h3 i (by omega) hi).mono hB⟩⟩⟩
    subst hv
    rw [Nat.zero_add, World.ownsRow.cellAt h2 i (by omega), List.getElem?_eq_getElem (by omega)]
theorem OwnY.val {B : Nat} {v : Value} {ll : List (List Int)} {w : World} (h : OwnY B v ll w) : ∃ A cap, v = .slice A ll.length cap ∧ ll.length ≤ cap ∧ cap ≤ maxLen := by
  obtain ⟨us, h1, h2, h3⟩ := h
  rcases h2.2 with ⟨hv, h0⟩ | ⟨g, cap, cur, hv, _, hh, k1, k2, _⟩
  · exact ⟨none, 0, by rw [hv, h0], by omega, Nat.zero_le _⟩
  · exact ⟨_, _, hv, k1, k2⟩
theorem RdZ.one {w : World} {B : Nat} {v : Value} {l : List Int} (h : RdZ w B v l) : v.oneCell' = true := by
  obtain ⟨A, cap, rfl, -⟩ := h
  rfl

set_option maxRecDepth 100000 in
/-- An append of rows that come in to an empty row of rows of the call's own. -/
theorem wpList_appY {ops : Array Oper} {rest : List Oper} {w : World} {o : Oper} {a : Act} {Q : Exit → Act → World → Prop} (hgd : o.guard = none) (s x : Operand)
    (ho : o.op = .call { callee := .builtin .append, args := #[s, x], argTypes := #[23, 23] }) (hty : o.type = 23)
    (B g c : Nat) (A : Option Addr) (n cap : Nat) (l : List (List Int)) (hs : a.eval s = .slice (some ⟨g, 0, none⟩) 0 c) (hown : w.ownsRow B 22 1 (.slice (some ⟨g, 0, none⟩) 0 c) 0 [])
    (hx : a.eval x = .slice A n cap) (hr : RdZZ w B (.slice A n cap) l) (hl : l.length ≤ 1000) (hB : B ≤ w.heap.size)
    (h : ∀ v' w', OwnY B v' l w' → Below B w w' → wpList Try.prog ops Q rest (a.put o.dst v') w') : wpList Try.prog ops Q (o :: rest) a w := by
  obtain ⟨i0, hi, hz0, hz1, hz2⟩ := info_parts info_ints
  obtain ⟨A', cap', hv, k1, k2, hc⟩ := hr
  simp only [Value.slice.injEq] at hv
  obtain ⟨rfl, rfl, rfl⟩ := hv
  have hlo := World.ownsRow.lt hown
  by_cases hn : l = []
  · subst hn
    cases A with
    | none =>
      refine wpList_plain hgd fun K hK => ?_
      unfold Oper.wp execOp
      have hrn := run_append_noY w (some ⟨g, 0, none⟩) 0 c cap (Nat.zero_le _)
      simp only [List.length_nil] at hx
      simp only [ho, hty, resolve, invoke, builtin, Sem.run_bind, Sem.run_pure, Result.andThen_ok, List.map_toArray, List.map_cons, List.map_nil, hs, hx, hrn]
      exact hK _ _ (h _ w ⟨[], rfl, hown, fun i h1 => by simp at h1⟩ (Below.refl _ _))
    | some ad =>
      refine wpList_append_own w hgd s x 23 ho B 22 i0 (.slice none 0 0) 1 24 Try.underlying23 hi hz0 hz1 hz2 rfl (by decide) _ 0 [] hs hown ad 0 cap [] hx rfl (by simp) (by simp) (by unfold maxLen; omega) (by omega) hB ?_
      intro v' w' h1 h2 h3
      exact h v' w' ⟨[], rfl, h1, fun i h1 => by simp at h1⟩ ((Below.refl B w).grown h2 hB fun k hk => (hlo k hk).1)
  · obtain ⟨b, oo, rfl, hlt, hc⟩ := hc hn
    have hel : ∀ i, ∃ u : Value, ∀ hi : i < l.length, w.cell? ⟨b, oo + i, none⟩ = some u ∧ RdZ w B u l[i] := fun i => by
      by_cases hi : i < l.length
      · obtain ⟨u, x1, x2⟩ := hc i hi
        exact ⟨u, fun _ => ⟨x1, x2⟩⟩
      · exact ⟨.nilFunc, fun g => absurd g hi⟩
    obtain ⟨F, hF⟩ := Classical.axiomOfChoice hel
    have hlen : ((List.range l.length).map F).length = l.length := by simp
    refine wpList_append_own w hgd s x 23 ho B 22 i0 (.slice none 0 0) 1 24 Try.underlying23 hi hz0 hz1 hz2 rfl (by decide) _ 0 [] hs hown ⟨b, oo, none⟩ l.length cap ((List.range l.length).map F) hx (by simp) (fun j u hj => ?_) (by
      intro u hu
      obtain ⟨i, hi, rfl⟩ := List.mem_map.1 hu
      exact (hF i (List.mem_range.1 hi)).2.one) (by unfold maxLen; omega) (by omega) hB ?_
    · have hj2 : j < l.length := by
        have := (List.getElem?_eq_some_iff.1 hj).1
        simpa using this
      rw [show (⟨b, oo, none⟩ : Addr).add j = ⟨b, oo + j, none⟩ by simp [Addr.add], (hF j hj2).1]
      rw [← hj]
      simp [hj2]
    · intro v' w' h1 h2 h3
      rw [Nat.zero_add, List.nil_append] at h1
      have hbel : Below B w w' := (Below.refl B w).grown h2 hB fun k hk => (hlo k hk).1
      refine h v' w' ⟨_, hlen, h1, fun i a b => ?_⟩ hbel
      have := (hF i b).2.below hbel
      simpa using this
/-- What an append of one row has made. -/
theorem OwnY.snoc {B : Nat} {v v' : Value} {ll : List (List Int)} {l : List Int} {u : Value} {w w' : World} (h : OwnY B v ll w) (hr : RdZ w B u l)
    (ho : ∀ us, us.length = ll.length → w.ownsRow B 22 1 v ll.length us → w'.ownsRow B 22 1 v' (ll.length + 1) (us ++ [u])) (hb : Below B w w') : OwnY B v' (ll ++ [l]) w' := by
  obtain ⟨us, h1, h2, h3⟩ := h
  refine ⟨us ++ [u], by simp [h1], by rw [List.length_append]; exact ho us h1 h2, fun i a b => ?_⟩
  by_cases hi : i < us.length
  · rw [List.getElem_append_left hi, List.getElem_append_left (by omega)]
    exact (h3 i hi (by omega)).below hb
  · have : i = us.length := by simp at a; omega
    subst this
    rw [List.getElem_append_right (Nat.le_refl _)]
    simp only [Nat.sub_self, List.getElem_singleton]
    have e : (ll ++ [l])[us.length]'b = l := by
      rw [List.getElem_append_right (by omega)]
      simp [h1]
    rw [e]
    exact hr.below hb
end Go.Proofs.Ytnhjiappmblnmaa
