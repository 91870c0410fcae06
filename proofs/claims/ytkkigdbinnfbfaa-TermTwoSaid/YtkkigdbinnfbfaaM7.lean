/-
  The texts TyAp, one behind the other. Conditions: those that each of them names.
-/
import Derived.Test.YtkkigdbinnfbfaaM2
section
/-
  An append of a slice that reads as nodes, nil or not, to a row that the call itself has made. Condition: together at most 40000 nodes.
-/
namespace Go.Proofs.Ytkkigdbinnfbfaa
open Go.RowKit

theorem run_append_none (w : World) (A : Option Addr) (n cap : Nat) (hn : n ≤ cap) : (Builtin.append_ #[23, 23] 23 #[.slice A n cap, .slice none 0 0]).run Try.prog w = .ok (.slice A n cap) w := by
  obtain ⟨i0, hi, hz0, hz1, hz2⟩ := info_parts infoNode
  have hu := run_underlying (w := w) Try.underlying23
  cases A with
  | none => simp [Builtin.append_, hu, sizeOf, typeInfo, hi, Builtin.lenOf, hn, Builtin.firstCells]
  | some a => simp [Builtin.append_, hu, sizeOf, typeInfo, hi, Builtin.lenOf, hn, Builtin.firstCells, storeCells]

set_option maxRecDepth 100000 in
theorem wpList_app {ops : Array Oper} {rest : List Oper} {w : World} {o : Oper} {a : Act} {Q : Exit → Act → World → Prop} (hgd : o.guard = none) (s x : Operand)
    (ho : o.op = .call { callee := .builtin .append, args := #[s, x], argTypes := #[23, 23] }) (hty : o.type = 23)
    (B : Nat) (v vx : Value) (l lx : List L.Nd) (hs : a.eval s = v) (hown : Own B v l w) (hx : a.eval x = vx) (hr : Rd w w.heap.size vx lx)
    (hl : l.length + lx.length ≤ 40000) (hB : B ≤ w.heap.size)
    (h : ∀ v' w', Own B v' (l ++ lx) w' → w.grownBy w' v.ownBlock → wpList Try.prog ops Q rest (a.put o.dst v') w') : wpList Try.prog ops Q (o :: rest) a w := by
  obtain ⟨i0, hi, hz0, hz1, hz2⟩ := info_parts infoNode
  rcases hr.src with ⟨rfl, rfl⟩ | ⟨ad, cap, rfl, hsrc⟩
  · obtain ⟨A, c, hv, hn, -⟩ := hown.rd
    refine wpList_plain hgd fun K hK => ?_
    unfold Oper.wp execOp
    have hrn := run_append_none w A l.length c hn
    rw [← hv] at hrn
    simp only [ho, hty, resolve, invoke, builtin, Sem.run_bind, Sem.run_pure, Result.andThen_ok, List.map_toArray, List.map_cons, List.map_nil, hs, hx, hrn]
    exact hK _ _ (h v w (by simpa using hown) (grown_refl w _))
  · refine wpList_append_own w hgd s x 23 ho B 39 i0 (.agg #[.int .i64 0, .string ⟨#[]⟩, .int .i64 0]) 3 32 Try.underlying23 hi hz0 hz1 hz2 rfl (by decide) v l.length (cellsN l) hs hown ad lx.length cap (cellsN lx) hx (cellsN_len lx) hsrc (cellsN_one lx) (by unfold maxLen; omega) (by omega) hB ?_
    intro v' w' h1 h2 _
    exact h v' w' (Own.append h1) h2

set_option maxRecDepth 100000 in
theorem wpList_app2 {ops : Array Oper} {rest : List Oper} {w : World} {o : Oper} {a : Act} {Q : Exit → Act → World → Prop} (hgd : o.guard = none) (s x : Operand)
    (ho : o.op = .call { callee := .builtin .append, args := #[s, x], argTypes := #[23, 23] }) (hty : o.type = 23)
    (B : Nat) (v vx : Value) (l lx : List L.Nd) (hs : a.eval s = v) (hown : Own B v l w) (hx : a.eval x = vx) (hr : Rd w w.heap.size vx lx)
    (hl : l.length + lx.length ≤ 4000000) (hB : B ≤ w.heap.size)
    (h : ∀ v' w', Own B v' (l ++ lx) w' → w.grownBy w' v.ownBlock → wpList Try.prog ops Q rest (a.put o.dst v') w') : wpList Try.prog ops Q (o :: rest) a w := by
  obtain ⟨i0, hi, hz0, hz1, hz2⟩ := info_parts infoNode
  rcases hr.src with ⟨rfl, rfl⟩ | ⟨ad, cap, rfl, hsrc⟩
  · obtain ⟨A, c, hv, hn, -⟩ := hown.rd
    refine wpList_plain hgd fun K hK => ?_
    unfold Oper.wp execOp
    have hrn := run_append_none w A l.length c hn
    rw [← hv] at hrn
    simp only [ho, hty, resolve, invoke, builtin, Sem.run_bind, Sem.run_pure, Result.andThen_ok, List.map_toArray, List.map_cons, List.map_nil, hs, hx, hrn]
    exact hK _ _ (h v w (by simpa using hown) (grown_refl w _))
  · refine wpList_append_own w hgd s x 23 ho B 39 i0 (.agg #[.int .i64 0, .string ⟨#[]⟩, .int .i64 0]) 3 32 Try.underlying23 hi hz0 hz1 hz2 rfl (by decide) v l.length (cellsN l) hs hown ad lx.length cap (cellsN lx) hx (cellsN_len lx) hsrc (cellsN_one lx) (by unfold maxLen; omega) (by omega) hB ?_
    intro v' w' h1 h2 _
    exact h v' w' (Own.append h1) h2

end Go.Proofs.Ytkkigdbinnfbfaa
end
