/-
  graph's queue in memory; the walks of its methods Len, Push, Pop, Swap, Less. Conditions: places within it.
-/
import Derived.Test.YtahaflapkdjmhaaGrC
import Derived.Deep.QuietTactic
import Derived.Deep.RegionLaw
import Derived.BigRegion
import Derived.BigQuiet
namespace Go.Proofs.Ytahaflapkdjmhaa
open Go.RowKit

/-- An append to a row of the call's own, and where it lies, as one step of a region that draws. -/
theorem step_append_at {P : Program} {ops : Array Oper} {w : World} {o : Oper} {a : Act} {K : Act → World → Prop} {Q : Exit → Act → World → Prop} {E : Prop} (hg : o.guard = none) (s x : Operand) (t : TypeId)
    (ho : o.op = .call { callee := .builtin .append, args := #[s, x], argTypes := #[t, t] })
    (base : Nat) (e : TypeId) (i : TypeInfo) (z : Value) (size bytes : Nat) (ht : P.underlying t = some (.slice e)) (hi : P.info? e = some i) (hz : i.zero = some z)
    (hsize : i.size = size) (hby : i.bytes = bytes) (hzs : z.cells.size = size) (hsz : 0 < size)
    (v : Value) (n : Nat) (xs : List Value) (hs : a.eval s = v) (hown : w.ownsRow base e size v n xs)
    (ad : Addr) (m c : Nat) (news : List Value) (hx : a.eval x = .slice (some ad) m c) (hl : news.length = m * size) (hnews : ∀ j u, news[j]? = some u → w.cell? (ad.add j) = some u) (h1 : ∀ u ∈ news, u.oneCell' = true)
    (h63 : n + m ≤ maxLen) (hbytes : (n + m) * bytes ≤ 140737488355328) (hbase : base ≤ w.heap.size)
    (h : ∀ v' w', w'.ownsRow base e size v' (n + m) (xs ++ news) → w.grownBy w' v.ownBlock → (v'.ownBlock = v.ownBlock ∨ v'.ownBlock = some w.heap.size) → K (a.put o.dst v') w') :
    if Region.wanted o (yielded ops a.tmps) = true then Oper.wp P o a w K Q else E := by
  have hw : Region.wanted o (yielded ops a.tmps) = true := by simp [Region.wanted, hg]
  rw [if_pos hw]
  obtain ⟨v', w', hr, h2, h3, _, h5⟩ := run_append_own_at (P := P) w base t o.type e i z size bytes ht hi hz hsize hby hzs hsz v n xs hown ad m c news hl hnews h1 h63 hbytes hbase
  unfold Oper.wp execOp
  simp only [ho, resolve, invoke, builtin, Sem.run_bind, Sem.run_pure, Result.andThen_ok, List.map_toArray, List.map_cons, List.map_nil, hs, hx, hr]
  exact h v' w' h2 h3 h5

/-- Of a queue at block q, whose items lie at A, and at A' then: all else is as it was. -/
structure QK (w w' : World) (q : Nat) (A A' : Option Addr) : Prop where
  os : w'.os = w.os
  tape : w'.tape = w.tape
  output : w'.output = w.output
  size : w.heap.size ≤ w'.heap.size
  block : ∀ k, k < w.heap.size → k ≠ q → A.map (·.block) ≠ some k → w'.heap[k]? = w.heap[k]?
  loc : A'.map (·.block) = A.map (·.block) ∨ ∃ g, A'.map (·.block) = some g ∧ w.heap.size ≤ g

theorem QK.refl (w : World) (q : Nat) (A : Option Addr) : QK w w q A A := ⟨rfl, rfl, rfl, Nat.le_refl _, fun _ _ _ _ => rfl, Or.inl rfl⟩
theorem QK.trans {w w1 w2 : World} {q : Nat} {A A1 A2 : Option Addr} (h : QK w w1 q A A1) (g : QK w1 w2 q A1 A2) : QK w w2 q A A2 where
  os := g.os.trans h.os
  tape := g.tape.trans h.tape
  output := g.output.trans h.output
  size := Nat.le_trans h.size g.size
  block := fun k hk hq hA => (g.block k (Nat.lt_of_lt_of_le hk h.size) hq (by
    rcases h.loc with e | ⟨b, e, hb⟩
    · rw [e]; exact hA
    · rw [e]; intro e2; injection e2 with e2; omega)).trans (h.block k hk hq hA)
  loc := by
    rcases g.loc with e | ⟨b, e, hb⟩
    · rw [e]; exact h.loc
    · exact Or.inr ⟨b, e, Nat.le_trans h.size hb⟩
theorem QK.below {w w' : World} {q : Nat} {A A' : Option Addr} (h : QK w w' q A A') {B : Nat} (hq : B ≤ q) (hA : ∀ g, A.map (·.block) = some g → B ≤ g) (hB : B ≤ w.heap.size) : Below B w w' :=
  ⟨h.os, h.tape, h.output, h.size, fun k hk => h.block k (by omega) (by omega) (fun e => by have := hA k e; omega)⟩
theorem QK.heap {w w1 w2 : World} {q : Nat} {A A' : Option Addr} (h : QK w w1 q A A') (e : w2.heap = w1.heap) (o : w2.os = w1.os) (t : w2.tape = w1.tape) (u : w2.output = w1.output) : QK w w2 q A A' :=
  ⟨o.trans h.os, t.trans h.tape, u.trans h.output, by rw [e]; exact h.size, fun k a b c => by rw [e]; exact h.block k a b c, h.loc⟩

/-- Block q is a queue over the modules lv, of the items its, which lie at A. -/
structure Qu (w : World) (B q : Nat) (lv : Value) (A : Option Addr) (c : Nat) (its : List Nat) : Prop where
  box : w.heap[q]? = some (.cells #[lv, .slice A its.length c] 48 (0, 0))
  row : w.ownsRow B 3 1 (.slice A its.length c) its.length (numV its)
  off : A.map (·.block) ≠ some q
  lo : B ≤ q

theorem heap_cell {w : World} {b : Nat} {cs : Array Value} {t : TypeId} (h : w.heap[b]? = some (.cells cs t (0, 0))) (i : Nat) : w.cell? ⟨b, i, none⟩ = cs[i]? := cell_of_row w b i cs t (0, 0) h
theorem heap_free {w : World} {b : Nat} {cs : Array Value} {t : TypeId} (h : w.heap[b]? = some (.cells cs t (0, 0))) (i : Nat) : w.frozen? ⟨b, i, none⟩ = false := frozen_of_row w b i cs t h
theorem heap_lt {w : World} {b : Nat} {o : Obj} (h : w.heap[b]? = some o) : b < w.heap.size := (Array.getElem?_eq_some_iff.1 h).1

theorem run_assert (x : Int) (w : World) : (Instr.typeAssert (.iface 3 (.int .i64 x)) 20 3 false).run Try.prog w = .ok (.int .i64 x) w := by kernel_rfl

section
variable {w : World} {B q : Nat} {lv : Value} {A : Option Addr} {c : Nat} {its : List Nat}
theorem Qu.c0 (h : Qu w B q lv A c its) : w.cell? ⟨q, 0, none⟩ = some lv := (heap_cell h.box 0).trans rfl
theorem Qu.c1 (h : Qu w B q lv A c its) : w.cell? ⟨q, 1, none⟩ = some (.slice A its.length c) := (heap_cell h.box 1).trans rfl
theorem Qu.f1 (h : Qu w B q lv A c its) : w.frozen? ⟨q, 1, none⟩ = false := heap_free h.box 1
theorem Qu.lt (h : Qu w B q lv A c its) : q < w.heap.size := heap_lt h.box
theorem Qu.rowlo (h : Qu w B q lv A c its) : ∀ g, A.map (·.block) = some g → B ≤ g ∧ g < w.heap.size := fun g hg => h.row.lt g (by rw [ownBlock_slice]; exact hg)
theorem Qu.heap {w' : World} (h : Qu w B q lv A c its) (e : w'.heap = w.heap) : Qu w' B q lv A c its where
  box := by rw [e]; exact h.box
  row := by
    refine ⟨h.row.1, ?_⟩
    rcases h.row.2 with hn | ⟨g, cap, cur, hv, hb, hg, r⟩
    · exact Or.inl hn
    · exact Or.inr ⟨g, cap, cur, hv, hb, by rw [e]; exact hg, r⟩
  off := h.off
  lo := h.lo
end

set_option maxRecDepth 100000 in
theorem len_any {w : World} {B q : Nat} {lv : Value} {A : Option Addr} {c : Nat} {its : List Nat} (h : Qu w B q lv A c its) :
    Calls Try.prog 18 #[.pointer (some ⟨q, 0, none⟩)] w fun e w' => e = .returned (.int .i64 its.length) ∧ w = w' := by
  have c1 := h.c1
  clear h
  go_enter Try.func18, Try.ntmps18
  go_wp2
  go_ret
  exact ⟨rfl, rfl⟩

theorem Qu.pushed {w w4 : World} {B q : Nat} {lv : Value} {A : Option Addr} {c : Nat} {its : List Nat} (h : Qu w B q lv A c its) {x g' cap' : Nat} {o : Obj}
    (hown : w4.ownsRow B 3 1 (.slice (some ⟨g', 0, none⟩) (its.length + 1) cap') (its.length + 1) (numV its ++ [.int .i64 (x : Int)])) (hg : (w.drew.alloc o).grownBy w4 (Value.slice A its.length c).ownBlock)
    (hat : (Value.slice (some ⟨g', 0, none⟩) (its.length + 1) cap').ownBlock = (Value.slice A its.length c).ownBlock ∨ (Value.slice (some ⟨g', 0, none⟩) (its.length + 1) cap').ownBlock = some (w.drew.alloc o).heap.size) :
    Qu (w4.setCell ⟨q, 1, none⟩ (.slice (some ⟨g', 0, none⟩) (its.length + 1) cap')) B q lv (some ⟨g', 0, none⟩) cap' (its ++ [x]) ∧ QK w (w4.setCell ⟨q, 1, none⟩ (.slice (some ⟨g', 0, none⟩) (its.length + 1) cap')) q A (some ⟨g', 0, none⟩) := by
  rw [ownBlock_slice] at hg
  rw [ownBlock_slice, ownBlock_slice] at hat
  have hsz : (w.drew.alloc o).heap.size = w.heap.size + 1 := World.size_alloc _ _
  rw [hsz] at hat
  have hql := h.lt
  have hq4 : w4.heap[q]? = some (.cells #[lv, .slice A its.length c] 48 (0, 0)) := by
    have h1 : (w.drew.alloc o).heap[q]? = some (.cells #[lv, .slice A its.length c] 48 (0, 0)) := (Below.heap_alloc w.drew _ q hql).trans h.box
    exact (hg.block q (heap_lt h1) (fun e => h.off e.symm)).trans h1
  have hg' : g' ≠ q := by
    rcases hat with e | e
    · exact fun e2 => h.off (by rw [← e]; simp [e2])
    · simp at e; omega
  have hlen : (its ++ [x]).length = its.length + 1 := by simp
  refine ⟨⟨?_, ?_, ?_, h.lo⟩, ⟨?_, ?_, ?_, ?_, ?_, ?_⟩⟩
  · rw [hlen]
    exact heap_setCell_same w4 q 1 _ _ _ hq4
  · rw [hlen, numV_snoc]
    exact ownsRow_setCell_other hown (a := ⟨q, 1, none⟩) (by rw [ownBlock_slice]; simpa using hg') _
  · simpa using hg'
  · exact hg.os
  · exact hg.tape
  · exact hg.output
  · have := hg.size
    rw [hsz] at this
    simp only [World.size_setCell]
    omega
  · intro k hk hkq hkA
    rw [Below.heap_setCell _ _ _ _ hkq, hg.block k (by rw [hsz]; omega) (fun e => hkA e.symm)]
    exact Below.heap_alloc w.drew _ k hk
  · rcases hat with e | e
    · exact Or.inl e
    · exact Or.inr ⟨_, e, by omega⟩

set_option maxHeartbeats 2000000 in
set_option maxRecDepth 100000 in
theorem qpush_any {w : World} {B q : Nat} {lv : Value} {A : Option Addr} {c : Nat} {its : List Nat} (h : Qu w B q lv A c its) (hB : B ≤ w.heap.size) (hl : its.length ≤ 1000) (x : Nat) :
    Calls Try.prog 49 #[.pointer (some ⟨q, 0, none⟩), .iface 3 (.int .i64 (x : Int))] w fun e w' => e = .returned (.tuple #[]) ∧ ∃ A' c', Qu w' B q lv A' c' (its ++ [x]) ∧ QK w w' q A A' := by
  have H := hid h
  have hqlt := h.lt
  have c1 := h.c1
  have HOW : Hid (∀ o, (w.drew.alloc o).ownsRow B 3 1 (.slice A its.length c) its.length (numV its)) := hid fun o => World.ownsRow.alloc (show w.drew.ownsRow B 3 1 (.slice A its.length c) its.length (numV its) from h.row) o
  have HNW : Hid (∀ j u, [Value.int .i64 (x : Int)][j]? = some u → (w.drew.alloc (.cells #[.int .i64 (x : Int)] 3)).cell? ((⟨w.heap.size, 0, none⟩ : Addr).add j) = some u) := hid (cell_one_new w.drew _ _)
  have H63 : Hid (its.length + 1 ≤ maxLen) := hid (by unfold maxLen; omega)
  have HBY : Hid ((its.length + 1) * 8 ≤ 140737488355328) := hid (by omega)
  have HBS : Hid (B ≤ (w.drew.alloc (.cells #[.int .i64 (x : Int)] 3)).heap.size) := hid (by rw [World.size_alloc]; show B ≤ w.heap.size + 1; omega)
  have HQ4 : Hid (∀ (w4 : World), (w.drew.alloc (.cells #[.int .i64 (x : Int)] 3)).grownBy w4 (Value.slice A its.length c).ownBlock → w4.heap[q]? = some (.cells #[lv, .slice A its.length c] 48 (0, 0))) := hid fun w4 hg => by
    have h1 : (w.drew.alloc (.cells #[.int .i64 (x : Int)] 3)).heap[q]? = some (.cells #[lv, .slice A its.length c] 48 (0, 0)) := (Below.heap_alloc w.drew _ q hqlt).trans h.box
    exact (hg.block q (heap_lt h1) (by rw [ownBlock_slice]; exact fun e => h.off e.symm)).trans h1
  obtain ⟨i0, hi, hz0, hz1, hz2⟩ := info_parts info_int
  clear h
  have hta := run_assert
  go_enter Try.func49, Try.ntmps49
  go_wp2_with fail
  go_region_law (first
    | (refine step_append_at rfl (.tmp 8) (.tmp 11) 30 rfl B 3 i0 (.int .i64 0) 1 8 Try.underlying30 hi hz0 hz1 hz2 rfl (by decide) _ _ _ rfl (HOW.out _) ⟨w.heap.size, 0, none⟩ 1 1 [.int .i64 (x : Int)] rfl rfl HNW.out (ints_oneCell .i64 [(x : Int)]) H63.out HBY.out HBS.out ?_
       intro v4 w4 hown hgrow hloc
       obtain ⟨g', cap', rfl⟩ := row_succ hown
       have HOWN := hid hown
       have HGR := hid hgrow
       have HLOC := hid hloc
       have HB4 := hid (HQ4.out _ hgrow)
       have c4 : w4.cell? ⟨q, 1, none⟩ = some (.slice A its.length c) := (heap_cell HB4.out 1).trans rfl
       have f4 : w4.frozen? ⟨q, 1, none⟩ = false := heap_free HB4.out 1
       clear hown hgrow hloc))
  all_goals go_wp2
  all_goals go_end0
  all_goals exact ⟨rfl, some ⟨g', 0, none⟩, cap', H.out.pushed HOWN.out HGR.out HLOC.out⟩

end Go.Proofs.Ytahaflapkdjmhaa
