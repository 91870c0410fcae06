/-
  What graph's leastOnCycle keeps, as plain mathematics and in memory. Conditions: those that each lemma names.
-/
import Derived.Test.YtahaflapkdjmhaaGrS
import Derived.Test.YtahaflapkdjmhaaGrJ
namespace Go.Proofs.Ytahaflapkdjmhaa
open Go.RowKit

namespace Gr
def gstep (lt : Nat → Nat → Bool) (nx px : Nat → List Nat) (f : Nat) (st : List Nat × Option Nat) (i : Nat) : List Nat × Option Nat :=
  (dfs px f i st.1, if ((dfs px f i st.1).drop st.1.length).length = 1 ∧ i ∉ nx i then st.2 else leastL lt st.2 ((dfs px f i st.1).drop st.1.length))
def gst (lt : Nat → Nat → Bool) (nx px : Nat → List Nat) (f : Nat) (is : List Nat) : List Nat × Option Nat := is.foldl (gstep lt nx px f) ([], none)
theorem gst_snoc (lt : Nat → Nat → Bool) (nx px : Nat → List Nat) (f : Nat) (is : List Nat) (i : Nat) : gst lt nx px f (is ++ [i]) = gstep lt nx px f (gst lt nx px f is) i := by simp [gst, List.foldl_append]
theorem gst_at {lt : Nat → Nat → Bool} {nx px : Nat → List Nat} {f : Nat} {is S R' : List Nat} {b : Option Nat} {i : Nat} (hst : gst lt nx px f is = (S, b)) (hd : dfs px f i S = S ++ R') : gst lt nx px f (is ++ [i]) = (S ++ R', if R'.length = 1 ∧ i ∉ nx i then b else leastL lt b R') := by
  rw [gst_snoc, hst, gstep]
  simp only [hd, List.drop_left]
theorem groups_fold (lt : Nat → Nat → Bool) (nx px : Nat → List Nat) (f : Nat) : ∀ (is S : List Nat) (b : Option Nat), groups lt nx px f is S b = (is.foldl (gstep lt nx px f) (S, b)).2
  | [], _, _ => rfl
  | i :: is, S, b => by rw [groups, groups_fold lt nx px f is]; rfl
theorem gst_ok {lt : Nat → Nat → Bool} {nx px : Nat → List Nat} {n f : Nat} (hp : ∀ i, i < n → ∀ k ∈ px i, k < n) (hf : n < f) : ∀ is : List Nat, (∀ i ∈ is, i < n) → (gst lt nx px f is).1.Nodup ∧ ∀ t ∈ (gst lt nx px f is).1, t < n := by
  intro is
  have key : ∀ (is : List Nat) (st : List Nat × Option Nat), (∀ i ∈ is, i < n) → st.1.Nodup → (∀ t ∈ st.1, t < n) → (is.foldl (gstep lt nx px f) st).1.Nodup ∧ ∀ t ∈ (is.foldl (gstep lt nx px f) st).1, t < n := by
    intro is
    induction is with
    | nil => intro st _ h1 h2; exact ⟨h1, h2⟩
    | cons i is ih =>
      intro st hi h1 h2
      have g := dfs_grown hp f i st.1 (hi i (by simp)) h1 h2 (by omega)
      exact ih _ (fun x hx => hi x (by simp [hx])) g.nodup g.lt
  intro hi
  exact key is _ hi (by simp) (by simp)
/-- The best one, as a number. -/
def bestI : Option Nat → Int
  | none => -1
  | some m => (m : Int)
theorem leastL_take (lt : Nat → Nat → Bool) : ∀ (ks : List Nat) (b : Option Nat) (j : Nat) (hj : j < ks.length), leastL lt b (ks.take (j + 1)) = better lt (leastL lt b (ks.take j)) ks[j]
  | [], _, _, hj => by simp at hj
  | k :: ks, b, 0, _ => by simp [leastL]
  | k :: ks, b, j + 1, hj => by
    simp only [List.take_succ_cons, leastL, List.getElem_cons_succ]
    exact leastL_take lt ks _ j (by simpa using hj)
theorem leastL_lt {lt : Nat → Nat → Bool} {n : Nat} : ∀ (ks : List Nat) (b : Option Nat), (∀ m, b = some m → m < n) → (∀ k ∈ ks, k < n) → ∀ m, leastL lt b ks = some m → m < n
  | [], _, hb, _, m, h => hb m h
  | k :: ks, b, hb, hk, m, h => by
    refine leastL_lt ks (better lt b k) ?_ (fun x hx => hk x (by simp [hx])) m h
    intro q hq
    cases b with
    | none => simp [better] at hq; rw [← hq]; exact hk k (by simp)
    | some r =>
      simp only [better] at hq
      split at hq
      · injection hq with hq; rw [← hq]; exact hk k (by simp)
      · injection hq with hq; rw [← hq]; exact hb r rfl
theorem gst_lt {lt : Nat → Nat → Bool} {nx px : Nat → List Nat} {n f : Nat} (hp : ∀ i, i < n → ∀ k ∈ px i, k < n) (hf : n < f) (is : List Nat) (hi : ∀ i ∈ is, i < n) : ∀ m, (gst lt nx px f is).2 = some m → m < n := by
  have key : ∀ (is : List Nat) (st : List Nat × Option Nat), (∀ i ∈ is, i < n) → st.1.Nodup → (∀ t ∈ st.1, t < n) → (∀ m, st.2 = some m → m < n) → ∀ m, (is.foldl (gstep lt nx px f) st).2 = some m → m < n := by
    intro is
    induction is with
    | nil => intro st _ _ _ h; exact h
    | cons i is ih =>
      intro st hi h1 h2 h3
      have g := dfs_grown hp f i st.1 (hi i (by simp)) h1 h2 (by omega)
      refine ih _ (fun x hx => hi x (by simp [hx])) g.nodup g.lt ?_
      intro m hm
      simp only [gstep] at hm
      split at hm
      · exact h3 m hm
      · exact leastL_lt _ _ h3 (fun k hk => g.lt k (List.mem_of_mem_drop hk)) m hm
  exact key is _ hi (by simp) (by simp) (by simp)
end Gr

/-- What leastOnCycle's rounds find. -/
structure LcS (p s n pw : Nat) (lv iv uv : Value) (S : List Nat) (z : Int) (W : World) (vo : Value) (A : Option Addr) (c : Nat) (P R : List Nat) : Prop where
  ms : MkS W s n uv vo A c P R
  vs : ∃ a b c, vo = .slice a b c
  seen : P ++ R = S
  bl : W.heap[p]? = some (.cells #[lv] 22 (0, 0))
  bi : W.heap[p + 1]? = some (.cells #[iv] 40 (0, 0))
  bz : W.heap[p + 2]? = some (.cells #[.int .i64 z] 3 (0, 0))
  bw : W.heap[pw]? = some (.cells #[.func (.func 27) #[] #[.pointer (some ⟨s + 1, 0, none⟩), .pointer (some ⟨s + 2, 0, none⟩), .pointer (some ⟨s + 5, 0, none⟩)]] 52 (0, 0))

theorem MkS.cells_kept {w w' : World} {s n : Nat} {nv vo : Value} {A : Option Addr} {c : Nat} {P R : List Nat} (h : MkS w s n nv vo A c P R) (hk : ∀ (k : Nat) (cs : Array Value) (t : TypeId), w.heap[k]? = some (Obj.cells cs t (0, 0)) → w'.heap[k]? = w.heap[k]?) : MkS w' s n nv vo A c P R where
  nx := (hk _ _ _ h.nx).trans h.nx
  re := (hk _ _ _ h.re).trans h.re
  op := (hk _ _ _ h.op).trans h.op
  se := (hk _ _ _ h.se).trans h.se
  mb := (hk _ _ _ h.mb).trans h.mb
  seen := by
    refine ⟨h.seen.1, ?_⟩
    rcases h.seen.2 with hn | ⟨g, cap, cur, hv, hb, hg, r⟩
    · exact Or.inl hn
    · exact Or.inr ⟨g, cap, cur, hv, hb, (hk _ _ _ hg).trans hg, r⟩
  row := by
    refine ⟨h.row.1, ?_⟩
    rcases h.row.2 with hn | ⟨g, cap, cur, hv, hb, hg, r⟩
    · exact Or.inl hn
    · exact Or.inr ⟨g, cap, cur, hv, hb, (hk _ _ _ hg).trans hg, r⟩
  far := h.far
theorem LcS.cells_kept {p s n pw : Nat} {lv iv uv : Value} {S : List Nat} {z : Int} {w w' : World} {vo : Value} {A : Option Addr} {c : Nat} {P R : List Nat} (h : LcS p s n pw lv iv uv S z w vo A c P R) (hk : ∀ (k : Nat) (cs : Array Value) (t : TypeId), w.heap[k]? = some (Obj.cells cs t (0, 0)) → w'.heap[k]? = w.heap[k]?) : LcS p s n pw lv iv uv S z w' vo A c P R where
  ms := h.ms.cells_kept hk
  vs := h.vs
  seen := h.seen
  bl := (hk _ _ _ h.bl).trans h.bl
  bi := (hk _ _ _ h.bi).trans h.bi
  bz := (hk _ _ _ h.bz).trans h.bz
  bw := (hk _ _ _ h.bw).trans h.bw
/-- Whatever is no cells lies as it lay. -/
theorem KK.keeps {w w' : World} {s n : Nat} {nv vo : Value} {A A' : Option Addr} {c : Nat} {P R : List Nat} (h : KK (MkP s) w w' A A') (hM : MkS w s n nv vo A c P R) : KeepsOthers w w' where
  size := h.size
  same := fun k o hk ho => by
    refine (h.block k (heap_lt hk) ?_ ?_).trans hk
    · rintro (e | e | e)
      · subst e; rw [hM.re] at hk; injection hk with hk; subst hk; cases ho
      · subst e; rw [hM.op] at hk; injection hk with hk; subst hk; cases ho
      · subst e
        rcases hM.seen.2 with ⟨h0, _⟩ | ⟨g, cap, cur, hv, _, hg, _⟩
        · simp at h0
        · simp only [Value.slice.injEq, Option.some.injEq, Addr.mk.injEq, and_true] at hv
          obtain ⟨rfl, _⟩ := hv
          rw [hg] at hk; injection hk with hk; subst hk; cases ho
    · intro e
      rcases hM.row.2 with ⟨h0, _⟩ | ⟨g, cap, cur, hv, _, hg, _⟩
      · simp only [Value.slice.injEq] at h0
        rw [h0.1] at e; simp at e
      · simp only [Value.slice.injEq] at hv
        rw [hv.1] at e
        simp at e
        subst e
        rw [hg] at hk; injection hk with hk; subst hk; cases ho

/-- Behind a walk back. -/
theorem LcS.walked {p n pw : Nat} {lv iv uv : Value} {S : List Nat} {z : Int} {w w' : World} {vo vo' : Value} {A A' : Option Addr} {c c' : Nat} {P R R' : List Nat} (h : LcS p (p + 3) n pw lv iv uv S z w vo A c P R) (hM : MkS w' (p + 3) n uv vo' A' c' (P ++ R) R') (hK : KK (MkP (p + 3)) w w' A A') (hv : ∃ a b c, vo' = .slice a b c)
    (hp : pw < w.heap.size) (hpw : p + 8 < pw) (hA : ∀ g, A.map (·.block) = some g → pw < g) : LcS p (p + 3) n pw lv iv uv (S ++ R') z w' vo' A' c' (P ++ R) R' := by
  have far := h.ms.far
  have hs := h.ms.lt
  have same : ∀ k, k < w.heap.size → k ≠ p + 4 → k ≠ p + 5 → k ≠ p + 6 → A.map (·.block) ≠ some k → w'.heap[k]? = w.heap[k]? := fun k hk h1 h2 h3 hA => hK.block k hk (by rintro (e | e | e) <;> omega) hA
  have hAl : ∀ k, k ≤ pw → A.map (·.block) ≠ some k := fun k hk e => by have := hA k e; omega
  refine ⟨hM, hv, by rw [h.seen], ?_, ?_, ?_, ?_⟩
  · exact (same _ (by omega) (by omega) (by omega) (by omega) (hAl _ (by omega))).trans h.bl
  · exact (same _ (by omega) (by omega) (by omega) (by omega) (hAl _ (by omega))).trans h.bi
  · exact (same _ (by omega) (by omega) (by omega) (by omega) (hAl _ (by omega))).trans h.bz
  · exact (same _ (by omega) (by omega) (by omega) (by omega) (hAl _ (by omega))).trans h.bw
/-- The best one is stored. -/
theorem LcS.put {p n pw : Nat} {lv iv uv : Value} {S : List Nat} {z : Int} {w : World} {vo : Value} {A : Option Addr} {c : Nat} {P R : List Nat} (h : LcS p (p + 3) n pw lv iv uv S z w vo A c P R) (hpw : p + 8 < pw) (z' : Int) : LcS p (p + 3) n pw lv iv uv S z' (w.setCell ⟨p + 2, 0, none⟩ (.int .i64 z')) vo A c P R := by
  have far := h.ms.far
  have one : ∀ k, k ≠ p + 2 → (w.setCell ⟨p + 2, 0, none⟩ (.int .i64 z')).heap[k]? = w.heap[k]? := fun k hk => Below.heap_setCell _ _ _ _ hk
  exact ⟨h.ms.kept (fun k _ hk => one k (by omega)) (fun g hg => one g (by have := far g hg; omega)), h.vs, h.seen, (one _ (by omega)).trans h.bl, (one _ (by omega)).trans h.bi, one_setCell h.bz, (one _ (by omega)).trans h.bw⟩

theorem back_stops (n : Nat) (m : Nat) (hm : 1 ≤ m) (Bs : Nat) (D : List Nat) (hD : D.length ≤ 1000) (hDn : ∀ d ∈ D, d < n) (A : Option Addr) (cap : Nat) (w : World) (hBl : Bs < w.heap.size) (hBs : w.cell? ⟨Bs, 0, none⟩ = some (.slice A D.length cap)) (hR : RdN w w.heap.size (.slice A D.length cap) D) :
    SeqStopsK Fence.wide m Try.prog 28 #[.pointer (some ⟨Bs, 0, none⟩)] (fun x : BkE n => #[.int .i64 ((x.1.1 : Nat) : Int), .int .i64 ((x.1.2 : Nat) : Int)]) (KB Bs A) (fun ys => ys.map bkV = D.reverse) (fun _ => True) D.length w := fun l J Jx W hW _ _ hY h0 =>
  back1_in n Fence.wide m trivial rfl hm l Bs D hD hDn A cap J Jx hY W ((hW.cell (p := ⟨Bs, 0, none⟩) hBl).trans hBs) ((hR.below hW).mono hW.size) h0

end Go.Proofs.Ytahaflapkdjmhaa
