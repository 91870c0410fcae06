/-
  Filled by one assignment and then by another one; two assignments, merged; rows of choices of the call's own. No conditions but those that each lemma names.
-/
import Derived.Test.YtmcdggjcpfkchaaAgZ
namespace Go.Proofs.Ytmcdggjcpfkchaa.L
open Go
theorem static_kind {u : List Nd} (h : staticL u = true) : ∀ x ∈ u, x.kind ≠ 0 := by
  intro x hx e
  simp only [staticL, Bool.not_eq_true', List.any_eq_false, dynN, decide_eq_true_eq] at h
  exact h x hx e
theorem fillN_kind {cs : List Ch} {x : Nd} (h : x.kind ≠ 0) : fillN cs x = [x] := by
  unfold fillN
  rw [if_neg h]
theorem fill_kinds (cs : List Ch) : ∀ {u : List Nd}, (∀ x ∈ u, x.kind ≠ 0) → fillL cs u = u
  | [], _ => rfl
  | x :: u, h => by
    have h1 := fillN_kind (cs := cs) (h x (by simp))
    have h2 := fill_kinds cs (u := u) fun y hy => h y (by simp [hy])
    unfold fillL at *
    rw [List.flatMap_cons, h1, h2]
    rfl
theorem fill_nil (t : List Nd) : fillL [] t = t := by
  unfold fillL
  have : fillN [] = fun x => [x] := by
    funext x
    unfold fillN fnd
    simp
  rw [this]
  simp
/-- Filled by a and then by b: filled by what has the choices of both. -/
theorem fill_twice {a b c : List Ch} (hs : ∀ x ∈ a, staticL x.t = true) (h : ∀ n, fnd c n = (fnd a n).or (fnd b n)) (t : List Nd) : fillL b (fillL a t) = fillL c t := by
  unfold fillL
  rw [List.flatMap_assoc]
  have key : ∀ x, (fillN a x).flatMap (fillN b) = fillN c x := by
    intro x
    by_cases h0 : x.kind = 0
    · cases hf : fnd a x.n with
      | some u =>
        have e1 : fillN a x = setName u x.name := by unfold fillN; rw [if_pos h0, hf]
        have e2 : fillN c x = setName u x.name := by unfold fillN; rw [if_pos h0, h, hf]; rfl
        rw [e1, e2]
        obtain ⟨ch, hc, -, rfl⟩ := fnd_mem hf
        exact fill_kinds b fun z hz => by
          obtain ⟨y, hy, e, -⟩ := setName_mem hz
          rw [e]; exact static_kind (hs ch hc) y hy
      | none =>
        have e1 : fillN a x = [x] := by unfold fillN; rw [if_pos h0, hf]
        have e2 : fillN c x = fillN b x := by unfold fillN; rw [if_pos h0, if_pos h0, h, hf]; rfl
        rw [e1, e2]; simp
    · rw [fillN_kind h0, fillN_kind h0]
      simp [fillN_kind h0]
  rw [show (fun x => (fillN a x).flatMap (fillN b)) = fillN c from funext key]

theorem fnd_app (a b : List Ch) (n : Int) : fnd (a ++ b) n = (fnd a n).or (fnd b n) := by
  unfold fnd
  rw [List.find?_append]
  cases a.find? (fun c => decide (c.site = n)) <;> rfl
/-- What was merged of the first i of a, and the first k of b. -/
structure Mg (a b : List Ch) (i k : Nat) (B : List Ch) : Prop where
  len : B.length = i + k
  mem : ∀ c ∈ B, (∃ (j : Nat) (h : j < a.length), j < i ∧ c = a[j]) ∨ ∃ (j : Nat) (h : j < b.length), j < k ∧ c = b[j]
  up : Up 0 B
  fnd : ∀ n, fnd B n = (fnd (a.take i) n).or (fnd (b.take k) n)
  j1 : ∀ (j : Nat) (h : j < b.length) (hi : i < a.length), j < k → b[j].site < a[i].site
  j2 : ∀ (j : Nat) (h : j < a.length) (hk : k < b.length), j < i → a[j].site < b[k].site
theorem mg_zero (a b : List Ch) : Mg a b 0 0 [] :=
  ⟨rfl, by simp, ⟨by simp, by simp⟩, fun n => by simp [L.fnd], fun j _ _ h => by omega, fun j _ _ h => by omega⟩
theorem up_snoc {B : List Ch} {c : Ch} (h : Up 0 B) (h0 : 0 < c.site) (hc : ∀ d ∈ B, d.site < c.site) : Up 0 (B ++ [c]) := by
  refine ⟨fun d hd => ?_, fun i j hi hj hij => ?_⟩
  · rcases List.mem_append.1 hd with h1 | h1
    · exact h.1 d h1
    · rw [List.mem_singleton] at h1; rw [h1]; exact h0
  · rw [List.length_append, List.length_singleton] at hi hj
    by_cases hj2 : j < B.length
    · rw [List.getElem_append_left (by omega), List.getElem_append_left hj2]
      exact h.2 i j (by omega) hj2 hij
    · have : j = B.length := by omega
      subst this
      rw [List.getElem_append_left (by omega), List.getElem_append_right (Nat.le_refl _)]
      simp only [Nat.sub_self, List.getElem_cons_zero]
      exact hc _ (List.getElem_mem (by omega))
theorem fnd_none_of {B : List Ch} {n : Int} (h : ∀ c ∈ B, c.site ≠ n) : fnd B n = none := by
  cases hf : fnd B n with
  | none => rfl
  | some u =>
    obtain ⟨c, hc, e, -⟩ := fnd_mem hf
    exact absurd e (h c hc)
theorem fnd_one (c : Ch) (n : Int) : fnd [c] n = if c.site = n then some c.t else none := by
  unfold fnd
  by_cases e : c.site = n <;> simp [e]
theorem mg_a {a b : List Ch} (ha : Up 0 a) {i k : Nat} {B : List Ch} (h : Mg a b i k B) (hi : i < a.length) (hlt : ∀ hk : k < b.length, a[i].site < b[k].site) : Mg a b (i + 1) k (B ++ [a[i]]) := by
  have hB : ∀ d ∈ B, d.site < a[i].site := fun d hd => by
    rcases h.mem d hd with ⟨j, hj, hji, rfl⟩ | ⟨j, hj, hji, rfl⟩
    · exact ha.2 j i hj hi hji
    · exact h.j1 j hj hi hji
  refine ⟨by rw [List.length_append, h.len, List.length_singleton]; omega, fun c hc => ?_, up_snoc h.up (ha.1 _ (List.getElem_mem hi)) hB, fun n => ?_, fun j hj hi2 hjk => ?_, fun j hj hk hji => ?_⟩
  · rcases List.mem_append.1 hc with h1 | h1
    · rcases h.mem c h1 with ⟨j, hj, hji, e⟩ | ⟨j, hj, hji, e⟩
      · exact Or.inl ⟨j, hj, by omega, e⟩
      · exact Or.inr ⟨j, hj, hji, e⟩
    · rw [List.mem_singleton] at h1
      exact Or.inl ⟨i, hi, by omega, h1⟩
  · rw [fnd_app, h.fnd, List.take_succ_eq_append_getElem hi, fnd_app, fnd_one]
    by_cases e : a[i].site = n
    · have h2 : L.fnd (b.take k) n = none := fnd_none_of fun c hc e2 => by
        obtain ⟨j, hj, rfl⟩ := List.mem_iff_getElem.1 hc
        rw [List.getElem_take] at e2
        simp at hj
        have := h.j1 j (by omega) hi (by omega)
        omega
      rw [h2]
      cases L.fnd (a.take i) n <;> simp
    · rw [if_neg e]
      cases L.fnd (a.take i) n <;> cases L.fnd (b.take k) n <;> rfl
  · have := h.j1 j hj hi hjk
    have := ha.2 i (i + 1) hi hi2 (by omega)
    omega
  · by_cases e : j = i
    · subst e; exact hlt hk
    · exact h.j2 j hj hk (by omega)
theorem mg_b {a b : List Ch} (hb : Up 0 b) {i k : Nat} {B : List Ch} (h : Mg a b i k B) (hk : k < b.length) (hlt : ∀ hi : i < a.length, b[k].site < a[i].site) : Mg a b i (k + 1) (B ++ [b[k]]) := by
  have hB : ∀ d ∈ B, d.site < b[k].site := fun d hd => by
    rcases h.mem d hd with ⟨j, hj, hji, rfl⟩ | ⟨j, hj, hji, rfl⟩
    · exact h.j2 j hj hk hji
    · exact hb.2 j k hj hk hji
  refine ⟨by rw [List.length_append, h.len, List.length_singleton]; omega, fun c hc => ?_, up_snoc h.up (hb.1 _ (List.getElem_mem hk)) hB, fun n => ?_, fun j hj hi2 hjk => ?_, fun j hj hk2 hji => ?_⟩
  · rcases List.mem_append.1 hc with h1 | h1
    · rcases h.mem c h1 with ⟨j, hj, hji, e⟩ | ⟨j, hj, hji, e⟩
      · exact Or.inl ⟨j, hj, hji, e⟩
      · exact Or.inr ⟨j, hj, by omega, e⟩
    · rw [List.mem_singleton] at h1
      exact Or.inr ⟨k, hk, by omega, h1⟩
  · rw [fnd_app, h.fnd, List.take_succ_eq_append_getElem hk, fnd_app, fnd_one]
    cases L.fnd (a.take i) n <;> simp
  · by_cases e : j = k
    · subst e; exact hlt hi2
    · exact h.j1 j hj hi2 (by omega)
  · have := h.j2 j hj hk hji
    have := hb.2 k (k + 1) hk hk2 (by omega)
    omega
theorem mg_end {a b B : List Ch} (h : Mg a b a.length b.length B) (n : Int) : L.fnd B n = (L.fnd a n).or (L.fnd b n) := by
  have := h.fnd n
  rwa [List.take_length, List.take_length] at this
end Go.Proofs.Ytmcdggjcpfkchaa.L
namespace Go.Proofs.Ytmcdggjcpfkchaa.E
open Go
theorem fillE_twice {a b c : List L.Ch} (hs : ∀ x ∈ a, L.staticL x.t = true) (h : ∀ n, L.fnd c n = (L.fnd a n).or (L.fnd b n)) (e : List Pt) : fillE b (fillE a e) = fillE c e := by
  unfold fillE
  rw [List.map_map]
  refine List.map_congr_left fun p _ => ?_
  simp only [Function.comp, fillP, L.fill_twice hs h]
theorem fillE_nil (e : List Pt) : fillE [] e = e := by
  unfold fillE
  conv => rhs; rw [← List.map_id e]
  refine List.map_congr_left fun p _ => ?_
  simp [fillP, L.fill_nil]
end Go.Proofs.Ytmcdggjcpfkchaa.E
namespace Go.Proofs.Ytmcdggjcpfkchaa
open Go.RowKit

/-- The cells of choices, each with its type's value. -/
def cellsC (ys : List (L.Ch × Value)) : List Value := ys.flatMap fun y => [.int .i64 y.1.site, y.2]
theorem cellsC_snoc (ys : List (L.Ch × Value)) (y : L.Ch × Value) : cellsC (ys ++ [y]) = cellsC ys ++ [.int .i64 y.1.site, y.2] := by simp [cellsC]
theorem cellsC_len (ys : List (L.Ch × Value)) : (cellsC ys).length = ys.length * 2 := by
  induction ys with
  | nil => rfl
  | cons y ys ih =>
    have e : cellsC (y :: ys) = [.int .i64 y.1.site, y.2] ++ cellsC ys := by simp [cellsC]
    rw [e, List.length_append, ih]
    simp
    omega
theorem cellsC_at : ∀ (ys : List (L.Ch × Value)) (i : Nat) (hi : i < ys.length) (k : Nat), k < 2 → (cellsC ys)[i * 2 + k]? = ([.int .i64 ys[i].1.site, ys[i].2] : List Value)[k]?
  | y :: ys, 0, _, k, hk => by
    have e : cellsC (y :: ys) = [.int .i64 y.1.site, y.2] ++ cellsC ys := by simp [cellsC]
    rw [e, List.getElem?_append_left (by simp; omega)]
    simp
  | y :: ys, i + 1, hi, k, hk => by
    have e : cellsC (y :: ys) = [.int .i64 y.1.site, y.2] ++ cellsC ys := by simp [cellsC]
    rw [e, List.getElem?_append_right (by simp; omega)]
    have e2 : (i + 1) * 2 + k - ([.int .i64 y.1.site, y.2] : List Value).length = i * 2 + k := by simp; omega
    rw [e2, cellsC_at ys i (by simpa using hi) k hk]
    simp
theorem infoChoice : (Try.prog.info? 27).map (fun i => (i.zero, i.size, i.bytes)) = some (some (.agg #[.int .i64 0, .slice none 0 0]), 2, 32) := by kernel_rfl
/-- A row of choices of the call's own reads as these. -/
theorem rdc_own {w : World} {B g c : Nat} {ys : List (L.Ch × Value)} (h : w.ownsRow B 27 2 (.slice (some ⟨g, 0, none⟩) ys.length c) ys.length (cellsC ys)) (hr : ∀ y ∈ ys, Rd w w.heap.size y.2 y.1.t) : RdC w w.heap.size (.slice (some ⟨g, 0, none⟩) ys.length c) (ys.map (·.1)) := by
  have hcap : ys.length ≤ c ∧ c ≤ maxLen := by
    rcases h.2 with ⟨e, _⟩ | ⟨g2, cap, cur, e, _, _, h1, h2, _⟩
    · simp at e
    · simp only [Value.slice.injEq] at e
      obtain ⟨-, -, rfl⟩ := e
      exact ⟨h1, h2⟩
  refine ⟨_, _, by rw [List.length_map], by rw [List.length_map]; exact hcap.1, hcap.2, fun _ => ⟨g, 0, rfl, (World.ownsRow.lt h g rfl).2, fun i hi => ?_⟩⟩
  have hi2 : i < ys.length := by simpa using hi
  have hl := cellsC_len ys
  have hc : ∀ k, k < 2 → w.cell? ⟨g, 0 + i * 2 + k, none⟩ = ([.int .i64 ys[i].1.site, ys[i].2] : List Value)[k]? := fun k hk => by
    rw [Nat.zero_add, World.ownsRow.cellAt h (i * 2 + k) (by omega), cellsC_at ys i hi2 k hk]
  rw [List.getElem_map]
  exact ⟨ys[i].2, (hc 0 (by omega)).trans rfl, (hc 1 (by omega)).trans rfl, hr _ (List.getElem_mem hi2)⟩
theorem ch_one (s : Int) (A : Option Addr) (n c : Nat) : ∀ u ∈ [Value.int .i64 s, .slice A n c], u.oneCell' = true := by
  intro u hu
  simp only [List.mem_cons, List.not_mem_nil, or_false] at hu
  rcases hu with rfl | rfl <;> rfl
theorem cells_new2 (w : World) (a b : Value) (t : TypeId) : ∀ j u, [a, b][j]? = some u → (w.alloc (.cells #[a, b] t)).cell? ((⟨w.heap.size, 0, none⟩ : Addr).add j) = some u := by
  intro j u h
  have e : ((⟨w.heap.size, 0, none⟩ : Addr).add j) = ⟨w.heap.size, j, none⟩ := by
    simp [Addr.add]
    intro h; exact h.symm
  rw [e]
  refine (heap_cell (heap_alloc_new w _) j).trans ?_
  simpa using h
theorem asg_static {cs : List L.Ch} {b : Int} (h : L.asgF b cs = true) : ∀ c ∈ cs, L.staticL c.t = true := fun c hc => by
  have := ((L.asg_parts h).1 c hc).2
  simp only [L.fillB, Bool.and_eq_true] at this
  exact this.2
theorem ne_of_len {α β : Type} {z : List α} {l : List β} (h : z.length = l.length) (hl : l ≠ []) : z ≠ [] := fun e => hl (List.eq_nil_of_length_eq_zero (by rw [← h, e]; rfl))
theorem fewC_asg {cs : List L.Ch} {most : Nat} (h : L.fewC most cs = true) : L.asgF 0 cs = true := by
  simp only [L.fewC, Bool.and_eq_true] at h
  exact h.2.2
theorem wf_fill {cs : List L.Ch} {t : List L.Nd} (ht : Wf t) (hc : ∀ c ∈ cs, ∀ y ∈ c.t, 0 ≤ y.n ∧ y.n ≤ 9223372036854775807) : Wf (L.fillL cs t) := fun x hx => by
  obtain ⟨y, hy, -, e⟩ := L.fill_mem hx
  rw [e]
  rcases hy with hy | ⟨c, hc2, hy⟩
  · exact ht y hy
  · have := hc c hc2 y hy
    omega
theorem exok_fill {cs : List L.Ch} {l : List E.Pt} (h : ExOk l) (ha : Asg cs) (h60 : ∀ p ∈ l, p.t.length ≤ 60 ∧ p.u.length ≤ 60) (hc : ∀ c ∈ cs, ∀ y ∈ c.t, 0 ≤ y.n ∧ y.n ≤ 9223372036854775807) : ExOk (E.fillE cs l) := by
  refine ⟨fun e => h.ne (List.map_eq_nil_iff.1 e), by unfold E.fillE; rw [List.length_map]; exact h.len, fun p hp => ?_, fun p hp => ?_⟩
  · obtain ⟨q, hq, rfl⟩ := List.mem_map.1 hp
    have h1 := L.fillL_len ha.l60 q.t
    have h2 := L.fillL_len ha.l60 q.u
    have h3 := h60 q hq
    exact ⟨by show (L.fillL cs q.t).length ≤ 5000; omega, by show (L.fillL cs q.u).length ≤ 5000; omega⟩
  · obtain ⟨q, hq, rfl⟩ := List.mem_map.1 hp
    have h1 := h.wf q hq
    exact ⟨wf_fill h1.1 hc, wf_fill h1.2 hc⟩
theorem asg_nil : Asg [] := ⟨⟨by simp, by simp⟩, by simp, by simp, by simp, by simp⟩
theorem rdc_nil (w : World) (B : Nat) : RdC w B (.slice none 0 0) [] := ⟨none, 0, rfl, by simp, by unfold maxLen; omega, fun h => absurd rfl h⟩

theorem arr_of7 {P : Program} {w : World} {r : Reach} {base : Nat} {t e : TypeId} {n : Nat} {v : Value} (ht : P.underlying t = some (.array n e)) (h : Value.okWide P w r base t v) : ∃ cs : Array Value, v = .agg cs := by
  simp only [Value.okWide, ht] at h
  obtain ⟨cs, h1, -⟩ := h
  exact ⟨cs, h1⟩
end Go.Proofs.Ytmcdggjcpfkchaa
