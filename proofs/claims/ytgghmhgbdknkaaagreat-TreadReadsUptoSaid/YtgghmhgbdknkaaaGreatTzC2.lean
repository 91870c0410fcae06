/-
  What a turn of the reference's rows stands on; the reference's Row of a row of the call's own. Conditions: those that each lemma names.
-/
import Derived.Test.YtgghmhgbdknkaaaGreatTzC
import Derived.Test.YtgghmhgbdknkaaaGreatM6
import Derived.Test.YtgghmhgbdknkaaaGreatMR2
namespace Go.Proofs.YtgghmhgbdknkaaaGreat
open Go.RowKit

/-- What is one level on is read as B says. -/
def ZNext (M : Nat) (l : List T.Tk) (vl : Value) (lv : Int) (B : T.P) : Prop :=
  ∀ (s : T.S) (A : Option Addr) (c : Nat) (w : World), RdK w w.heap.size vl l → RdSt w (.slice A s.sites.length c) s.sites → s.pl ≤ l.length → s.sites.length ≤ s.pl → 0 ≤ s.site → s.site + l.length ≤ 4000000000000000000 + s.pl →
    Calls Tryz.prog 15 #[vl, stV s.pl s.site (.slice A s.sites.length c) 0, .int .i64 lv] w (WPost M (B s) w)

theorem any_none {ss : List ByteArray} {x : ByteArray} (h : ∀ i, i < ss.length → ∀ h : i < ss.length, ss[i] ≠ x) : ss.any (fun y => decide (y = x)) = false := by
  rw [List.any_eq_false]
  intro y hy
  obtain ⟨i, hi, rfl⟩ := List.getElem_of_mem hy
  simpa using h i hi hi
theorem any_some {ss : List ByteArray} {x : ByteArray} {i : Nat} (hi : i < ss.length) (h : ss[i] = x) : ss.any (fun y => decide (y = x)) = true := by
  rw [List.any_eq_true]
  exact ⟨ss[i], List.getElem_mem hi, by simpa using h⟩

/-- What rows stands on within a label's turn. -/
structure ZQ (w0 : World) (ss : List ByteArray) (ts : List (Value × List L.Nd)) (s : T.S) (A : Option Addr) (c : Nat) (er : Int) (v1 v2 : Value) (w : World) : Prop where
  zb : ZB w0 s.pl s.site A s.sites.length c er w
  si : RdSt w (.slice A s.sites.length c) s.sites
  ls : OwnS (w0.heap.size + 2) v1 ss w
  ts : OwnT (w0.heap.size + 2) v2 ts w

theorem ZR.q {w0 w : World} {its : List It} {s : T.S} {A : Option Addr} {c : Nat} {v1 v2 : Value} (h : ZR w0 its s A c v1 v2 w) : ZQ w0 (itS its) (itT its) s A c 0 v1 v2 w := ⟨h.zb, h.si, h.ls, h.ts⟩
theorem ZQ.below {w0 w w' : World} {ss : List ByteArray} {ts : List (Value × List L.Nd)} {s : T.S} {A : Option Addr} {c : Nat} {er : Int} {v1 v2 : Value} (h : ZQ w0 ss ts s A c er v1 v2 w) (hb : Below w.heap.size w w') : ZQ w0 ss ts s A c er v1 v2 w' :=
  ⟨h.zb.below hb, h.si.below hb, h.ls.below hb, h.ts.below hb⟩
theorem ZQ.label {w0 w w' : World} {ss : List ByteArray} {ts : List (Value × List L.Nd)} {s : T.S} {A : Option Addr} {c : Nat} {er : Int} {v1 v2 v3 : Value} {x : ByteArray} (h : ZQ w0 ss ts s A c er v1 v2 w)
    (hown : w'.ownsRow (w0.heap.size + 2) 9 1 v3 (ss.length + 1) (ss.map .string ++ [.string x])) (hg : w.grownBy w' v1.ownBlock) : ZQ w0 (ss ++ [x]) ts s A c er v3 v2 w' :=
  ⟨h.zb.grown h.ls hg, h.si.grown h.ls (by decide) hg, OwnS.snoc x hown, row_aside h.ts.1 h.ls (by decide) hg, fun t ht => row_aside (h.ts.2 t ht) h.ls (by decide) hg⟩
theorem ZQ.typ {w0 w w' : World} {ss : List ByteArray} {ts : List (Value × List L.Nd)} {s : T.S} {A : Option Addr} {c : Nat} {er : Int} {v1 v2 v3 v : Value} {t : List L.Nd} (h : ZQ w0 ss ts s A c er v1 v2 w) (ht : Own (w0.heap.size + 2) v t w)
    (hown : w'.ownsRow (w0.heap.size + 2) 26 1 v3 (ts.length + 1) (ts.map (·.1) ++ [v])) (hg : w.grownBy w' v2.ownBlock) : ZQ w0 ss (ts ++ [(v, t)]) s A c er v1 v3 w' :=
  ⟨h.zb.grown h.ts.1 hg, h.si.grown h.ts.1 (by decide) hg, row_aside h.ls h.ts.1 (by decide) hg, OwnT.snoc (v, t) hown (fun x hx => row_aside (h.ts.2 x hx) h.ts.1 (by decide) hg) (row_aside ht h.ts.1 (by decide) hg)⟩
theorem ZQ.next {w0 w : World} {ss : List ByteArray} {ts : List (Value × List L.Nd)} {s : T.S} {A : Option Addr} {c : Nat} {er : Int} {v1 v2 : Value} (h : ZQ w0 ss ts s A c er v1 v2 w) (x : Int) (hx : x = ((s.pl + 1 : Nat) : Int)) :
    ZQ w0 ss ts (stN s) A c er v1 v2 (w.setCell ⟨w0.heap.size, 0, none⟩ (.int .i64 x)) :=
  ⟨h.zb.next _ x hx, h.si.put h.zb.box (by decide) (grownBy_cell _ _ 0 _), h.ls.put h.zb.box (grownBy_cell _ _ 0 _), h.ts.put h.zb.box (grownBy_cell _ _ 0 _)⟩
theorem ZQ.put {w0 w : World} {ss : List ByteArray} {ts : List (Value × List L.Nd)} {s s2 : T.S} {A A2 : Option Addr} {c c2 : Nat} {er er2 : Int} {v1 v2 : Value} (h : ZQ w0 ss ts s A c er v1 v2 w) (h2 : RdSt w (.slice A2 s2.sites.length c2) s2.sites) :
    ZQ w0 ss ts s2 A2 c2 er2 v1 v2 (put4 w w0.heap.size (.int .i64 (s2.pl : Int)) (.int .i64 s2.site) (.slice A2 s2.sites.length c2) (.int .i64 er2)) :=
  ⟨h.zb.put, h2.put h.zb.box (by decide) (put4_grown _ _ _ _ _ _), h.ls.put h.zb.box (put4_grown _ _ _ _ _ _), h.ts.put h.zb.box (put4_grown _ _ _ _ _ _)⟩
theorem ZQ.own {w0 w : World} {ss : List ByteArray} {ts : List (Value × List L.Nd)} {s : T.S} {A : Option Addr} {c : Nat} {er : Int} {v1 v2 v : Value} {t : List L.Nd} {B : Nat} (h : ZQ w0 ss ts s A c er v1 v2 w) (ht : Own B v t w) (a b d e : Value) : Own B v t (put4 w w0.heap.size a b d e) :=
  row_put ht h.zb.box (by decide) (put4_grown _ _ _ _ _ _)

theorem itS_snoc (its : List It) (v : Value) (x : ByteArray) (t : T.Tr) : itS (its ++ [(v, (x, t))]) = itS its ++ [x] := by simp [itS]
theorem itT_snoc (its : List It) (v : Value) (x : ByteArray) (t : T.Tr) : itT (its ++ [(v, (x, t))]) = itT its ++ [(v, t.flat)] := by simp [itT]
theorem itP_snoc (its : List It) (v : Value) (x : ByteArray) (t : T.Tr) : itP (its ++ [(v, (x, t))]) = itP its ++ [(x, t)] := by simp [itP]

theorem ZQ.r {w0 w : World} {its : List It} {s : T.S} {A : Option Addr} {c : Nat} {v1 v2 v : Value} {x : ByteArray} {t : T.Tr} (h : ZQ w0 (itS its ++ [x]) (itT its ++ [(v, t.flat)]) s A c 0 v1 v2 w) : ZR w0 (its ++ [(v, (x, t))]) s A c v1 v2 w :=
  ⟨h.zb, h.si, by rw [itS_snoc]; exact h.ls, by rw [itT_snoc]; exact h.ts⟩

theorem flat_len (t : T.Tr) : t.flat.length = t.nodes := by simp [T.Tr.flat, T.Tr.nodes]

/-- A label and its type more. -/
theorem ZI.more {l : List T.Tk} {kind : Int} {B : T.P} {res res2 : T.R T.Tr} {its : List It} {s s8 : T.S} (h : ZI l kind B res its s) {x : ByteArray} {t : T.Tr} {v : Value} (hl : its.length < 50) (hll : l.length ≤ 20000) (hx : x.size ≤ 2000000)
    (hlab : L.isLabel kind x = true) (hnone : (itS its).any (fun y => decide (y = x)) = false) (hg : T.Got l (stN (stN s)) s8 t) (h1 : T.isSign l s8.pl (T.kBetw kind) = true) (heq : T.rowF l B kind (49 - its.length) (itP its ++ [(x, t)]) (stN s8) = res2) :
    ZI l kind B res2 (its ++ [(v, (x, t))]) (stN s8) := by
  have hlt := T.isSign_lt h1
  have hn := hg.nodes
  have hgl := hg.lt
  have hle := hg.le
  have hsum := h.sum
  have hw := hg.went
  obtain ⟨new, hw1, hw2, hw3⟩ := hw
  have hs1 := h.s1
  have hs0 := h.s0
  have hsl := h.sl
  simp only [stN] at hn hgl hw1 hw2 hw3
  refine { ok := ?_, len := ?_, fits := ?_, sum := ?_, pl := ?_, sl := ?_, s0 := ?_, s1 := ?_, eq := ?_ }
  · rw [itP_snoc]
    exact items_snoc h.ok hlab (by rw [itP_fst]; exact hnone) ⟨hg.ok, hg.bare⟩ hg.plain
  · simp; omega
  · intro y hy
    rcases List.mem_append.1 hy with hy | hy
    · exact h.fits y hy
    · rw [List.mem_singleton.1 hy]
      exact ⟨by simp only; omega, hx⟩
  · simp only [List.map_append, List.sum_append, List.map_cons, List.map_nil, List.sum_cons, List.sum_nil, stN]; omega
  · simp only [stN]; omega
  · simp only [stN, hw1, List.length_append]; omega
  · simp only [stN]; omega
  · simp only [stN]; omega
  · rw [itP_snoc, List.length_append, show 50 - (its.length + [(v, x, t)].length) = 49 - its.length by simp only [List.length_cons, List.length_nil]; omega]
    exact heq

/-- The reference's Row of labels and types of the call's own. -/
theorem zrow_any {kind : Int} (hk : kind = 6 ∨ kind = 7) (its : List It) (x : ByteArray) (v : Value) (t : T.Tr) (hI : T.Items kind (itP its ++ [(x, t)])) (hl : its.length < 50) (hf : ∀ y ∈ its, y.2.2.nodes ≤ 20000 ∧ y.2.1.size ≤ 2000000) (hx : x.size ≤ 2000000) (ht : t.nodes ≤ 20000)
    {B : Nat} (v1 v2 : Value) (w : World) (h1 : OwnS B v1 (itS its ++ [x]) w) (h2 : OwnT B v2 (itT its ++ [(v, t.flat)]) w) :
    Calls Tryz.prog 63 #[.int .i64 kind, v1, v2] w fun e w' => ∃ v, e = .returned (.tuple #[v, .int .i64 0]) ∧ Below w.heap.size w w' ∧ Own w.heap.size v (T.rowT kind (itP its ++ [(x, t)])).flat w' := by
  refine (refRow_said kind (itS its ++ [x]) (itT its ++ [(v, t.flat)]) ?_ ?_ ?_ ?_ ?_ v1 v2 w h1.rd h2.rd).mono ?_
  · intro s hs
    rcases List.mem_append.1 hs with hs | hs
    · obtain ⟨y, hy, rfl⟩ := List.mem_map.1 hs
      exact (hf y hy).2
    · rw [List.mem_singleton.1 hs]; exact hx
  · rw [List.length_append, itS_len]; simp; omega
  · rw [List.length_append, itT_len]; simp; omega
  · intro y hy
    rcases List.mem_append.1 hy with hy | hy
    · obtain ⟨z, hz, rfl⟩ := List.mem_map.1 hy
      simp [T.Tr.flat]
    · rw [List.mem_singleton.1 hy]; simp [T.Tr.flat]
  · intro y hy
    rcases List.mem_append.1 hy with hy | hy
    · obtain ⟨z, hz, rfl⟩ := List.mem_map.1 hy
      simp only [flat_len]
      exact (hf z hz).1
    · rw [List.mem_singleton.1 hy]; simp only [flat_len]; exact ht
  · rintro e w' ⟨v', c', rfl, hb, hs⟩
    have hs2 : RowSaid kind ((itP its ++ [(x, t)]).map (·.1)) (itT its ++ [(v, t.flat)]) w.heap.size v' c' w' := by
      rw [List.map_append, itP_fst]; exact hs
    obtain ⟨rfl, ho⟩ := rowSaid_items hk hI (by rw [List.length_append, itP_len]; simp; omega) (fun _ => by simp) (by simp [itT, itP, List.map_map, Function.comp_def]) hs2
    exact ⟨v', rfl, hb, ho⟩

end Go.Proofs.YtgghmhgbdknkaaaGreat
