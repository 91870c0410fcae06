/-
  Rows of numbers, as they read, and as the call's own: an append to one of them. Conditions: rows in blocks of their own.
-/
import Derived.Test.YtahaflapkdjmhaaGrB
import Derived.Test.YtahaflapkdjmhaaGrT
import Derived.Maps.AppendAt
import Derived.OneCell
namespace Go.Proofs.Ytahaflapkdjmhaa
open Go.RowKit

/-- A slice that reads as numbers that are not below 0. -/
def RdN (w : World) (B : Nat) (v : Value) (l : List Nat) : Prop :=
  ∃ A cap, v = .slice A l.length cap ∧ l.length ≤ cap ∧ cap ≤ maxLen ∧ (l ≠ [] → ∃ b, A = some ⟨b, 0, none⟩ ∧ b < B ∧ ∀ (i : Nat) (h : i < l.length), w.cell? ⟨b, i, none⟩ = some (.int .i64 (l[i] : Int)))
theorem RdN.below {w w' : World} {B : Nat} {v : Value} {l : List Nat} (h : RdN w B v l) (hb : Below B w w') : RdN w' B v l := by
  obtain ⟨A, cap, hv, h1, h2, hc⟩ := h
  refine ⟨A, cap, hv, h1, h2, fun hne => ?_⟩
  obtain ⟨b, hA, hlt, hc⟩ := hc hne
  exact ⟨b, hA, hlt, fun i hi => (hb.cell (p := ⟨b, i, none⟩) hlt).trans (hc i hi)⟩
theorem RdN.mono {w : World} {B B' : Nat} {v : Value} {l : List Nat} (h : RdN w B v l) (hb : B ≤ B') : RdN w B' v l := by
  obtain ⟨A, cap, hv, h1, h2, hc⟩ := h
  refine ⟨A, cap, hv, h1, h2, fun hne => ?_⟩
  obtain ⟨b, hA, hlt, hc⟩ := hc hne
  exact ⟨b, hA, by omega, hc⟩
/-- A slice that reads as rows of numbers. -/
def RdG (w : World) (B : Nat) (v : Value) (rows : List (List Nat)) : Prop :=
  ∃ b, v = .slice (some ⟨b, 0, none⟩) rows.length rows.length ∧ b < B ∧ ∀ (i : Nat) (h : i < rows.length), ∃ Ai ci, w.cell? ⟨b, i, none⟩ = some (.slice Ai rows[i].length ci) ∧ RdN w B (.slice Ai rows[i].length ci) rows[i]
theorem RdG.below {w w' : World} {B : Nat} {v : Value} {rows : List (List Nat)} (h : RdG w B v rows) (hb : Below B w w') : RdG w' B v rows := by
  obtain ⟨b, hv, hlt, hc⟩ := h
  refine ⟨b, hv, hlt, fun i hi => ?_⟩
  obtain ⟨Ai, ci, h1, h2⟩ := hc i hi
  exact ⟨Ai, ci, (hb.cell (p := ⟨b, i, none⟩) hlt).trans h1, h2.below hb⟩
theorem RdG.mono {w : World} {B B' : Nat} {v : Value} {rows : List (List Nat)} (h : RdG w B v rows) (hb : B ≤ B') : RdG w B' v rows := by
  obtain ⟨b, hv, hlt, hc⟩ := h
  refine ⟨b, hv, by omega, fun i hi => ?_⟩
  obtain ⟨Ai, ci, h1, h2⟩ := hc i hi
  exact ⟨Ai, ci, h1, h2.mono hb⟩

theorem RdN.at_ {w w' : World} {B : Nat} {v : Value} {l : List Nat} (h : RdN w B v l) (hb : Below B w w') {k : Nat} (hk : k < l.length) : ∃ b cap, v = .slice (some ⟨b, 0, none⟩) l.length cap ∧ b < B ∧ w'.cell? ⟨b, k, none⟩ = some (.int .i64 (l[k] : Int)) := by
  obtain ⟨A, cap, hv, -, -, hc⟩ := h
  obtain ⟨b, hA, hlt, hcc⟩ := hc (by rintro rfl; simp at hk)
  subst hA
  exact ⟨b, cap, hv, hlt, (hb.cell (p := ⟨b, k, none⟩) hlt).trans (hcc k hk)⟩
theorem RdG.at_ {w w' : World} {B : Nat} {v : Value} {l : List (List Nat)} (h : RdG w B v l) (hb : Below B w w') {k : Nat} (hk : k < l.length) : ∃ b Ai ci, v = .slice (some ⟨b, 0, none⟩) l.length l.length ∧ b < B ∧ w'.cell? ⟨b, k, none⟩ = some (.slice Ai l[k].length ci) ∧ RdN w B (.slice Ai l[k].length ci) l[k] := by
  obtain ⟨b, hv, hlt, hcc⟩ := h
  obtain ⟨Ai, ci, h1, h2⟩ := hcc k hk
  exact ⟨b, Ai, ci, hv, hlt, (hb.cell (p := ⟨b, k, none⟩) hlt).trans h1, h2⟩
theorem RdG.atv {w w' : World} {B b m m' : Nat} {l : List (List Nat)} (h : RdG w B (.slice (some ⟨b, 0, none⟩) m m') l) (hb : Below B w w') {k : Nat} (hk : k < l.length) : ∃ Ai ci, b < B ∧ w'.cell? ⟨b, k, none⟩ = some (.slice Ai l[k].length ci) ∧ RdN w B (.slice Ai l[k].length ci) l[k] := by
  obtain ⟨b', Ai, ci, hv, h1, h2, h3⟩ := h.at_ hb hk
  simp only [Value.slice.injEq, Option.some.injEq, Addr.mk.injEq, and_true] at hv
  obtain ⟨rfl, _⟩ := hv
  exact ⟨Ai, ci, h1, h2, h3⟩
theorem RdN.atv {w w' : World} {B m c : Nat} {A : Option Addr} {l : List Nat} (h : RdN w B (.slice A m c) l) (hb : Below B w w') {k : Nat} (hk : k < l.length) : ∃ b, A = some ⟨b, 0, none⟩ ∧ b < B ∧ w'.cell? ⟨b, k, none⟩ = some (.int .i64 (l[k] : Int)) := by
  obtain ⟨b, cap, hv, h1, h2⟩ := h.at_ hb hk
  simp only [Value.slice.injEq] at hv
  exact ⟨b, hv.1, h1, h2⟩
theorem row_succ {W : World} {base : Nat} {e : TypeId} {size : Nat} {v : Value} {k : Nat} {xs : List Value} (h : W.ownsRow base e size v (k + 1) xs) : ∃ g cap, v = .slice (some ⟨g, 0, none⟩) (k + 1) cap := by
  rcases h.2 with ⟨_, h0⟩ | ⟨g, cap, cur, rfl, _⟩
  · omega
  · exact ⟨g, cap, rfl⟩
def numV (l : List Nat) : List Value := l.map fun k : Nat => Value.int .i64 (k : Int)
theorem numV_snoc (l : List Nat) (k : Nat) : numV (l ++ [k]) = numV l ++ [.int .i64 (k : Int)] := by simp [numV]
theorem ownBlock_slice (A : Option Addr) (n c : Nat) : (Value.slice A n c).ownBlock = A.map (·.block) := by cases A <;> rfl

/-- A row of the call's own reads as its numbers. -/
theorem own_rd {w : World} {B : Nat} {v : Value} {l : List Nat} (h : w.ownsRow B 3 1 v l.length (numV l)) : RdN w w.heap.size v l := by
  rcases h.2 with ⟨rfl, h0⟩ | ⟨g, cap, cur, rfl, hb, hg, h1, h2, h3, h4⟩
  · exact ⟨none, 0, by rw [h0], by omega, by unfold maxLen; omega, fun hne => absurd (List.eq_nil_of_length_eq_zero h0) hne⟩
  · refine ⟨_, _, rfl, h1, h2, fun hne => ⟨g, rfl, (Array.getElem?_eq_some_iff.1 hg).1, fun i hi => ?_⟩⟩
    have := World.ownsRow.cellAt h i (by omega)
    rw [this]
    simp [numV, hi]

/-- Rows that the call has made: block b holds them; each is nil, or lies in a block of its own. -/
structure OwnG (w : World) (B b n : Nat) (A : Nat → Option Addr) (C : Nat → Nat) (f : Nat → List Nat) : Prop where
  out : w.ownsRow B 30 1 (.slice (some ⟨b, 0, none⟩) n n) n ((List.range n).map fun i => Value.slice (A i) (f i).length (C i))
  row : ∀ i, i < n → w.ownsRow B 3 1 (.slice (A i) (f i).length (C i)) (f i).length (numV (f i))
  off : ∀ i, i < n → (A i).map (·.block) ≠ some b
  apart : ∀ i j, i < n → j < n → i ≠ j → ∀ g, (A i).map (·.block) = some g → (A j).map (·.block) ≠ some g

theorem OwnG.lt {w : World} {B b n : Nat} {A : Nat → Option Addr} {C : Nat → Nat} {f : Nat → List Nat} (h : OwnG w B b n A C f) : B ≤ b ∧ b < w.heap.size := h.out.lt b rfl
theorem OwnG.rowlt {w : World} {B b n : Nat} {A : Nat → Option Addr} {C : Nat → Nat} {f : Nat → List Nat} (h : OwnG w B b n A C f) {i : Nat} (hi : i < n) : ∀ g, (A i).map (·.block) = some g → B ≤ g ∧ g < w.heap.size := fun g hg => (h.row i hi).lt g (by rw [ownBlock_slice]; exact hg)
theorem OwnG.cell {w : World} {B b n : Nat} {A : Nat → Option Addr} {C : Nat → Nat} {f : Nat → List Nat} (h : OwnG w B b n A C f) {i : Nat} (hi : i < n) : w.cell? ⟨b, i, none⟩ = some (.slice (A i) (f i).length (C i)) ∧ w.frozen? ⟨b, i, none⟩ = false := by
  refine ⟨?_, h.out.frozenAt i⟩
  rw [h.out.cellAt i (by omega)]
  simp [hi]
theorem OwnG.made (w : World) (n : Nat) (hn : n ≤ 1000000) : OwnG (w.alloc (.cells (madeCells #[.slice none 0 0] n) 30)) w.heap.size w.heap.size n (fun _ => none) (fun _ => 0) (fun _ => []) where
  out := by
    have := World.ownsRow_lit (base := w.heap.size) (e := 30) (size := 1) w (madeCells #[.slice none 0 0] n) n (Nat.le_refl _) (by unfold maxLen; omega) (by simp [size_madeCells])
    rw [toList_madeCells_one] at this
    have e : (List.range n).map (fun i => Value.slice ((fun _ => none : Nat → Option Addr) i) ((fun _ => [] : Nat → List Nat) i).length ((fun _ => 0 : Nat → Nat) i)) = List.replicate n (.slice none 0 0) := by
      apply List.ext_getElem?
      intro j
      by_cases hj : j < n <;> simp [hj]
    rw [e]
    exact this
  row := fun i _ => World.ownsRow_nil _ _ _ _
  off := fun i _ => by simp
  apart := fun i j _ _ _ g hg => by simp at hg
theorem OwnG.alloc {w : World} {B b n : Nat} {A : Nat → Option Addr} {C : Nat → Nat} {f : Nat → List Nat} (h : OwnG w B b n A C f) (o : Obj) : OwnG (w.alloc o) B b n A C f where
  out := h.out.alloc o
  row := fun i hi => (h.row i hi).alloc o
  off := h.off
  apart := h.apart
theorem OwnG.congr {w : World} {B b n : Nat} {A : Nat → Option Addr} {C : Nat → Nat} {f g : Nat → List Nat} (h : OwnG w B b n A C f) (e : ∀ i, f i = g i) : OwnG w B b n A C g := by
  have : f = g := funext e
  exact this ▸ h

theorem OwnG.push {w w1 : World} {B b n : Nat} {A : Nat → Option Addr} {C : Nat → Nat} {f : Nat → List Nat} (h : OwnG w B b n A C f) {i k : Nat} (hi : i < n) {o : Obj} {g' cap' : Nat}
    (hown : w1.ownsRow B 3 1 (.slice (some ⟨g', 0, none⟩) ((f i).length + 1) cap') ((f i).length + 1) (numV (f i) ++ [.int .i64 (k : Int)])) (hg : (w.alloc o).grownBy w1 (Value.slice (A i) (f i).length (C i)).ownBlock)
    (hat : (Value.slice (some ⟨g', 0, none⟩) ((f i).length + 1) cap').ownBlock = (Value.slice (A i) (f i).length (C i)).ownBlock ∨ (Value.slice (some ⟨g', 0, none⟩) ((f i).length + 1) cap').ownBlock = some (w.alloc o).heap.size) :
    OwnG (w1.setCell ⟨b, i, none⟩ (.slice (some ⟨g', 0, none⟩) ((f i).length + 1) cap')) B b n (fun x => if x = i then some ⟨g', 0, none⟩ else A x) (fun x => if x = i then cap' else C x) (Gr.putR f i k) := by
  rw [ownBlock_slice] at hg
  rw [ownBlock_slice, ownBlock_slice] at hat
  have hb := h.lt
  have hsz : (w.alloc o).heap.size = w.heap.size + 1 := by simp
  rw [hsz] at hat
  have hg' : g' ≠ b := by
    rcases hat with e | e
    · exact fun e2 => h.off i hi (by rw [← e]; simp [e2])
    · simp at e; omega
  have hap : ∀ j, j < n → j ≠ i → (A j).map (·.block) ≠ some g' := by
    intro j hj hne
    rcases hat with e | e
    · exact fun e2 => h.apart i j hi hj (fun x => hne x.symm) g' e.symm e2
    · simp at e
      intro e2
      have := (h.rowlt hj g' e2).2
      omega
  have hout1 := (h.out.alloc o).kept hg (Or.inr (by rw [ownBlock_slice]; exact fun e => h.off i hi e.symm))
  constructor
  · have hs := (hout1.stored i (.slice (some ⟨g', 0, none⟩) ((f i).length + 1) cap')).1
    have e : ((List.range n).map fun i => Value.slice (A i) (f i).length (C i)).set i (.slice (some ⟨g', 0, none⟩) ((f i).length + 1) cap') = (List.range n).map fun x => Value.slice (if x = i then some ⟨g', 0, none⟩ else A x) (Gr.putR f i k x).length (if x = i then cap' else C x) := by
      apply List.ext_getElem?
      intro j
      rw [List.getElem?_set]
      by_cases hj : j < n
      · by_cases hji : i = j
        · subst hji; simp [hj, Gr.putR]
        · have : ¬ j = i := fun e => hji e.symm
          simp [hj, hji, this, Gr.putR]
      · by_cases hji : i = j
        · omega
        · simp [hj, hji]
    rw [e] at hs
    exact hs
  · intro j hj
    by_cases hji : j = i
    · subst hji
      have := ownsRow_setCell_other hown (a := ⟨b, j, none⟩) (by simpa [Value.ownBlock] using hg') (.slice (some ⟨g', 0, none⟩) ((f j).length + 1) cap')
      simpa [Gr.putR, numV_snoc] using this
    · have h1 := ((h.row j hj).alloc o).kept hg (by
        rw [ownBlock_slice]
        cases e : (A j).map (·.block) with
        | none => exact Or.inl rfl
        | some g => exact Or.inr (fun e2 => h.apart j i hj hi hji g e e2.symm))
      have := ownsRow_setCell_other h1 (a := ⟨b, i, none⟩) (by rw [ownBlock_slice]; exact h.off j hj) (.slice (some ⟨g', 0, none⟩) ((f i).length + 1) cap')
      simpa [Gr.putR, hji] using this
  · intro j hj
    by_cases hji : j = i
    · simp [hji, hg']
    · simp only [hji, if_false]
      exact h.off j hj
  · intro x y hx hy hne g hgx
    by_cases hxi : x = i
    · subst hxi
      have : ¬ y = x := fun e => hne e.symm
      simp only [if_true, Option.map_some, Option.some.injEq] at hgx
      simp only [this, if_false]
      rw [← hgx]
      exact hap y hy this
    · by_cases hyi : y = i
      · subst hyi
        simp only [hxi, if_false] at hgx
        simp only [if_true, Option.map_some]
        intro e
        simp only [Option.some.injEq] at e
        exact hap x hx hxi (by rw [hgx, e])
      · simp only [hxi, hyi, if_false] at hgx ⊢
        exact h.apart x y hx hy hne g hgx

/-- Behind an append to row i its cell is there, and may be written. -/
theorem OwnG.after {w w1 : World} {B b n : Nat} {A : Nat → Option Addr} {C : Nat → Nat} {f : Nat → List Nat} (h : OwnG w B b n A C f) {i : Nat} (hi : i < n) {o : Obj} (hg : (w.alloc o).grownBy w1 (Value.slice (A i) (f i).length (C i)).ownBlock) :
    w1.cell? ⟨b, i, none⟩ = some (.slice (A i) (f i).length (C i)) ∧ w1.frozen? ⟨b, i, none⟩ = false ∧ Below B w w1 := by
  have hout1 := (h.out.alloc o).kept hg (Or.inr (by rw [ownBlock_slice, ownBlock_slice]; exact fun e => h.off i hi e.symm))
  refine ⟨?_, hout1.frozenAt i, ?_⟩
  · rw [hout1.cellAt i (by omega)]
    simp [hi]
  · have h1 := h.lt
    exact ((Below.refl B w).alloc (by omega) o).grown hg (by simp; omega) (fun k hk => ((h.row i hi).lt k hk).1)
theorem OwnG.rd {w : World} {B b n : Nat} {A : Nat → Option Addr} {C : Nat → Nat} {f : Nat → List Nat} (h : OwnG w B b n A C f) (rows : List (List Nat)) (hn : rows.length = n) (he : ∀ (i : Nat) (hi : i < rows.length), f i = rows[i]) : RdG w w.heap.size (.slice (some ⟨b, 0, none⟩) n n) rows := by
  subst hn
  refine ⟨b, rfl, h.lt.2, fun i hi => ?_⟩
  have h1 := (h.cell hi).1
  have h2 := own_rd (h.row i hi)
  rw [he i hi] at h1 h2
  exact ⟨_, _, h1, h2⟩

theorem info_int : (Try.prog.info? 3).map (fun i => (i.zero, i.size, i.bytes)) = some (some (.int .i64 0), 1, 8) := by kernel_rfl
theorem info_ints : (Try.prog.info? 30).map (fun i => (i.zero, i.size, i.bytes)) = some (some (.slice none 0 0), 1, 24) := by kernel_rfl
theorem info_bool : (Try.prog.info? 4).map (fun i => (i.zero, i.size, i.bytes)) = some (some (.bool false), 1, 1) := by kernel_rfl

end Go.Proofs.Ytahaflapkdjmhaa
