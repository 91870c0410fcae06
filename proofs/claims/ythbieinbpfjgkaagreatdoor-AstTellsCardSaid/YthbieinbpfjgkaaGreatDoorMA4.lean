/-
  The texts AsT, AsO, AsW, one behind the other. Conditions: those that each of them names.
-/
import Derived.Test.YthbieinbpfjgkaaGreatDoorMA3
import Derived.Test.YthbieinbpfjgkaaGreatDoorMA1
import Derived.Test.YthbieinbpfjgkaaGreatDoorM1
import Derived.Test.YthbieinbpfjgkaaGreatDoorM2
import Derived.Lib.QuietBelow
import Derived.Laws.EntriesVeiled
section
/-
  The closure of ast.Right: what it stands on; the way out when the tree is too deep. (The rest is to come: the pattern is ty's visit, with a row of labels of the call's own.)
-/
namespace Go.Proofs.YthbieinbpfjgkaaGreatDoor
open Go.RowKit Go.Sort

theorem cell_kept {w w' : World} {b j : Nat} {u : Value} (h : w'.heap[b]? = w.heap[b]?) (hc : w.cell? ⟨b, j, none⟩ = some u) : w'.cell? ⟨b, j, none⟩ = some u := by
  rw [← hc]
  simp only [World.cell?, h]

/-- Parts that are read are read still when only one later block is written. -/
theorem RdP.grown {w w' : World} {B A : Nat} {v : Value} {l : List E.Pt} (h : RdP w B v l) (hg : w.grownBy w' (some A)) (hA : B ≤ A) (hB : B ≤ w.heap.size) : RdP w' B v l := by
  obtain ⟨A', cap, hv, h1, h2, hc⟩ := h
  refine ⟨A', cap, hv, h1, h2, fun hn => ?_⟩
  obtain ⟨b, o, ha, hlt, hx⟩ := hc hn
  refine ⟨b, o, ha, hlt, fun i hi => ?_⟩
  obtain ⟨vt, vu, c0, c1, c2, c3, c4, c5, c6, c7, ht, hu⟩ := hx i hi
  have e : w'.heap[b]? = w.heap[b]? := hg.block b (by omega) (by simp; omega)
  exact ⟨vt, vu, cell_kept e c0, cell_kept e c1, cell_kept e c2, cell_kept e c3, cell_kept e c4, cell_kept e c5, cell_kept e c6, cell_kept e c7, ht.grown hg hA, hu.grown hg hA⟩

/-- What the closure stands on: the slice's box, the place's box, its own box. -/
structure VStP (l : List E.Pt) (v : Value) (g T A V p : Nat) (w : World) : Prop where
  t : w.heap[T]? = some (.cells #[v] 23 (0, 0))
  a : w.heap[A]? = some (.cells #[.int .i64 p] 3 (0, 0))
  f : w.heap[V]? = some (.cells #[.func (.func g) #[] #[.pointer (some ⟨T, 0, none⟩), .pointer (some ⟨A, 0, none⟩), .pointer (some ⟨V, 0, none⟩)]] 45 (0, 0))
  rd : RdP w A v l
  ta : T < A
  av : A < V

theorem VStP.keep {l : List E.Pt} {v : Value} {g T A V p q : Nat} {w w' : World} (h : VStP l v g T A V p w) (hg : w.grownBy w' (some A)) (ha : w'.heap[A]? = some (.cells #[.int .i64 q] 3 (0, 0))) : VStP l v g T A V q w' := by
  have hT := heap_lt h.t
  have hV := heap_lt h.f
  have hA := heap_lt h.a
  have := h.ta
  have := h.av
  exact ⟨(hg.block T hT (by simp; omega)).trans h.t, ha, (hg.block V hV (by simp; omega)).trans h.f, h.rd.grown hg (Nat.le_refl _) (by omega), h.ta, h.av⟩

set_option maxHeartbeats 2000000 in
set_option maxRecDepth 100000 in
/-- Too deep. -/
theorem avisit_deep (l : List E.Pt) (v : Value) (T A V p : Nat) (w : World) (hp : p < l.length) (hS : VStP l v 29 T A V p w) :
    Calls Tryz.prog 29 #[.int .i64 101, .pointer (some ⟨T, 0, none⟩), .pointer (some ⟨A, 0, none⟩), .pointer (some ⟨V, 0, none⟩)] w fun e w' =>
      e = .returned (.bool false) ∧ w.grownBy w' (some A) := by
  obtain ⟨A0, cap, rfl, hl1, hl2, hcx⟩ := hS.rd
  obtain ⟨b, o, rfl, hb, hcx⟩ := hcx (by rintro rfl; simp at hp)
  obtain ⟨vt, vu, x0, x1, x2, x3, x4, x5, x6, x7, ht, hu⟩ := hcx p hp
  obtain ⟨A1, c1, rfl, -⟩ := ht
  obtain ⟨A2, c2, rfl, -⟩ := hu
  have cT := Lib.cell_of_heap hS.t 0
  have cA := Lib.cell_of_heap hS.a 0
  unfold maxLen at hl2
  clear hS hcx
  generalize l[p] = X at *
  obtain ⟨k1, s1, s2, s3, n1, n2, t1, t2⟩ := X
  go_enter Tryz.func29, Tryz.ntmps29
  go_wp2
  go_ret
  exact ⟨rfl, World.grownBy_alloc _ _ _⟩

/-- What the parts' fields keep to, as the walks ask for it. -/
def Small (p : E.Pt) : Prop := p.name.size ≤ 2000000 ∧ p.bind.size ≤ 2000000 ∧ p.label.size ≤ 2000000 ∧ (∀ x ∈ p.t, x.name.size ≤ 2000000) ∧ ∀ x ∈ p.u, x.name.size ≤ 2000000

set_option maxHeartbeats 2000000 in
set_option maxRecDepth 100000 in
/-- Not too deep, but the part is not sound. -/
theorem avisit_unsound (l : List E.Pt) (v : Value) (T A V p : Nat) (d : Int) (w : World) (hd : d ≤ 100) (hM : MCell w) (hp : p < l.length) (hn : Small l[p]) (hs : E.sound l[p] = false) (hS : VStP l v 29 T A V p w) :
    Calls Tryz.prog 29 #[.int .i64 d, .pointer (some ⟨T, 0, none⟩), .pointer (some ⟨A, 0, none⟩), .pointer (some ⟨V, 0, none⟩)] w fun e w' =>
      e = .returned (.bool false) ∧ w.grownBy w' (some A) := by
  obtain ⟨A0, cap, rfl, hl1, hl2, hcx⟩ := hS.rd
  obtain ⟨b, o, rfl, hb, hcx⟩ := hcx (by rintro rfl; simp at hp)
  obtain ⟨vt, vu, x0, x1, x2, x3, x4, x5, x6, x7, ht, hu⟩ := hcx p hp
  obtain ⟨A1, c1, rfl⟩ : ∃ A1 c1, vt = .slice A1 l[p].t.length c1 := by obtain ⟨A1, c1, h, -⟩ := ht; exact ⟨A1, c1, h⟩
  obtain ⟨A2, c2, rfl⟩ : ∃ A2 c2, vu = .slice A2 l[p].u.length c2 := by obtain ⟨A2, c2, h, -⟩ := hu; exact ⟨A2, c2, h⟩
  have cT := Lib.cell_of_heap hS.t 0
  have cA := Lib.cell_of_heap hS.a 0
  have hAt := heap_lt hS.a
  unfold maxLen at hl2
  clear hS hcx
  generalize l[p] = X at *
  obtain ⟨k1, s1, s2, s3, n1, n2, t1, t2⟩ := X
  have HC := hid (isSound_any ⟨k1, s1, s2, s3, n1, n2, t1, t2⟩ hn.1 hn.2.1 hn.2.2.2.1 hn.2.2.2.2 A1 A2 c1 c2 (w.alloc (.cells #[.int .i64 k1, .string s1, .string s2, .string s3, .int .i64 n1, .int .i64 n2, .slice A1 t1.length c1, .slice A2 t2.length c2] 39)) (hM.grows (below_new _)) ((ht.alloc _).mono (by simp; omega)) ((hu.alloc _).mono (by simp; omega)))
  rw [hs] at HC
  unfold partV at HC
  have hk := fun j => Lib.cell_of_heap (heap_alloc_new w (.cells #[.int .i64 k1, .string s1, .string s2, .string s3, .int .i64 n1, .int .i64 n2, .slice A1 t1.length c1, .slice A2 t2.length c2] 39)) j
  clear ht hu hn hM hs
  simp only at *
  go_enter Tryz.func29, Tryz.ntmps29
  go_wp2_with fail
  refine (HC.out).mono ?_
  rintro e w1 ⟨rfl, hb1⟩
  go_wp2
  go_ret
  exact ⟨rfl, grown_below (World.grownBy_alloc w _ _) hb1⟩

end Go.Proofs.YthbieinbpfjgkaaGreatDoor
end

section
/-
  Rows of texts of the call's own, for ast's walks (as ty's TyRw, without what this seat has not). No conditions but those that each lemma names.
-/
namespace Go.Proofs.YthbieinbpfjgkaaGreatDoor
open Go.RowKit

/-- A row of texts of the call's own. -/
def OwnS (B : Nat) (v : Value) (ss : List ByteArray) (w : World) : Prop := w.ownsRow B 9 1 v ss.length (ss.map .string)

theorem OwnS.below {B : Nat} {v : Value} {ss : List ByteArray} {w w' : World} (h : OwnS B v ss w) (hb : Below w.heap.size w w') : OwnS B v ss w' := row_below h hb

theorem OwnS.nil (B : Nat) (w : World) : OwnS B (.slice none 0 0) [] w := World.ownsRow_nil w B _ 1

/-- It stays where one elder block is written. -/
theorem OwnS.grown {B A : Nat} {v : Value} {ss : List ByteArray} {w w' : World} (h : OwnS B v ss w) (hg : w.grownBy w' (some A)) (hA : A < B) : OwnS B v ss w' := by
  refine World.ownsRow.kept h hg ?_
  rcases h.2 with ⟨hv, _⟩ | ⟨g, cap, cur, hv, hB, _⟩
  · left; rw [hv]; rfl
  · right
    rw [hv]
    simp only [Value.ownBlock, ne_eq, Option.some.injEq]
    omega

theorem OwnS.snoc {B : Nat} {v : Value} {ss : List ByteArray} {w : World} (s : ByteArray) (h : w.ownsRow B 9 1 v (ss.length + 1) (ss.map .string ++ [.string s])) : OwnS B v (ss ++ [s]) w := by
  unfold OwnS
  rw [List.map_append, List.length_append]
  exact h

theorem OwnS.rd {B : Nat} {v : Value} {ss : List ByteArray} {w : World} (h : OwnS B v ss w) : RdS w w.heap.size v ss := by
  rcases h.2 with ⟨hv, h0⟩ | ⟨g, cap, cur, hv, _, hh, hc, hm, _⟩
  · exact ⟨none, 0, by rw [hv, h0], fun hn => absurd (List.eq_nil_of_length_eq_zero h0) hn⟩
  · subst hv
    refine ⟨_, cap, rfl, fun _ => ⟨g, 0, rfl, heap_lt hh, fun i hi => ?_⟩⟩
    rw [Nat.zero_add, World.ownsRow.cellAt h i (by omega)]
    simp [hi]

theorem OwnS.val {B : Nat} {v : Value} {ss : List ByteArray} {w : World} (h : OwnS B v ss w) : ∃ A cap, v = .slice A ss.length cap := by
  obtain ⟨A, cap, hv, -⟩ := h.rd
  exact ⟨A, cap, hv⟩

theorem infoStr : (Tryz.prog.info? 9).map (fun i => (i.zero, i.size, i.bytes)) = some (some (.string ⟨#[]⟩), 1, 16) := by kernel_rfl

end Go.Proofs.YthbieinbpfjgkaaGreatDoor
end

section
/-
  The closure of ast.Right: the walk. Conditions: Small parts, KTab, MCell.
-/
namespace Go.Proofs.YthbieinbpfjgkaaGreatDoor
open Go.RowKit Go.Sort

theorem KTab.grown {A : Nat} {w w' : World} (h : KTab w) (hg : w.grownBy w' (some A)) (hA : 2 ≤ A) : KTab w' := by
  have := h.size
  obtain ⟨t, fr, h⟩ := h
  exact ⟨t, fr, (hg.block 0 (by omega) (by simp; omega)).trans h⟩
theorem MCell.grown {A : Nat} {w w' : World} (h : MCell w) (hg : w.grownBy w' (some A)) (hA : 2 ≤ A) : MCell w' := by
  obtain ⟨m, h1, h2⟩ := h
  have := hg.size
  exact ⟨m, cell_kept (hg.block 1 (by omega) (by simp; omega)) h1, by omega⟩

theorem str_oneP (w : World) (s : ByteArray) : ∀ j u, ([Value.string s] : List Value)[j]? = some u → (w.alloc (.cells #[.string s] 9)).cell? ((⟨w.heap.size, 0, none⟩ : Addr).add j) = some u := by
  intro j u h
  have hj : j = 0 := by
    rcases Nat.lt_or_ge j 1 with hj | hj
    · omega
    · rw [List.getElem?_eq_none (by simpa using hj)] at h; cases h
  subst hj
  have := Lib.cell_of_heap (heap_alloc_new w (.cells #[.string s] 9)) 0
  simp only [List.getElem?_cons_zero, Option.some.injEq] at h
  subst h
  exact this

/-- An append to a row of the call's own, whose block is not below B. -/
theorem grown_app {w w3 w5 : World} {A B : Nat} {own : Option Nat} (h : w.grownBy w3 (some A)) (o : Obj) (hg : (w3.alloc o).grownBy w5 own) (hB : ∀ k, own = some k → B ≤ k) (hw : w.heap.size ≤ B) :
    w.grownBy w5 (some A) ∧ ∀ i, i < B → i < w3.heap.size → w5.heap[i]? = w3.heap[i]? := by
  have e : ∀ i, i < B → i < w3.heap.size → w5.heap[i]? = w3.heap[i]? := fun i h1 h2 =>
    (hg.block i (by simp; omega) (fun he => by have := hB i he.symm; omega)).trans (heap_alloc_old w3 o h2)
  exact ⟨⟨hg.os.trans h.os, hg.tape.trans h.tape, hg.output.trans h.output, Nat.le_trans h.size (Nat.le_trans (by simp) hg.size), fun i hi hn => (e i (by omega) (Nat.lt_of_lt_of_le hi h.size)).trans (h.block i hi hn)⟩, e⟩

set_option maxHeartbeats 4000000 in
set_option maxRecDepth 100000 in
theorem avisit_any (l : List E.Pt) (hnm : ∀ x ∈ l, Small x) (hmn : ∀ x ∈ l, -1000000 ≤ x.many ∧ x.many ≤ 1000000) (hln : l.length ≤ 10000) (v : Value) (T A V : Nat) (hA2 : 2 ≤ A) (m : Nat) : ∀ (d p : Nat) (w : World), d + m = 101 → 1 ≤ d → p < l.length → KTab w → MCell w → VStP l v 29 T A V p w →
    Calls Tryz.prog 29 #[.int .i64 d, .pointer (some ⟨T, 0, none⟩), .pointer (some ⟨A, 0, none⟩), .pointer (some ⟨V, 0, none⟩)] w fun e w' =>
      e = .returned (.bool (E.visitF m (l.drop p)).isSome) ∧ w.grownBy w' (some A) ∧ ∀ r, E.visitF m (l.drop p) = some r → ∃ q : Nat, w'.heap[A]? = some (.cells #[.int .i64 q] 3 (0, 0)) ∧ q ≤ l.length ∧ l.drop q = r := by
  obtain ⟨is, his, hzs0, hzs1, hzs2⟩ := info_parts infoStr
  induction m with
  | zero =>
    intro d p w hd h1 hp _ _ hS
    obtain rfl : d = 101 := by omega
    refine (avisit_deep l v T A V p w hp hS).mono ?_
    rintro e w1 ⟨rfl, hg⟩
    exact ⟨rfl, hg, fun r hr => by cases hr⟩
  | succ m ih =>
    intro d p w hd h1 hp hK hMC hS
    have hdr : Hid (l.drop p = l[p] :: l.drop (p + 1)) := hid (List.drop_eq_getElem_cons hp)
    cases hsd : E.sound l[p] with
    | false =>
      have hV : E.visitF (m + 1) (l.drop p) = none := by rw [hdr.out, E.visitF, if_neg (by rw [hsd]; simp)]
      refine (avisit_unsound l v T A V p d w (by omega) hMC hp (hnm _ (List.getElem_mem hp)) hsd hS).mono ?_
      rintro e w1 ⟨rfl, hg⟩
      exact ⟨by rw [hV]; rfl, hg, fun r hr => by rw [hV] at hr; cases hr⟩
    | true =>
      have IH := hid ih
      have HS := hid hS
      have HK := hid hK
      have HMC := hid hMC
      have HNM := hid hnm
      have HMN := hid hmn
      obtain ⟨A0, cap, rfl, hl1, hl2, hcx⟩ := hS.rd
      obtain ⟨b, o, rfl, hb, hcx⟩ := hcx (by rintro rfl; simp at hp)
      obtain ⟨vt, vu, x0, x1, x2, x3, x4, x5, x6, x7, ht, hu⟩ := hcx p hp
      obtain ⟨A1, c1, rfl⟩ : ∃ A1 c1, vt = .slice A1 l[p].t.length c1 := by obtain ⟨A1, c1, h, -⟩ := ht; exact ⟨A1, c1, h⟩
      obtain ⟨A2, c2, rfl⟩ : ∃ A2 c2, vu = .slice A2 l[p].u.length c2 := by obtain ⟨A2, c2, h, -⟩ := hu; exact ⟨A2, c2, h⟩
      have HC := hid hcx
      have cT := Lib.cell_of_heap hS.t 0
      have cA := Lib.cell_of_heap hS.a 0
      unfold maxLen at hl2
      have hAt := heap_lt hS.a
      have fA : w.frozen? ⟨A, 0, none⟩ = false := Lib.frozen_of_heap hS.a 0
      have hn := hnm _ (List.getElem_mem hp)
      have hmx := hmn _ (List.getElem_mem hp)
      clear hS hcx hnm hmn ih hK hMC
      generalize l[p] = X at *
      obtain ⟨k1, s1, s2, s3, n1, n2, t1, t2⟩ := X
      have hd2 : d ≤ 100 := by omega
      obtain ⟨O, hO⟩ : ∃ O : Obj, O = (.cells #[.int .i64 k1, .string s1, .string s2, .string s3, .int .i64 n1, .int .i64 n2, .slice A1 t1.length c1, .slice A2 t2.length c2] 39) := ⟨_, rfl⟩
      have hnew : Hid (∀ w1 : World, Below (w.alloc O).heap.size (w.alloc O) w1 →
          w.grownBy w1 (some A) ∧ w1.heap[w.heap.size]? = some (.cells #[.int .i64 k1, .string s1, .string s2, .string s3, .int .i64 n1, .int .i64 n2, .slice A1 t1.length c1, .slice A2 t2.length c2] 39 (0, 0)) ∧ w1.heap[A]? = some (.cells #[.int .i64 p] 3 (0, 0)) ∧ w.heap.size < w1.heap.size) := hid fun w1 hb1 =>
        ⟨grown_below (World.grownBy_alloc w _ _) hb1, (hb1.block _ (by simp)).trans (by rw [hO]; exact heap_alloc_new w _), (hb1.block _ (by simp; omega)).trans ((heap_alloc_old w _ hAt).trans HS.out.a), by have := hb1.size; simp at this; omega⟩
      have HSD := hid (isSound_any ⟨k1, s1, s2, s3, n1, n2, t1, t2⟩ hn.1 hn.2.1 hn.2.2.2.1 hn.2.2.2.2 A1 A2 c1 c2 (w.alloc O) (HMC.out.grows (below_new _)) ((ht.alloc _).mono (by simp; omega)) ((hu.alloc _).mono (by simp; omega)))
      rw [hsd] at HSD
      have hV : Hid (E.visitF (m + 1) (l.drop p) = E.kidsF (E.visitF m) ⟨k1, s1, s2, s3, n1, n2, t1, t2⟩ (E.many ⟨k1, s1, s2, s3, n1, n2, t1, t2⟩).toNat 0 [] (l.drop (p + 1))) := hid (by rw [hdr.out, E.visitF, if_pos hsd])
      have hmany := E.many_of_sound hsd
      have HM := hid (fun (w1 : World) (hT : KTab w1) => amany_any ⟨k1, s1, s2, s3, n1, n2, t1, t2⟩ (.slice A1 t1.length c1) (.slice A2 t2.length c2) hmx w1 hT)
      obtain ⟨c, hc⟩ : ∃ c : Nat, E.many ⟨k1, s1, s2, s3, n1, n2, t1, t2⟩ = c := ⟨(E.many ⟨k1, s1, s2, s3, n1, n2, t1, t2⟩).toNat, by omega⟩
      rw [hc] at HM hV hmany
      unfold partV at HSD HM
      subst hO
      clear ht hu hn hmx hsd
      simp only at *
      go_enter Tryz.func29, Tryz.ntmps29
      go_wp2_with fail
      refine (HSD.out).mono ?_
      rintro e w1 ⟨rfl, hb1⟩
      obtain ⟨hg1, hN1, hA1, hz1⟩ := hnew.out w1 hb1
      have cA1 := Lib.cell_of_heap hA1 0
      have fA1 : w1.frozen? ⟨A, 0, none⟩ = false := Lib.frozen_of_heap hA1 0
      have cN := fun j => Lib.cell_of_heap hN1 j
      have hne : A ≠ w.heap.size := by omega
      have hne2 : w.heap.size ≠ A := by omega
      clear fA cA cT x0 x1 x2 x3 x4 x5 x6 x7
      go_wp2_with fail
      have hg1s : w.grownBy (w1.setCell ⟨A, 0, none⟩ (.int .i64 ((p : Int) + 1))) (some A) := grown_trans hg1 ⟨rfl, rfl, rfl, by simp, fun i hi hn => heap_setCell_other w1 ⟨A, 0, none⟩ i _ (fun h => hn (by rw [h]))⟩
      refine (HM.out _ (HK.out.grown hg1s hA2)).mono ?_
      rintro e w2 ⟨rfl, hb2⟩
      have hg2 : w.grownBy w2 (some A) := grown_below hg1s hb2
      have hA2b : w2.heap[A]? = some (.cells #[.int .i64 ((p + 1 : Nat) : Int)] 3 (0, 0)) := (hb2.block A (by simp; omega)).trans (heap_setCell_same w1 A 0 _ _ _ hA1)
      have hN2 : w2.heap[w.heap.size]? = some (.cells #[.int .i64 k1, .string s1, .string s2, .string s3, .int .i64 n1, .int .i64 n2, .slice A1 t1.length c1, .slice A2 t2.length c2] 39 (0, 0)) := (hb2.block _ (by simp; omega)).trans ((heap_setCell_other w1 _ _ _ (by simp; omega)).trans hN1)
      have HS2 : Hid (VStP l (.slice (some ⟨b, o, none⟩) l.length cap) 29 T A V (p + 1) w2) := hid (HS.out.keep hg2 hA2b)
      clear hb2 hb1 hg1 hg1s hN1 hA1 cA1 fA1 cN
      go_wp2
      go_loopw [7, 24] (fun v7 v24 wr => ∃ (k q : Nat) (bf : List ByteArray), v24 = .int .i64 k ∧ k ≤ c ∧ q ≤ l.length ∧ bf.length = k ∧ OwnS (w.heap.size + 1) v7 bf wr ∧ VStP l (.slice (some ⟨b, o, none⟩) l.length cap) 29 T A V q wr ∧ w.grownBy wr (some A) ∧ wr.heap[w.heap.size]? = some (.cells #[.int .i64 k1, .string s1, .string s2, .string s3, .int .i64 n1, .int .i64 n2, .slice A1 t1.length c1, .slice A2 t2.length c2] 39 (0, 0)) ∧
        Hid (E.kidsF (E.visitF m) ⟨k1, s1, s2, s3, n1, n2, t1, t2⟩ (c - k) k bf (l.drop q) = E.visitF (m + 1) (l.drop p))) (fun _ v24 _ => c - (intOf v24).toNat)
      case atStart => exact ⟨0, p + 1, [], rfl, by omega, by omega, rfl, OwnS.nil _ _, HS2.out, hg2, hN2, hid (by rw [hV.out]; rfl)⟩
      case round =>
        obtain ⟨k, q, bf, rfl, hk, hq, hbl, hOS, hS, hg, hN, hKF⟩ := hrel
        have HN := hid hN
        have hNj := fun j => Lib.cell_of_heap hN j
        have cT := Lib.cell_of_heap hS.t 0
        have cA := Lib.cell_of_heap hS.a 0
        have cV := Lib.cell_of_heap hS.f 0
        have hza := heap_lt hS.a
        have HSR := hid hS
        have HOS := hid hOS
        have HBL := hid hbl
        have hbl2 : bf.length ≤ 1000000 := by omega
        clear hbl
        by_cases hkc : k < c
        · obtain ⟨c', hc'⟩ : ∃ c', c - k = c' + 1 := ⟨c - k - 1, by omega⟩
          rw [hc'] at hKF
          obtain ⟨Al, cl, hvl⟩ := hOS.val
          subst hvl
          by_cases hql : q = l.length
          · subst hql
            have hz : Hid (E.visitF (m + 1) (l.drop p) = none) := hid (by rw [← hKF.out, List.drop_length, E.kidsF])
            go_wp2
            have kT := cell_regrown cT
            have kA := cell_regrown cA
            clear cT cA cV hNj hS hKF hOS hN
            refine wp_region_quiet_below (by kernel_rfl) (by kernel_rfl) ?_
            repeat (go_big_quiet_step (fail))
            refine wpQuiet_nil ?_
            intro _ hw'
            obtain ⟨⟨nq, osq⟩, hw''⟩ := hw'
            subst hw''
            have hB3 := below_regrown wr nq osq
            go_wp2
            go_ret
            exact ⟨ret_bool (by rw [hz.out]; rfl), grown_below hg hB3, fun r hr => by rw [hz.out] at hr; cases hr⟩
          · have hq2 : q < l.length := by omega
            obtain ⟨A0', cap', hv', -, -, hcy⟩ := hS.rd
            simp only [Value.slice.injEq, true_and] at hv'
            obtain ⟨rfl, rfl⟩ := hv'
            obtain ⟨b', o', hbo, hb', hcy⟩ := hcy (by rintro rfl; simp at hq2)
            simp only [Option.some.injEq, Addr.mk.injEq, and_true] at hbo
            obtain ⟨rfl, rfl⟩ := hbo
            obtain ⟨wt, wu, y0, y1, y2, y3, y4, y5, y6, y7, yt, yu⟩ := hcy q hq2
            obtain ⟨B1, d1, rfl⟩ : ∃ A1 c1, wt = .slice A1 l[q].t.length c1 := by obtain ⟨A1, c1, h, -⟩ := yt; exact ⟨A1, c1, h⟩
            obtain ⟨B2, d2, rfl⟩ : ∃ A1 c1, wu = .slice A1 l[q].u.length c1 := by obtain ⟨A1, c1, h, -⟩ := yu; exact ⟨A1, c1, h⟩
            have hsy := (HNM.out _ (List.getElem_mem hq2)).2.2.1
            have hdq : Hid (l.drop q = l[q] :: l.drop (q + 1)) := hid (List.drop_eq_getElem_cons hq2)
            clear hcy yt yu
            generalize l[q] = Y at *
            have hql2 : ((q : Int) == (l.length : Int)) = false := by simp; omega
            have hms := fun (W : World) (hW : RdS W W.heap.size (.slice Al bf.length cl) bf) => amay_any ⟨k1, s1, s2, s3, n1, n2, t1, t2⟩ k bf Y hsy hbl2 (.slice A1 t1.length c1) (.slice A2 t2.length c2) (.slice B1 Y.t.length d1) (.slice B2 Y.u.length d2) (.slice Al bf.length cl) W hW
            obtain ⟨ke, lb, nm, bd, mm, nn, tt, uu⟩ := Y
            have hN0 := hNj 0
            have hN1 := hNj 1
            have hN2 := hNj 2
            have hN3 := hNj 3
            have hN4 := hNj 4
            have hN5 := hNj 5
            have hN6 := hNj 6
            have hN7 := hNj 7
            simp only [List.getElem?_toArray] at hN0 hN1 hN2 hN3 hN4 hN5 hN6 hN7
            unfold partV at hms
            simp only at hms y0 y1 y2 y3 y4 y5 y6 y7 hsy hdq
            cases hmay : E.may ⟨k1, s1, s2, s3, n1, n2, t1, t2⟩ k bf ⟨ke, lb, nm, bd, mm, nn, tt, uu⟩ with
            | false =>
              simp only [hmay] at hms
              have cM := fun d os => Calls.regrown_of (hms (grow (redrawn wr d) os) (hOS.rd.below (below_regrown wr d os)))
              have CM := hid cM
              have hz : Hid (E.visitF (m + 1) (l.drop p) = none) := hid (by rw [← hKF.out, hdq.out, E.kidsF, if_neg (by rw [hmay]; simp)])
              go_wp2
              have kT := cell_regrown cT
              have kA := cell_regrown cA
              have kN0 := cell_regrown hN0
              have kN1 := cell_regrown hN1
              have kN2 := cell_regrown hN2
              have kN3 := cell_regrown hN3
              have kN4 := cell_regrown hN4
              have kN5 := cell_regrown hN5
              have kN6 := cell_regrown hN6
              have kN7 := cell_regrown hN7
              have ky0 := cell_regrown y0
              have ky1 := cell_regrown y1
              have ky2 := cell_regrown y2
              have ky3 := cell_regrown y3
              have ky4 := cell_regrown y4
              have ky5 := cell_regrown y5
              have ky6 := cell_regrown y6
              have ky7 := cell_regrown y7
              clear cT cA cV hN0 hN1 hN2 hN3 hN4 hN5 hN6 hN7 hNj hN hS hKF hms cM y0 y1 y2 y3 y4 y5 y6 y7 hOS
              refine wp_region_quiet_below (by kernel_rfl) (by kernel_rfl) ?_
              repeat (go_big_quiet_step (exact CM.out _ _))
              refine wpQuiet_nil ?_
              intro _ hw'
              obtain ⟨⟨nq, osq⟩, hw''⟩ := hw'
              subst hw''
              have hB3 := below_regrown wr nq osq
              go_wp2
              go_ret
              exact ⟨ret_bool (by rw [hz.out]; rfl), grown_below hg hB3, fun r hr => by rw [hz.out] at hr; cases hr⟩
            | true =>
              simp only [hmay] at hms
              have cM := fun d os => Calls.regrown_of (hms (grow (redrawn wr d) os) (hOS.rd.below (below_regrown wr d os)))
              have CM := hid cM
              have hz : Hid (E.visitF (m + 1) (l.drop p) = (E.visitF m (l.drop q)).bind (E.kidsF (E.visitF m) ⟨k1, s1, s2, s3, n1, n2, t1, t2⟩ c' (k + 1) (bf ++ [lb]))) := hid (by rw [← hKF.out, hdq.out, E.kidsF, if_pos hmay])
              go_wp2
              have kT := cell_regrown cT
              have kA := cell_regrown cA
              have kN0 := cell_regrown hN0
              have kN1 := cell_regrown hN1
              have kN2 := cell_regrown hN2
              have kN3 := cell_regrown hN3
              have kN4 := cell_regrown hN4
              have kN5 := cell_regrown hN5
              have kN6 := cell_regrown hN6
              have kN7 := cell_regrown hN7
              have ky0 := cell_regrown y0
              have ky1 := cell_regrown y1
              have ky2 := cell_regrown y2
              have ky3 := cell_regrown y3
              have ky4 := cell_regrown y4
              have ky5 := cell_regrown y5
              have ky6 := cell_regrown y6
              have ky7 := cell_regrown y7
              clear cT cA cV hN0 hN1 hN2 hN3 hN4 hN5 hN6 hN7 hNj hN hS hKF hms cM y0 y1 y2 y3 y4 y5 y6 y7 hOS
              refine wp_region_quiet_below (by kernel_rfl) (by kernel_rfl) ?_
              repeat (go_big_quiet_step (exact CM.out _ _))
              refine wpQuiet_nil ?_
              intro _ hw'
              obtain ⟨⟨nq, osq⟩, hw''⟩ := hw'
              subst hw''
              have hB3 := below_regrown wr nq osq
              have hg3 := grown_below hg hB3
              have HO3 := hid (HOS.out.below hB3)
              have HN3 := hid ((hB3.block _ (heap_lt HN.out)).trans HN.out)
              have HA3 := hid ((hB3.block A hza).trans HSR.out.a)
              have hs3 := hB3.size
              have hwn := heap_lt HN.out
              have jT := kT nq osq
              have jA := kA nq osq
              have jy1 := ky1 nq osq
              clear kT kA kN0 kN1 kN2 kN3 kN4 kN5 kN6 kN7 ky0 ky1 ky2 ky3 ky4 ky5 ky6 ky7 hB3 CM
              generalize grow (redrawn wr nq) osq = w3 at *
              have hBl := below_new (w := w3) (.cells #[.string lb] 9)
              have HS5 := hid (HO3.out.below hBl)
              have hones : Hid (∀ u ∈ [Value.string lb], u.oneCell' = true) := hid (by intro u hu; simp at hu; subst hu; rfl)
              clear hBl
              go_wp2_with (at_builtin; refine wpList_append_own _ rfl _ _ 34 rfl (w.heap.size + 1) 9 is (.string ⟨#[]⟩) 1 16 Tryz.underlying34 his hzs0 hzs1 hzs2 rfl (by decide) _ _ _ rfl HS5.out ⟨w3.heap.size, 0, none⟩ 1 1 [.string lb] rfl rfl (str_oneP w3 _) hones.out ?c3 ?c4 ?c5 ?_)
              case c3 => unfold maxLen; omega
              case c4 => omega
              case c5 => first | omega | (simp; omega)
              intro v5 w5 hown hgrow _
              have hO5 := OwnS.snoc lb hown
              obtain ⟨hg5, hk5⟩ := grown_app (B := w.heap.size + 1) hg3 _ hgrow (fun k hk => (World.ownsRow.lt HS5.out k hk).1) (by omega)
              have hN5 := (hk5 w.heap.size (by omega) (by omega)).trans HN3.out
              have hA5 := (hk5 A (by omega) (by omega)).trans HA3.out
              have hS5 := HS.out.keep hg5 hA5
              have K5 := HK.out.grown hg5 hA2
              have M5 := HMC.out.grown hg5 hA2
              have hi := IH.out (d + 1) q w5 (by omega) (by omega) hq2 K5 M5 hS5
              have HG5 := hid hg5
              have HN5 := hid hN5
              have HV5 := hid hS5
              have HO5 := hid hO5
              have jV := Lib.cell_of_heap hS5.f 0
              have hz5 := heap_lt hN5
              clear hown hgrow hg5 hk5 hN5 hA5 hS5 K5 M5 hO5 jT jA jy1 HS5 HO3 hg3 HN3 HA3 hones
              cases hvis : E.visitF m (l.drop q) with
              | none =>
                rw [hvis] at hi
                have HI := hid hi
                have hz2 : Hid (E.visitF (m + 1) (l.drop p) = none) := hid (by rw [hz.out, hvis]; rfl)
                clear hi
                go_wp2_with fail
                refine (HI.out).mono ?_
                rintro e w6 ⟨rfl, hg6, -⟩
                go_wp2
                go_ret
                exact ⟨ret_bool (by rw [hz2.out]; rfl), grown_trans HG5.out hg6, fun r hr => by rw [hz2.out] at hr; cases hr⟩
              | some r =>
                rw [hvis] at hi
                have HI := hid hi
                have hz2 : Hid (E.visitF (m + 1) (l.drop p) = E.kidsF (E.visitF m) ⟨k1, s1, s2, s3, n1, n2, t1, t2⟩ c' (k + 1) (bf ++ [lb]) r) := hid (by rw [hz.out, hvis]; rfl)
                clear hi
                go_wp2_with fail
                refine (HI.out).mono ?_
                rintro e w6 ⟨rfl, hg6, hr6⟩
                obtain ⟨q', hA6, hq', hdr'⟩ := hr6 r rfl
                go_wp2
                go_roundw
                case rel =>
                  refine ⟨k + 1, q', bf ++ [lb], by go_num, by omega, hq', by rw [List.length_append, HBL.out]; rfl, HO5.out.grown hg6 (by omega), HV5.out.keep hg6 hA6, grown_trans HG5.out hg6, (hg6.block _ hz5 (by simp; omega)).trans HN5.out, hid ?_⟩
                  rw [hz2.out, show c - (k + 1) = c' by omega, hdr']
                case measure => simp [intOf]; omega
        · obtain rfl : k = c := by omega
          go_wp2
          go_ret
          rw [Nat.sub_self, E.kidsF] at hKF
          refine ⟨ret_bool (by rw [← hKF.out]; rfl), hg, fun r hr => ?_⟩
          rw [← hKF.out] at hr
          exact ⟨q, HSR.out.a, hq, Option.some.inj hr⟩

end Go.Proofs.YthbieinbpfjgkaaGreatDoor
end
