/-
  AstNames is true for any row of parts and any two names: with one for the other the free names are as they must be. No conditions but the card's own.
-/
import Derived.Test.YtddabgiphdkjnaaGreatDoorRows
import Derived.Test.YtddabgiphdkjnaaGreatDoorCards
import Derived.Test.YtddabgiphdkjnaaGreatDoorTie
import Derived.Test.YtddabgiphdkjnaaGreatDoorMA17
import Derived.Test.YtddabgiphdkjnaaGreatDoorMA16
import Derived.Test.YtddabgiphdkjnaaGreatDoorMA19
import Derived.Test.YtddabgiphdkjnaaGreatDoorAsZo
import Derived.SevenTiedAt
namespace Go.Proofs.YtddabgiphdkjnaaGreatDoor.astNames
open Go.ChangeShapes Go.WideShapes Go.ChangeAt Go.RowKit
open Go.ChangeMaps (open_string shut_string)

theorem own : ownKnob Tryz.prog.godebug = none := by kernel_rfl

/-- Where a name is bound by none of the row's parts, it is free wherever it stands. -/
theorem free_names {n : ByteArray} (f : E.Fo) : ∀ (x : E.Pt) (k : Nat) (bs : List ByteArray), (∀ j, n ∉ E.bindsL x j) → n ∉ bs → (∀ y ∈ f.flat, ∀ j, n ∉ E.bindsL y j) → (∃ y ∈ f.flat, y.kind = 1 ∧ y.name = n) → n ∈ f.free x k bs := by
  induction f with
  | nil => intro x k bs _ _ _ ⟨y, hy, _⟩; simp [E.Fo.flat] at hy
  | cons y ks r ih1 ih2 =>
    intro x k bs hx hb hq ⟨z, hz, hz1, hz2⟩
    have hb2 : n ∉ bs ++ E.bindsL x k := by
      rw [List.mem_append]
      rintro (h | h)
      · exact hb h
      · exact hx k h
    simp only [E.Fo.flat, List.mem_cons, List.mem_append] at hz hq
    simp only [E.Fo.free, List.mem_append]
    rcases hz with rfl | hz | hz
    · refine Or.inl (Or.inl ?_)
      unfold E.ownN
      have h3 : Lib.containsS (bs ++ E.bindsL x k) z.name = false := by
        rw [Bool.eq_false_iff, ne_eq, E.containsS_mem, hz2]
        exact hb2
      rw [if_pos ⟨hz1, h3⟩, hz2]
      exact List.mem_singleton.2 rfl
    · exact Or.inl (Or.inr (ih1 y 0 _ (hq y (Or.inl rfl)) hb2 (fun y' h' => hq y' (Or.inr (Or.inl h'))) ⟨z, hz, hz1, hz2⟩))
    · exact Or.inr (ih2 x (k + 1) bs hx hb (fun y' h' => hq y' (Or.inr (Or.inr h'))) ⟨z, hz, hz1, hz2⟩)

theorem binds_quiet {n : ByteArray} {y : E.Pt} (h1 : y.bind ≠ n) (h2 : y.kind = 5 → y.name ≠ n) (j : Nat) : n ∉ E.bindsL y j := by
  unfold E.bindsL
  split
  · rw [List.mem_singleton]; exact fun h => h1 h.symm
  · split
    · rename_i h
      rw [List.mem_cons, List.mem_singleton]
      rintro (h' | h')
      · exact h2 h.1 h'.symm
      · exact h1 h'.symm
    · split
      · rename_i h
        rw [List.mem_singleton]; exact fun h' => h2 h.1 h'.symm
      · exact fun h => by cases h

theorem free_just {n : ByteArray} {l : List E.Pt} {x : E.Pt} {ks : E.Fo} (hl : l = x :: ks.flat) (hq : ∀ y ∈ l, y.bind ≠ n ∧ (y.kind = 5 → y.name ≠ n)) :
    n ∈ freeS (E.freeT x ks []) ↔ ∃ y ∈ l, y.kind = 1 ∧ y.name = n := by
  have e : E.freeT x ks [] = (E.Fo.cons x ks .nil).free (⟨3, ⟨#[]⟩, ⟨#[]⟩, ⟨#[]⟩, 0, 0, [], []⟩) 0 [] := by
    rw [E.Fo.free_cons]
    show E.freeT x ks [] = E.freeT x ks ([] ++ []) ++ []
    rw [List.append_nil, List.append_nil]
  have ef : (E.Fo.cons x ks .nil).flat = l := by rw [hl]; simp [E.Fo.flat]
  rw [freeS_mem, e]
  constructor
  · intro h
    have := E.Fo.free_mem _ _ _ _ _ h
    rwa [ef] at this
  · intro h
    refine free_names _ _ _ _ (fun j h' => by cases h') (fun h' => by cases h') (fun y hy => ?_) (by rwa [ef])
    rw [ef] at hy
    exact binds_quiet (hq y hy).1 (hq y hy).2

theorem free_len (x : E.Pt) (ks : E.Fo) : (freeS (E.freeT x ks [])).length ≤ ks.flat.length + 1 := by
  unfold freeS
  rw [List.length_map]
  have h1 := Lib.compact_length_le ((List.map (fun x => x.data.toList) (E.freeT x ks [])).mergeSort fun x y => decide (x ≤ y))
  rw [List.length_mergeSort, List.length_map] at h1
  have h2 := (E.Fo.cons x ks .nil).free_length (⟨3, ⟨#[]⟩, ⟨#[]⟩, ⟨#[]⟩, 0, 0, [], []⟩) 0 []
  have h3 : (E.freeT x ks []).length ≤ (E.Fo.cons x ks .nil).flat.length := by
    refine Nat.le_trans ?_ h2
    rw [E.Fo.free_cons]
    show (E.freeT x ks []).length ≤ (E.freeT x ks ([] ++ []) ++ []).length
    simp
  simp [E.Fo.flat] at h3
  omega

/-- A name for another one. -/
def ren (a b : ByteArray) (y : E.Pt) : E.Pt := if y.kind = 1 ∧ y.name = a then { y with name := b } else y
def renY (a b : ByteArray) (y : E.Pt × Value × Value) : E.Pt × Value × Value := (ren a b y.1, y.2)
def Qt (a b : ByteArray) (y : E.Pt) : Prop := y.bind ≠ a ∧ y.bind ≠ b ∧ (y.kind = 5 → y.name ≠ a ∧ y.name ≠ b)
def QtTo (l : List E.Pt) (a b : ByteArray) (i : Nat) : Prop := ∀ (j : Nat) (h : j < l.length), j < i → Qt a b l[j]
def NmTo (l : List E.Pt) (a : ByteArray) (i : Nat) : Prop := ∃ (j : Nat) (h : j < l.length), j < i ∧ l[j].kind = 1 ∧ l[j].name = a
def Zs (a b : ByteArray) (ys : List (E.Pt × Value × Value)) (i : Nat) (zs : List (E.Pt × Value × Value)) : Prop := ∀ j, zs[j]? = (ys[j]?).map fun y => if j < i then renY a b y else y

theorem QtTo.step {l : List E.Pt} {a b : ByteArray} {i : Nat} (h : QtTo l a b i) (hi : i < l.length) (q : Qt a b l[i]) : QtTo l a b (i + 1) := fun j hj hji => by
  rcases Nat.lt_or_ge j i with h1 | h1
  · exact h j hj h1
  · obtain rfl : j = i := by omega
    exact q
theorem NmTo.iff {l : List E.Pt} {a : ByteArray} {i : Nat} (hi : i < l.length) : NmTo l a (i + 1) ↔ NmTo l a i ∨ (l[i].kind = 1 ∧ l[i].name = a) := by
  constructor
  · rintro ⟨j, hj, hji, h⟩
    rcases Nat.lt_or_ge j i with h1 | h1
    · exact Or.inl ⟨j, hj, h1, h⟩
    · obtain rfl : j = i := by omega
      exact Or.inr h
  · rintro (⟨j, hj, hji, h⟩ | h)
    · exact ⟨j, hj, by omega, h⟩
    · exact ⟨i, hi, by omega, h⟩

theorem Zs.zero (a b : ByteArray) (ys : List (E.Pt × Value × Value)) : Zs a b ys 0 ys := fun j => by simp
theorem Zs.len {a b : ByteArray} {ys zs : List (E.Pt × Value × Value)} {i : Nat} (h : Zs a b ys i zs) : zs.length = ys.length := by
  have e : zs = ys.mapIdx (fun j y => if j < i then renY a b y else y) := by
    apply List.ext_getElem?
    intro j
    rw [h j, List.getElem?_mapIdx]
  rw [e, List.length_mapIdx]
theorem Zs.keep {a b : ByteArray} {ys zs : List (E.Pt × Value × Value)} {i : Nat} (h : Zs a b ys i zs) (hi : i < ys.length) (hk : renY a b ys[i] = ys[i]) : Zs a b ys (i + 1) zs := fun j => by
  rw [h j]
  by_cases hj : j = i
  · subst hj
    rw [List.getElem?_eq_getElem hi]
    simp [hk]
  · have : j < i + 1 ↔ j < i := by omega
    simp only [this]
theorem Zs.put {a b : ByteArray} {ys zs : List (E.Pt × Value × Value)} {i : Nat} (h : Zs a b ys i zs) (hi : i < ys.length) : Zs a b ys (i + 1) (zs.set i (renY a b ys[i])) := fun j => by
  by_cases hj : j = i
  · subst hj
    rw [List.getElem?_set_self (by rw [h.len]; exact hi), List.getElem?_eq_getElem hi]
    simp
  · rw [List.getElem?_set_ne (fun h => hj h.symm), h j]
    have : j < i + 1 ↔ j < i := by omega
    simp only [this]
theorem Zs.all {a b : ByteArray} {ys zs : List (E.Pt × Value × Value)} {i : Nat} (h : Zs a b ys i zs) (hi : ys.length ≤ i) : zs = ys.map (renY a b) := by
  apply List.ext_getElem?
  intro j
  rw [h j, List.getElem?_map]
  by_cases hj : j < ys.length
  · have : j < i := by omega
    simp [this]
  · rw [List.getElem?_eq_none (by omega)]
    rfl
theorem Zs.at {a b : ByteArray} {ys zs : List (E.Pt × Value × Value)} {i : Nat} (h : Zs a b ys i zs) (hi : i < ys.length) (hz : i < zs.length) : zs[i] = ys[i] := by
  have := h i
  rw [List.getElem?_eq_getElem hi, List.getElem?_eq_getElem hz] at this
  simpa using this

theorem cellsP_name (s : ByteArray) : ∀ (zs : List (E.Pt × Value × Value)) (i : Nat) (h : i < zs.length), (cellsP zs).set (i * 8 + 2) (.string s) = cellsP (zs.set i ({ zs[i].1 with name := s }, zs[i].2))
  | [], i, h => by simp at h
  | z :: zs, 0, h => rfl
  | z :: zs, i + 1, h => by
    have e : cellsP (z :: zs) = cells1 z ++ cellsP zs := rfl
    have hi : i < zs.length := by simpa using h
    have e2 : cellsP (z :: zs.set i ({ zs[i].1 with name := s }, zs[i].2)) = cells1 z ++ cellsP (zs.set i ({ zs[i].1 with name := s }, zs[i].2)) := rfl
    have ih := cellsP_name s zs i (by simpa using h)
    rw [List.set_cons_succ]
    simp only [List.getElem_cons_succ]
    rw [e2, ← ih, e, show (i + 1) * 8 + 2 = (i * 8 + 2) + 8 by omega]
    rfl

theorem OwnP.named {B g n cap i : Nat} {zs : List (E.Pt × Value × Value)} {w : World} (h : OwnP B (.slice (some ⟨g, 0, none⟩) n cap) zs w) (hn : zs.length = n) (hi : i < zs.length) (s : ByteArray) :
    OwnP B (.slice (some ⟨g, 0, none⟩) n cap) (zs.set i ({ zs[i].1 with name := s }, zs[i].2)) (w.setCell ⟨g, i * 8 + 2, none⟩ (.string s)) := by
  subst hn
  have := (World.ownsRow.stored h (i * 8 + 2) (.string s)).1
  rw [cellsP_name s zs i hi] at this
  unfold OwnP
  rw [List.length_set]
  exact this

theorem ren_no {a b : ByteArray} {y : E.Pt} (h : ¬ (y.kind = 1 ∧ y.name = a)) : ren a b y = y := by unfold ren; rw [if_neg h]
theorem ren_yes {a b : ByteArray} {y : E.Pt} (h : y.kind = 1 ∧ y.name = a) : ren a b y = { y with name := b } := by unfold ren; rw [if_pos h]

theorem name_self {a : ByteArray} : ∀ {y : E.Pt}, y.name = a → { y with name := a } = y := by
  rintro ⟨k1, s1, s2, s3, n1, n2, t1, t2⟩ rfl
  rfl

/-- A name for another one: the same, just if the first stands nowhere, or they are one. -/
theorem same_ren {l : List E.Pt} {a b : ByteArray} : E.sameE l (l.map (ren a b)) = true ↔ (¬ NmTo l a l.length) ∨ a = b := by
  constructor
  · intro h
    by_cases hn : NmTo l a l.length
    · obtain ⟨j, hj, -, h1, h2⟩ := hn
      have := E.sameE_at h j hj (by simpa using hj)
      rw [List.getElem_map, ren_yes ⟨h1, h2⟩] at this
      simp only [E.sameP, Bool.and_eq_true, decide_eq_true_eq] at this
      exact Or.inr (h2.symm.trans this.2.2.1)
    · exact Or.inl hn
  · intro h
    have e : l.map (ren a b) = l := by
      apply List.ext_getElem (by simp)
      intro j h1 h2
      rw [List.getElem_map]
      rcases h with h | rfl
      · exact ren_no (fun hk => h ⟨j, h2, h2, hk⟩)
      · unfold ren
        split
        · rename_i hk
          exact name_self hk.2
        · rfl
    rw [e]
    exact E.same_self l

theorem nm_mem {l : List E.Pt} {a : ByteArray} : NmTo l a l.length ↔ ∃ y ∈ l, y.kind = 1 ∧ y.name = a := by
  constructor
  · rintro ⟨j, hj, -, h⟩
    exact ⟨l[j], List.getElem_mem hj, h⟩
  · rintro ⟨y, hy, h⟩
    obtain ⟨j, hj, rfl⟩ := List.getElem_of_mem hy
    exact ⟨j, hj, hj, h⟩
theorem quiet_a {l : List E.Pt} {a b : ByteArray} (h : QtTo l a b l.length) : ∀ y ∈ l, y.bind ≠ a ∧ (y.kind = 5 → y.name ≠ a) := fun y hy => by
  obtain ⟨j, hj, rfl⟩ := List.getElem_of_mem hy
  obtain ⟨h1, h2, h3⟩ := h j hj hj
  exact ⟨h1, fun h => (h3 h).1⟩
theorem quiet_b {l : List E.Pt} {a b : ByteArray} (h : QtTo l a b l.length) : ∀ y ∈ l.map (ren a b), y.bind ≠ b ∧ (y.kind = 5 → y.name ≠ b) := fun y hy => by
  obtain ⟨z, hz, rfl⟩ := List.mem_map.1 hy
  obtain ⟨j, hj, rfl⟩ := List.getElem_of_mem hz
  obtain ⟨h1, h2, h3⟩ := h j hj hj
  by_cases hk : l[j].kind = 1 ∧ l[j].name = a
  · rw [ren_yes hk]
    exact ⟨h2, fun h5 => absurd (hk.1.symm.trans h5) (by decide)⟩
  · rw [ren_no hk]
    exact ⟨h2, fun h => (h3 h).2⟩
theorem named_b {l : List E.Pt} {a b : ByteArray} (h : NmTo l a l.length) : ∃ y ∈ l.map (ren a b), y.kind = 1 ∧ y.name = b := by
  obtain ⟨y, hy, h1, h2⟩ := nm_mem.1 h
  refine ⟨ren a b y, List.mem_map_of_mem hy, ?_⟩
  rw [ren_yes ⟨h1, h2⟩]
  exact ⟨h1, rfl⟩

theorem any_iff (l : List ByteArray) (a : ByteArray) : (l.any fun s => decide (s = a)) = true ↔ a ∈ l := by
  rw [List.any_eq_true]
  constructor
  · rintro ⟨s, hs, h⟩
    rw [← of_decide_eq_true h]; exact hs
  · intro h
    exact ⟨a, h, by simp⟩

theorem OwnP.form' {B g n cap : Nat} {ys : List (E.Pt × Value × Value)} {w : World} (h : OwnP B (.slice (some ⟨g, 0, none⟩) n cap) ys w) (hn : ys ≠ []) : True ∧ True ∧ True ∧ True ∧ True ∧ True ∧ True ∧ (∀ j, w.frozen? ⟨g, j, none⟩ = false) ∧ ∀ j, j < ys.length * 8 → w.cell? ⟨g, j, none⟩ = (cellsP ys)[j]? := by
  obtain ⟨g', c', hv, -, -, -, -, h1, h2⟩ := h.form hn
  simp only [Value.slice.injEq, Option.some.injEq, Addr.mk.injEq, and_true] at hv
  obtain ⟨rfl, -⟩ := hv
  exact ⟨trivial, trivial, trivial, trivial, trivial, trivial, trivial, h1, h2⟩

set_option maxHeartbeats 8000000 in
set_option maxRecDepth 100000 in
theorem astNames_true {W : World} (va : Value) (la : List E.Pt) (ha : RdP W W.heap.size va la) (_ : ∀ y ∈ la, NumP y) (a : ByteArray) {p0 : Prop} (_ : p0) (b : ByteArray) {p1 : Prop} (_ : p1) (hT : Tab W) (hK : KTab W) (hM : MCell W) :
    Calls Tryz.prog 9 #[va, .string a, .string b] W fun e w' => e = .returned (.bool true) ∧ Below W.heap.size W w' := by
  have FA := hid (rfew_any la 100 (by decide) va W ha)
  have AL := hid (fun (W' : World) (hW : Below W.heap.size W W') => aalive_any W' (hT.grows hW) (hK.grows hW) (hM.grows hW))
  have HA := hid ha
  have HK := hid hK
  have HM := hid hM
  have h2W := hM.choose_spec.2
  obtain ⟨Aa, ca, hva, hl1, hl2, -⟩ := ha
  unfold maxLen at hl2
  clear hT hK hM
  cases hfa : E.fewL la 100 with
  | false =>
    rw [hfa] at FA
    subst hva
    clear hfa
    go_enter Tryz.func9, Tryz.ntmps9
    go_wp2_with fail
    refine (FA.out).mono ?_
    rintro e w1 ⟨rfl, hw1⟩
    have hw2 := hw1.symm
    subst hw2
    clear hw1
    go_wp2_with fail
    refine (AL.out _ (Below.refl _ _)).mono ?_
    rintro e w1 ⟨rfl, h1⟩
    go_wp2
    go_ret
    exact ⟨rfl, h1⟩
  | true =>
    rw [hfa] at FA
    have HSA : Hid (∀ x ∈ la, Small x) := hid fun x hx => E.small_of_few (List.all_eq_true.1 ((Bool.and_eq_true _ _).mp hfa).2 x hx)
    have h100 : la.length ≤ 100 := of_decide_eq_true ((Bool.and_eq_true _ _).mp hfa).1
    have RR := hid (raright_any la HSA.out va W HA.out)
    clear hfa
    cases hra : E.rightL la with
    | false =>
      rw [hra] at RR
      subst hva
      clear hra
      go_enter Tryz.func9, Tryz.ntmps9
      go_wp2_with fail
      refine (FA.out).mono ?_
      rintro e w1 ⟨rfl, hw1⟩
      have hw2 := hw1.symm
      subst hw2
      clear hw1
      go_wp2_with fail
      refine (RR.out).mono ?_
      rintro e w1 ⟨rfl, hr1⟩
      go_wp2_with fail
      refine (AL.out _ hr1).mono ?_
      rintro e w2 ⟨rfl, h1⟩
      go_wp2
      go_ret
      exact ⟨rfl, hr1.trans (h1.mono hr1.size)⟩
    | true =>
      rw [hra] at RR
      by_cases hn : 100 < a.size
      · subst hva
        clear hra
        go_enter Tryz.func9, Tryz.ntmps9
        go_wp2_with fail
        refine (FA.out).mono ?_
        rintro e w1 ⟨rfl, hw1⟩
        have hw2 := hw1.symm
        subst hw2
        clear hw1
        go_wp2_with fail
        refine (RR.out).mono ?_
        rintro e w1 ⟨rfl, hr1⟩
        go_wp2_with fail
        refine (AL.out _ hr1).mono ?_
        rintro e w2 ⟨rfl, h1⟩
        go_wp2
        go_ret
        exact ⟨rfl, hr1.trans (h1.mono hr1.size)⟩
      by_cases hn2 : 100 < b.size
      · subst hva
        clear hra
        go_enter Tryz.func9, Tryz.ntmps9
        go_wp2_with fail
        refine (FA.out).mono ?_
        rintro e w1 ⟨rfl, hw1⟩
        have hw2 := hw1.symm
        subst hw2
        clear hw1
        go_wp2_with fail
        refine (RR.out).mono ?_
        rintro e w1 ⟨rfl, hr1⟩
        go_wp2_with fail
        refine (AL.out _ hr1).mono ?_
        rintro e w2 ⟨rfl, h1⟩
        go_wp2
        go_ret
        exact ⟨rfl, hr1.trans (h1.mono hr1.size)⟩
      obtain ⟨x, ks, hlx, -, -, hok, -⟩ := (E.rightL_iff la).1 hra
      have hmany : ∀ y ∈ la, -1000000 ≤ y.many ∧ y.many ≤ 1000000 := fun y hy => E.many_bound (E.sound_flat (E.Fo.cons x ks .nil) hok y (by rw [hlx] at hy; simpa [E.Fo.flat] using hy))
      obtain ⟨ys, bl, o, cap, hys, hry, hvb, hb, hcap1, hcap2, hcells⟩ := HA.out.pick (by rw [hlx]; simp)
      have HYS := hid hys
      have HRY := hid hry
      have HCE := hid hcells
      unfold maxLen at hcap2
      have HYL : Hid (ys.length = la.length) := hid (by rw [← hys, List.length_map])
      have HLX := hid hlx
      have HMY := hid hmany
      have hla0 : 0 < la.length := by rw [hlx]; simp
      have HFR := hid (fun (W' : World) (hW : Below W.heap.size W W') => afree_any x ks (E.ok_fit _ hok) (by rw [← hlx]; exact hmany) (by have := congrArg List.length hlx; simp at this; omega) va W' (by rw [← hlx]; exact HA.out.below hW) (HK.out.grows hW) (by have := hW.size; omega))
      obtain ⟨ip, hip, hz0, hz1, hz2⟩ := info_parts infoPart
      clear hra hlx hok hmany hys hry hcells hva hl1 hl2
      subst hvb
      go_enter Tryz.func9, Tryz.ntmps9
      go_wp2_with fail
      refine (FA.out).mono ?_
      rintro e w1 ⟨rfl, hw1⟩
      have hw2 := hw1.symm
      subst hw2
      clear hw1
      go_wp2_with fail
      refine (RR.out).mono ?_
      rintro e w1 ⟨rfl, hr1⟩
      have B1 := hid hr1
      have HOW : Hid ((w1.alloc (.cells #[] 39)).ownsRow w1.heap.size 39 8 (.slice (some ⟨w1.heap.size, 0, none⟩) 0 0) 0 []) := hid (OwnP.made w1)
      have B3a := hid (B1.out.alloc B1.out.size (.cells #[] 39))
      have HSRC : Hid (∀ j u, (cellsP ys)[j]? = some u → (w1.alloc (.cells #[] 39)).cell? ((⟨bl, o, none⟩ : Addr).add j) = some u) := hid fun j u hu => by
        have e : ((⟨bl, o, none⟩ : Addr).add j) = ⟨bl, o + j, none⟩ := by simp [Addr.add]
        rw [e, B3a.out.cell (p := ⟨bl, o + j, none⟩) hb]
        exact HCE.out j u hu
      have HONE := hid (cellsP_one HRY.out)
      have HLN : Hid ((cellsP ys).length = la.length * 8) := hid (by rw [cellsP_len, HYL.out])
      clear hr1
      go_wp2_with (at_builtin; refine wpList_append_own _ rfl _ _ 23 rfl w1.heap.size 39 ip (.agg #[.int .i64 0, .string ⟨#[]⟩, .string ⟨#[]⟩, .string ⟨#[]⟩, .int .i64 0, .int .i64 0, .slice none 0 0, .slice none 0 0]) 8 120 Tryz.underlying23 hip hz0 hz1 hz2 rfl (by decide) _ _ _ rfl HOW.out ⟨bl, o, none⟩ la.length cap (cellsP ys) rfl HLN.out HSRC.out HONE.out ?c3 ?c4 ?c5 ?_)
      case c3 => unfold maxLen; omega
      case c4 => omega
      case c5 => simp
      intro v4 w4 hown hgrow _
      have hO4 : OwnP w1.heap.size v4 ys w4 := by
        unfold OwnP
        rw [HYL.out]
        simpa using hown
      obtain ⟨n4, hn4⟩ : ∃ n, n = la.length := ⟨_, rfl⟩
      have hys0 : ys ≠ [] := by rintro rfl; have := HYL.out; simp at this; omega
      obtain ⟨g4, c4, hv4, hg4, hg4l, hc41, hc42, -, -⟩ := hO4.form hys0
      rw [HYL.out, ← hn4] at hv4
      rw [hv4] at hO4
      subst hv4
      have hz1 := B1.out.size
      have B4 := hid (show Below W.heap.size W w4 from B3a.out.grown hgrow (by simp; omega) (fun k' hk' => by
        have h := Option.some.inj (show some w1.heap.size = some k' from hk')
        omega))
      have HG4 : Hid (W.heap.size ≤ g4) := hid (by omega)
      have HN4 := hid hn4
      have O4 := hid hO4
      rw [HYL.out, ← hn4] at hc41
      unfold maxLen at hc42
      have hn4l : n4 ≤ 100 := by omega
      clear hn4 hO4 hgrow hown hg4 hz1 hys0
      go_wp2
      go_loopw [8, 9] (fun v8 v9 wr => ∃ (i m : Nat) (zs : List (E.Pt × Value × Value)), v8 = .int .i64 m ∧ v9 = .int .i64 i ∧ i ≤ la.length ∧ m ≤ i ∧ Hid (0 < m ↔ NmTo la a i) ∧ Hid (QtTo la a b i) ∧ Hid (Zs a b ys i zs) ∧ Hid (OwnP w1.heap.size (.slice (some ⟨g4, 0, none⟩) n4 c4) zs wr) ∧ Hid (Below W.heap.size W wr)) (fun _ v9 _ => la.length - (intOf v9).toNat)
      case atStart => exact ⟨0, 0, ys, rfl, rfl, by omega, by omega, hid ⟨fun h => absurd h (by omega), fun ⟨_, _, h, _⟩ => absurd h (by omega)⟩, hid (fun _ _ h => absurd h (by omega)), hid (Zs.zero a b ys), O4, B4⟩
      case round =>
        obtain ⟨i, m, zs, rfl, rfl, hi, hm, NM, QT, ZS, OW, BW⟩ := hrel
        by_cases hlt : i < la.length
        · obtain ⟨b', o', vt, vu, hA, hb', x0, x1, x2, x3, x4, x5, x6, x7, -, -⟩ := HA.out.at BW.out hlt
          simp only [Option.some.injEq, Addr.mk.injEq, and_true] at hA
          obtain ⟨rfl, rfl⟩ := hA
          have hYI : ys[i]'(by have := HYL.out; omega) = ys[i]'(by have := HYL.out; omega) := rfl
          have hil : (i : Int) < (la.length : Int) := by omega
          have hYI : (ys[i]'(by have := HYL.out; omega)).1 = la[i] := by
            have e := congrArg (fun l : List E.Pt => l[i]?) HYS.out
            simp only [List.getElem?_map] at e
            rw [List.getElem?_eq_getElem (by have := HYL.out; omega), List.getElem?_eq_getElem hlt] at e
            simpa using e
          obtain ⟨P, hPe⟩ : ∃ P, la[i] = P := ⟨_, rfl⟩
          rw [hPe] at x0 x1 x2 x3 x4 x5
          obtain ⟨k1, s1, s2, s3, n1, n2, t1, t2⟩ := P
          simp only at x0 x1 x2 x3 x4 x5
          have hse := eqS s3 a
          have hse2 := eqS s3 b
          have hse3 := eqS s2 a
          have hse4 := eqS s2 b
          clear x1 x4 x5 x6 x7
          by_cases hba : s3 = a
          · rw [decide_eq_true hba] at hse
            clear hba hse2 hse3 hse4 hYI hPe
            go_wp2_with fail
            refine (AL.out _ BW.out).mono ?_
            rintro e w5 ⟨rfl, h5⟩
            go_wp2
            go_ret
            exact ⟨rfl, BW.out.trans (h5.mono BW.out.size)⟩
          rw [decide_eq_false hba] at hse
          by_cases hbb : s3 = b
          · rw [decide_eq_true hbb] at hse2
            clear hba hbb hse3 hse4 hYI hPe
            go_wp2_with fail
            refine (AL.out _ BW.out).mono ?_
            rintro e w5 ⟨rfl, h5⟩
            go_wp2
            go_ret
            exact ⟨rfl, BW.out.trans (h5.mono BW.out.size)⟩
          rw [decide_eq_false hbb] at hse2
          by_cases hk5 : k1 = 5
          · have k5 : (k1 == 5) = true := by simp [hk5]
            have k1' : (k1 == 1) = false := by simp [hk5]
            by_cases hna : s2 = a
            · rw [decide_eq_true hna] at hse3
              clear hba hbb hna hk5 hse4 hYI hPe
              go_wp2_with fail
              refine (AL.out _ BW.out).mono ?_
              rintro e w5 ⟨rfl, h5⟩
              go_wp2
              go_ret
              exact ⟨rfl, BW.out.trans (h5.mono BW.out.size)⟩
            rw [decide_eq_false hna] at hse3
            by_cases hnb : s2 = b
            · rw [decide_eq_true hnb] at hse4
              clear hba hbb hna hnb hk5 hYI hPe
              go_wp2_with fail
              refine (AL.out _ BW.out).mono ?_
              rintro e w5 ⟨rfl, h5⟩
              go_wp2
              go_ret
              exact ⟨rfl, BW.out.trans (h5.mono BW.out.size)⟩
            rw [decide_eq_false hnb] at hse4
            have hQ : Qt a b ⟨k1, s1, s2, s3, n1, n2, t1, t2⟩ := ⟨hba, hbb, fun _ => ⟨hna, hnb⟩⟩
            have NM2 : Hid (0 < m ↔ NmTo la a (i + 1)) := hid (by rw [NmTo.iff hlt, hPe, NM.out]; exact ⟨Or.inl, fun h => h.resolve_right (by rintro ⟨z1, z2⟩; exact hna z2)⟩)
            have ZS2 : Hid (Zs a b ys (i + 1) zs) := hid (ZS.out.keep (by have := HYL.out; omega) (by unfold renY; rw [hYI, ren_no (by rw [hPe]; rintro ⟨z1, z2⟩; exact hna z2), ← hYI]))
            have QT2 : Hid (QtTo la a b (i + 1)) := hid (QT.out.step hlt (by rw [hPe]; exact hQ))
            clear hba hbb hna hnb hk5 hQ hPe hYI
            go_wp2
            go_roundw
            case rel => first | exact ⟨i + 1, m, zs, by go_num, by go_num, by omega, by omega, NM2, QT2, ZS2, OW, BW⟩ | ((repeat apply Exists.intro); exact ⟨⟨i + 1, m, zs, by go_num, by go_num, by omega, by omega, NM2, QT2, ZS2, OW, BW⟩, rfl⟩)
            case measure => simp [intOf]; omega
          have k5 : (k1 == 5) = false := by simpa using hk5
          have hQ : Qt a b ⟨k1, s1, s2, s3, n1, n2, t1, t2⟩ := ⟨hba, hbb, fun h => absurd h hk5⟩
          by_cases hk1 : k1 = 1
          · have k1' : (k1 == 1) = true := by simpa using hk1
            by_cases hna : s2 = a
            · rw [decide_eq_true hna] at hse3
              have NM2 : Hid (0 < m + 1 ↔ NmTo la a (i + 1)) := hid (by rw [NmTo.iff hlt, hPe]; exact ⟨fun _ => Or.inr ⟨hk1, hna⟩, fun _ => by omega⟩)
              have QT2 : Hid (QtTo la a b (i + 1)) := hid (QT.out.step hlt (by rw [hPe]; exact hQ))
              have hiy : i < ys.length := by have := HYL.out; omega
              have hiz : i < zs.length := by rw [ZS.out.len]; exact hiy
              have hzi := ZS.out.at hiy hiz
              have O2 := OwnP.named OW.out (by rw [ZS.out.len, HYL.out]; exact HN4.out.symm) hiz b
              have ez : (({ zs[i].1 with name := b }, zs[i].2) : E.Pt × Value × Value) = renY a b ys[i] := by
                unfold renY
                rw [hzi, ren_yes (by rw [hYI, hPe]; exact ⟨hk1, hna⟩)]
              rw [ez] at O2
              have Z2 := ZS.out.put hiy
              obtain ⟨z2, hz2e⟩ : ∃ z, z = zs.set i (renY a b ys[i]) := ⟨_, rfl⟩
              rw [← hz2e] at O2 Z2
              have OW2 := hid O2
              have ZS2 := hid Z2
              obtain ⟨-, -, -, -, -, -, -, fz4, cc4⟩ := OwnP.form' OW.out (by intro h; rw [h] at hiz; simp at hiz)
              have f2 := fz4 (i * 8 + 2)
              have c2 : wr.cell? ⟨g4, i * 8 + 2, none⟩ = some (.string (zs[i].1).name) := by
                rw [cc4 _ (by omega), cellsP_at zs i hiz 2 (by omega)]; rfl
              have BW2 := hid (BW.out.setCell (p := ⟨g4, i * 8 + 2, none⟩) (by show W.heap.size ≤ g4; exact HG4.out) (.string b))
              generalize (zs[i].1).name = znm at c2
              have hin : (i : Int) < (n4 : Int) := by have := HN4.out; omega
              clear hba hbb hk5 hk1 hna hse4 hQ hPe hYI O2 Z2 hz2e ez hzi fz4 cc4
              go_wp2
              go_roundw
              case rel => first | exact ⟨i + 1, m + 1, z2, by go_num, by go_num, by omega, by omega, NM2, QT2, ZS2, OW2, BW2⟩ | ((repeat apply Exists.intro); exact ⟨⟨i + 1, m + 1, z2, by go_num, by go_num, by omega, by omega, NM2, QT2, ZS2, OW2, BW2⟩, rfl⟩)
              case measure => simp [intOf]; omega
            rw [decide_eq_false hna] at hse3
            have NM2 : Hid (0 < m ↔ NmTo la a (i + 1)) := hid (by rw [NmTo.iff hlt, hPe, NM.out]; exact ⟨Or.inl, fun h => h.resolve_right (by rintro ⟨z1, z2⟩; exact hna z2)⟩)
            have ZS2 : Hid (Zs a b ys (i + 1) zs) := hid (ZS.out.keep (by have := HYL.out; omega) (by unfold renY; rw [hYI, ren_no (by rw [hPe]; rintro ⟨z1, z2⟩; exact hna z2), ← hYI]))
            have QT2 : Hid (QtTo la a b (i + 1)) := hid (QT.out.step hlt (by rw [hPe]; exact hQ))
            clear hba hbb hna hk1 hk5 hse4 hQ hPe hYI
            go_wp2
            go_roundw
            case rel => first | exact ⟨i + 1, m, zs, by go_num, by go_num, by omega, by omega, NM2, QT2, ZS2, OW, BW⟩ | ((repeat apply Exists.intro); exact ⟨⟨i + 1, m, zs, by go_num, by go_num, by omega, by omega, NM2, QT2, ZS2, OW, BW⟩, rfl⟩)
            case measure => simp [intOf]; omega
          have k1' : (k1 == 1) = false := by simpa using hk1
          have NM2 : Hid (0 < m ↔ NmTo la a (i + 1)) := hid (by rw [NmTo.iff hlt, hPe, NM.out]; exact ⟨Or.inl, fun h => h.resolve_right (by rintro ⟨z1, z2⟩; exact hk1 z1)⟩)
          have ZS2 : Hid (Zs a b ys (i + 1) zs) := hid (ZS.out.keep (by have := HYL.out; omega) (by unfold renY; rw [hYI, ren_no (by rw [hPe]; rintro ⟨z1, z2⟩; exact hk1 z1), ← hYI]))
          have QT2 : Hid (QtTo la a b (i + 1)) := hid (QT.out.step hlt (by rw [hPe]; exact hQ))
          clear hba hbb hk1 hk5 hse3 hse4 hQ hPe hYI
          go_wp2
          go_roundw
          case rel => first | exact ⟨i + 1, m, zs, by go_num, by go_num, by omega, by omega, NM2, QT2, ZS2, OW, BW⟩ | ((repeat apply Exists.intro); exact ⟨⟨i + 1, m, zs, by go_num, by go_num, by omega, by omega, NM2, QT2, ZS2, OW, BW⟩, rfl⟩)
          case measure => simp [intOf]; omega
        -- behind the loop
        · have hil : ¬ (i : Int) < (la.length : Int) := by omega
          have hie : i = la.length := by omega
          obtain ⟨lx, hlxe⟩ : ∃ lx, lx = la.map (ren a b) := ⟨_, rfl⟩
          have hzs : zs = ys.map (renY a b) := ZS.out.all (by have := HYL.out; omega)
          have hzm : zs.map (·.1) = lx := by
            rw [hzs, hlxe, ← HYS.out, List.map_map, List.map_map]
            rfl
          have hz0 : zs ≠ [] := by
            intro h
            have := ZS.out.len
            rw [h, HYL.out] at this
            simp at this
            omega
          have hRX := OwnP.rdp OW.out hz0 (fun y' hy' => by
            rw [hzs] at hy'
            obtain ⟨y, hy, rfl⟩ := List.mem_map.1 hy'
            have h := HRY.out y hy
            have e1 : (renY a b y).1.t = y.1.t := by unfold renY ren; split <;> rfl
            have e2 : (renY a b y).1.u = y.1.u := by unfold renY ren; split <;> rfl
            rw [e1, e2]
            exact ⟨((h.1.low BW.out).mono BW.out.size), ((h.2.low BW.out).mono BW.out.size)⟩)
          rw [hzm] at hRX
          have RX := hid hRX
          have hlxl : lx.length = la.length := by rw [hlxe, List.length_map]
          have HLXL := hid hlxl
          have HSX : Hid (∀ y ∈ lx, Small y) := hid fun y hy => by
            rw [hlxe] at hy
            obtain ⟨z, hz, rfl⟩ := List.mem_map.1 hy
            have h := HSA.out z hz
            unfold ren
            split
            · exact ⟨by show b.size ≤ 2000000; omega, h.2.1, h.2.2.1, h.2.2.2.1, h.2.2.2.2⟩
            · exact h
          rw [hie] at NM QT
          have HRX := hid (raright_any lx HSX.out _ wr RX.out)
          have HLE := hid hlxe
          clear hie hzs hzm hz0 hRX hlxl hlxe
          cases hrx : E.rightL lx with
          | false =>
            rw [hrx] at HRX
            clear hrx
            go_wp2_with fail
            refine (HRX.out).mono ?_
            rintro e w5 ⟨rfl, h5⟩
            have B5 := hid (BW.out.trans (h5.mono BW.out.size))
            clear h5
            go_wp2_with fail
            refine (AL.out _ B5.out).mono ?_
            rintro e w6 ⟨rfl, h6⟩
            go_wp2
            go_ret
            exact ⟨rfl, B5.out.trans (h6.mono B5.out.size)⟩
          | true =>
            rw [hrx] at HRX
            obtain ⟨x', ks', hx', -, -, hok', -⟩ := (E.rightL_iff lx).1 hrx
            have hsnd : ∀ y ∈ lx, E.sound y = true := fun y hy => E.sound_flat (E.Fo.cons x' ks' .nil) hok' y (by rw [hx'] at hy; simpa [E.Fo.flat] using hy)
            have HFX := hid (fun (W' : World) (hW : Below wr.heap.size wr W') => afree_any x' ks' (E.ok_fit _ hok') (by rw [← hx']; exact fun y hy => E.many_bound (hsnd y hy)) (by have := congrArg List.length hx'; have h2 := HLXL.out; simp at this; omega) _ W' (by rw [← hx']; exact RX.out.below hW) ((HK.out.grows BW.out).grows hW) (by have := hW.size; have := BW.out.size; omega))
            have HFP := hid (afew_of (l := lx) (by have := HLXL.out; omega) (List.all_eq_true.2 hsnd))
            have HEX : Hid (0 + E.eat 1 (lx.drop 0) = la.length) := hid (by
              have h := E.eat_tree (E.ok_fit _ hok') []
              rw [List.append_nil] at h
              rw [List.drop_zero, hx', h, ← HLXL.out, hx']
              simp)
            have FLA : Hid (0 < m ↔ a ∈ freeS (E.freeT x ks [])) := hid (by rw [free_just HLX.out (quiet_a QT.out), NM.out, nm_mem])
            have FLB : Hid (0 < m → b ∈ freeS (E.freeT x' ks' [])) := hid (fun h => by
              rw [free_just hx' (by rw [HLE.out]; exact quiet_b QT.out), HLE.out]
              exact named_b (NM.out.1 h))
            have hLl := free_len x ks
            have hMl := free_len x' ks'
            have e1 := congrArg List.length HLX.out
            have e2 := congrArg List.length hx'
            have e3 := HLXL.out
            simp only [List.length_cons] at e1 e2
            obtain ⟨LS, hLS⟩ : ∃ LS, LS = freeS (E.freeT x ks []) := ⟨_, rfl⟩
            obtain ⟨MS, hMS⟩ : ∃ MS, MS = freeS (E.freeT x' ks' []) := ⟨_, rfl⟩
            rw [← hLS] at hLl FLA HFR
            rw [← hMS] at hMl FLB HFX
            have hLl2 : LS.length ≤ 1000 := by omega
            have hMl2 : MS.length ≤ 1000 := by omega
            clear hrx hx' hok' hsnd hLl hMl e1 e2 e3 hLS hMS
            go_wp2_with fail
            refine (HRX.out).mono ?_
            rintro e w5 ⟨rfl, h5⟩
            have B5 := hid (BW.out.trans (h5.mono BW.out.size))
            have BB5 := hid h5
            clear h5
            go_wp2_with fail
            refine (HFR.out _ B5.out).mono ?_
            rintro e w6 ⟨vl, rfl, ol, h6⟩
            have B6 := hid (B5.out.trans (h6.mono B5.out.size))
            have BB6 := hid (BB5.out.trans (h6.mono BB5.out.size))
            have RL6 := hid ol.rd
            obtain ⟨Al, cl, rfl⟩ := ol.val
            clear h6 ol
            go_wp2_with fail
            refine (HFX.out _ BB6.out).mono ?_
            rintro e w7 ⟨vm, rfl, om, h7⟩
            have B7 := hid (B6.out.trans (h7.mono B6.out.size))
            have BB7 := hid (BB6.out.trans (h7.mono BB6.out.size))
            have RL7 := hid (RL6.out.below h7)
            have RM7 := hid om.rd
            obtain ⟨Am, cm, rfl⟩ := om.val
            clear h7 om
            go_wp2
            go_loopw [12, 14] (fun vb vi wq => ∃ (i : Nat) (p : Bool), vb = .bool p ∧ vi = .int .i64 i ∧ i ≤ LS.length ∧ Hid ((p || (LS.drop i).any fun s => decide (s = a)) = LS.any fun s => decide (s = a)) ∧ Hid (Below w7.heap.size w7 wq)) (fun _ vi _ => LS.length - (intOf vi).toNat)
            case atStart => exact ⟨0, false, rfl, rfl, by omega, hid (by rw [List.drop_zero, Bool.false_or]), hid (Below.refl _ _)⟩
            case round =>
              obtain ⟨i, p, rfl, rfl, hi, hD, BR⟩ := hrel
              by_cases hlt : i < LS.length
              · have hil : (i : Int) < (LS.length : Int) := by omega
                have hst : Hid ((p || (decide (LS[i] = a) || (LS.drop (i + 1)).any fun s => decide (s = a))) = LS.any fun s => decide (s = a)) := hid (by rw [← hD.out, List.drop_eq_getElem_cons hlt, List.any_cons])
                have RLr := hid (RL7.out.below BR.out)
                obtain ⟨A', c', hv', hcl⟩ := RLr.out
                simp only [Value.slice.injEq, true_and] at hv'
                obtain ⟨rfl, rfl⟩ := hv'
                obtain ⟨bl', ol', rfl, hbl, hcl⟩ := hcl (by rintro rfl; simp at hlt)
                have cl1 := hcl i hlt
                have hse := eqS LS[i] a
                obtain ⟨s, hs⟩ : ∃ s, s = LS[i] := ⟨_, rfl⟩
                rw [← hs] at cl1 hse hst
                clear hcl hD hs
                cases p with
                | true =>
                  have HD2 : Hid ((true || (LS.drop (i + 1)).any fun s => decide (s = a)) = LS.any fun s => decide (s = a)) := hid (by rw [← hst.out, Bool.true_or, Bool.true_or])
                  clear hse hst
                  go_wp2
                  go_roundw
                  case rel => first | exact ⟨i + 1, true, by go_num, by go_num, by omega, HD2, BR⟩ | ((repeat apply Exists.intro); exact ⟨⟨i + 1, true, by go_num, by go_num, by omega, HD2, BR⟩, rfl⟩)
                  case measure => simp [intOf]; omega
                | false =>
                  by_cases hsa : s = a
                  · have HD2 : Hid ((true || (LS.drop (i + 1)).any fun s => decide (s = a)) = LS.any fun s => decide (s = a)) := hid (by rw [← hst.out, decide_eq_true hsa, Bool.false_or])
                    rw [decide_eq_true hsa] at hse
                    clear hst hsa
                    go_wp2
                    go_roundw
                    case rel => first | exact ⟨i + 1, true, by go_num, by go_num, by omega, HD2, BR⟩ | ((repeat apply Exists.intro); exact ⟨⟨i + 1, true, by go_num, by go_num, by omega, HD2, BR⟩, rfl⟩)
                    case measure => simp [intOf]; omega
                  · have HD2 : Hid ((false || (LS.drop (i + 1)).any fun s => decide (s = a)) = LS.any fun s => decide (s = a)) := hid (by rw [← hst.out, decide_eq_false hsa, Bool.false_or, Bool.false_or])
                    rw [decide_eq_false hsa] at hse
                    clear hst hsa
                    go_wp2
                    go_roundw
                    case rel => first | exact ⟨i + 1, false, by go_num, by go_num, by omega, HD2, BR⟩ | ((repeat apply Exists.intro); exact ⟨⟨i + 1, false, by go_num, by go_num, by omega, HD2, BR⟩, rfl⟩)
                    case measure => simp [intOf]; omega
              · have hil : ¬ (i : Int) < (LS.length : Int) := by omega
                have HP : Hid (p = LS.any fun s => decide (s = a)) := hid (by have h := hD.out; rw [List.drop_eq_nil_of_le (by omega), List.any_nil, Bool.or_false] at h; exact h)
                have BU2 := hid (B7.out.trans (BR.out.mono B7.out.size))
                have BUX2 := hid (BB7.out.trans (BR.out.mono BB7.out.size))
                have RM8 := hid (RM7.out.below BR.out)
                clear hD
                go_wp2
                go_loopw [13, 15] (fun vb vi wz => ∃ (i : Nat) (p : Bool), vb = .bool p ∧ vi = .int .i64 i ∧ i ≤ MS.length ∧ Hid ((p || (MS.drop i).any fun s => decide (s = b)) = MS.any fun s => decide (s = b)) ∧ Hid (Below wr.heap.size wr wz)) (fun _ vi _ => MS.length - (intOf vi).toNat)
                case atStart => exact ⟨0, false, rfl, rfl, by omega, hid (by rw [List.drop_zero, Bool.false_or]), hid (Below.refl _ _)⟩
                case round =>
                  obtain ⟨i3, q, rfl, rfl, hi3, hD, BR⟩ := hrel
                  by_cases hlt3 : i3 < MS.length
                  · have hil3 : (i3 : Int) < (MS.length : Int) := by omega
                    have hst : Hid ((q || (decide (MS[i3] = b) || (MS.drop (i3 + 1)).any fun s => decide (s = b))) = MS.any fun s => decide (s = b)) := hid (by rw [← hD.out, List.drop_eq_getElem_cons hlt3, List.any_cons])
                    have RLr := hid (RM8.out.below BR.out)
                    obtain ⟨A', c', hv', hcl⟩ := RLr.out
                    simp only [Value.slice.injEq, true_and] at hv'
                    obtain ⟨rfl, rfl⟩ := hv'
                    obtain ⟨bl', ol', rfl, hbl, hcl⟩ := hcl (by rintro rfl; simp at hlt3)
                    have cl1 := hcl i3 hlt3
                    have hse := eqS MS[i3] b
                    obtain ⟨s, hs⟩ : ∃ s, s = MS[i3] := ⟨_, rfl⟩
                    rw [← hs] at cl1 hse hst
                    clear hcl hD hs
                    cases q with
                    | true =>
                      have HD2 : Hid ((true || (MS.drop (i3 + 1)).any fun s => decide (s = b)) = MS.any fun s => decide (s = b)) := hid (by rw [← hst.out, Bool.true_or, Bool.true_or])
                      clear hse hst
                      go_wp2
                      go_roundw
                      case rel => first | exact ⟨i3 + 1, true, by go_num, by go_num, by omega, HD2, BR⟩ | ((repeat apply Exists.intro); exact ⟨⟨i3 + 1, true, by go_num, by go_num, by omega, HD2, BR⟩, rfl⟩)
                      case measure => simp [intOf]; omega
                    | false =>
                      by_cases hsa : s = b
                      · have HD2 : Hid ((true || (MS.drop (i3 + 1)).any fun s => decide (s = b)) = MS.any fun s => decide (s = b)) := hid (by rw [← hst.out, decide_eq_true hsa, Bool.false_or])
                        rw [decide_eq_true hsa] at hse
                        clear hst hsa
                        go_wp2
                        go_roundw
                        case rel => first | exact ⟨i3 + 1, true, by go_num, by go_num, by omega, HD2, BR⟩ | ((repeat apply Exists.intro); exact ⟨⟨i3 + 1, true, by go_num, by go_num, by omega, HD2, BR⟩, rfl⟩)
                        case measure => simp [intOf]; omega
                      · have HD2 : Hid ((false || (MS.drop (i3 + 1)).any fun s => decide (s = b)) = MS.any fun s => decide (s = b)) := hid (by rw [← hst.out, decide_eq_false hsa, Bool.false_or, Bool.false_or])
                        rw [decide_eq_false hsa] at hse
                        clear hst hsa
                        go_wp2
                        go_roundw
                        case rel => first | exact ⟨i3 + 1, false, by go_num, by go_num, by omega, HD2, BR⟩ | ((repeat apply Exists.intro); exact ⟨⟨i3 + 1, false, by go_num, by go_num, by omega, HD2, BR⟩, rfl⟩)
                        case measure => simp [intOf]; omega
                  · have hil3 : ¬ (i3 : Int) < (MS.length : Int) := by omega
                    have hq : q = MS.any fun s => decide (s = b) := by have h := hD.out; rw [List.drop_eq_nil_of_le (by omega), List.any_nil, Bool.or_false] at h; exact h
                    have BU := hid (BU2.out.trans (BR.out.mono BU2.out.size))
                    have BUX := hid (BUX2.out.trans (BR.out.mono BUX2.out.size))
                    have hp2 := HP.out
                    clear hD
                    by_cases hm0 : 0 < m
                    · have hpt : p = true := by rw [hp2, any_iff]; exact FLA.out.1 hm0
                      have hqt : q = true := by rw [hq, any_iff]; exact FLB.out hm0
                      subst hpt
                      subst hqt
                      have hmI : (0 : Int) < (m : Int) := by omega
                      have hmz : ((m : Int) == 0) = false := by simp; omega
                      have hse := eqS a b
                      by_cases hab : a = b
                      · rw [decide_eq_true hab] at hse
                        have HSE : Hid (E.sameE la lx = true) := hid (by rw [HLE.out]; exact same_ren.2 (Or.inr hab))
                        clear hab hm0 hq hp2
                        go_wp2_with fail
                        refine (AL.out _ BU.out).mono ?_
                        rintro e w9 ⟨rfl, h9⟩
                        have B9 := hid (BU.out.trans (h9.mono BU.out.size))
                        have BX9 := hid (BUX.out.trans (h9.mono BUX.out.size))
                        have HS := hid (asame_any la lx _ _ _ (HA.out.below B9.out) (RX.out.below BX9.out))
                        rw [HSE.out] at HS
                        clear h9
                        go_wp2_with fail
                        refine (HS.out).mono ?_
                        rintro e w10 ⟨rfl, h10⟩
                        have B10 := hid (B9.out.trans (h10.mono B9.out.size))
                        have BX10 := hid (BX9.out.trans (h10.mono BX9.out.size))
                        have HE := hid (aend_any lx HFP.out _ 0 (by have := HLXL.out; omega) _ (RX.out.below BX10.out) (HK.out.grows B10.out))
                        rw [HEX.out] at HE
                        clear h10
                        go_wp2_with fail
                        refine (HE.out).mono ?_
                        rintro e w11 ⟨rfl, h11⟩
                        go_wp2
                        go_ret
                        exact ⟨ret_bool (by simp), B10.out.trans (h11.mono B10.out.size)⟩
                      · rw [decide_eq_false hab] at hse
                        have HSE : Hid (E.sameE la lx = false) := hid (by
                          rw [Bool.eq_false_iff, ne_eq, HLE.out, same_ren]
                          rintro (h | h)
                          · exact h (NM.out.1 hm0)
                          · exact hab h)
                        clear hab hm0 hq hp2
                        go_wp2_with fail
                        refine (AL.out _ BU.out).mono ?_
                        rintro e w9 ⟨rfl, h9⟩
                        have B9 := hid (BU.out.trans (h9.mono BU.out.size))
                        have BX9 := hid (BUX.out.trans (h9.mono BUX.out.size))
                        have HS := hid (asame_any la lx _ _ _ (HA.out.below B9.out) (RX.out.below BX9.out))
                        rw [HSE.out] at HS
                        clear h9
                        go_wp2_with fail
                        refine (HS.out).mono ?_
                        rintro e w10 ⟨rfl, h10⟩
                        have B10 := hid (B9.out.trans (h10.mono B9.out.size))
                        have BX10 := hid (BX9.out.trans (h10.mono BX9.out.size))
                        have HE := hid (aend_any lx HFP.out _ 0 (by have := HLXL.out; omega) _ (RX.out.below BX10.out) (HK.out.grows B10.out))
                        rw [HEX.out] at HE
                        clear h10
                        go_wp2_with fail
                        refine (HE.out).mono ?_
                        rintro e w11 ⟨rfl, h11⟩
                        go_wp2
                        go_ret
                        exact ⟨ret_bool (by simp), B10.out.trans (h11.mono B10.out.size)⟩
                    · have hpf : p = false := by rw [hp2, Bool.eq_false_iff, ne_eq, any_iff]; exact fun h => hm0 (FLA.out.2 h)
                      subst hpf
                      have hmI : ¬ (0 : Int) < (m : Int) := by omega
                      have hmz : ((m : Int) == 0) = true := by simp; omega
                      have HSE : Hid (E.sameE la lx = true) := hid (by rw [HLE.out]; exact same_ren.2 (Or.inl (fun h => hm0 (NM.out.2 h))))
                      clear hm0 hq hp2
                      go_wp2_with fail
                      refine (AL.out _ BU.out).mono ?_
                      rintro e w9 ⟨rfl, h9⟩
                      have B9 := hid (BU.out.trans (h9.mono BU.out.size))
                      have BX9 := hid (BUX.out.trans (h9.mono BUX.out.size))
                      have HS := hid (asame_any la lx _ _ _ (HA.out.below B9.out) (RX.out.below BX9.out))
                      rw [HSE.out] at HS
                      clear h9
                      go_wp2_with fail
                      refine (HS.out).mono ?_
                      rintro e w10 ⟨rfl, h10⟩
                      have B10 := hid (B9.out.trans (h10.mono B9.out.size))
                      have BX10 := hid (BX9.out.trans (h10.mono BX9.out.size))
                      have HE := hid (aend_any lx HFP.out _ 0 (by have := HLXL.out; omega) _ (RX.out.below BX10.out) (HK.out.grows B10.out))
                      rw [HEX.out] at HE
                      clear h10
                      go_wp2_with fail
                      refine (HE.out).mono ?_
                      rintro e w11 ⟨rfl, h11⟩
                      go_wp2
                      go_ret
                      exact ⟨ret_bool (by simp), B10.out.trans (h11.mono B10.out.size)⟩

set_option maxRecDepth 100000 in
theorem astNames_lifted (os : Os) (started : os.Started) (H : Type) (enc : TypeId × Value → H) :
    ReturnsInHanded {} Tryz.checked os 9 .any (fun w args => (Rows.astNamesSpec.pre enc Tryz.prog Tryz.f9 [] false w args ∧ laidMetH Tryz.prog laidAll w) ∧ sizedMet enc Tryz.prog Tryz.f9 (OpenSpec.ofChange Rows.astNamesSpec) false w args)
      (Rows.astNamesSpec.post enc Tryz.prog Tryz.f9 false true false false) := by
  refine wrap_shaped (C := Tryz.checked) (X := fun w _ => laidMetH Tryz.prog laidAll w) (fun _ _ _ hh h => h.of_heap hh) own started (by kernel_rfl) Tryz.func9
    (ChangeSpec.witness_shaped (enc := enc) (C := Tryz.checked) (os := os) (X := fun w _ => laidMetH Tryz.prog laidAll w) false (World.doorLaid Tryz.prog 400 os) #[.slice none 0 0, .string ⟨#[]⟩, .string ⟨#[]⟩] 8 rfl (World.shaped_of_RefB (by kernel_rfl) (by kernel_rfl)) (by kernel_rfl) (by kernel_rfl) (by kernel_rfl) (door_met os _)) ?_
  intro W base args ds gs before hval0 hW hSh hL
  obtain ⟨hT, hK⟩ := tabs_of_laid hL
  have hM := mcell_of_shaped hSh (by have := hT.size; omega)
  have hlts := hW.lt
  have hval : ∀ (j : Nat) t v, Tryz.f9.params[j]? = some t → args[j]? = some v → Value.okWide Tryz.prog W .any base t v := hval0
  have hW' := hW
  obtain ⟨p, q, hA0, hV, rfl, hfz, hnd⟩ := hW
  have hA : DataW.TrodAll enc Tryz.prog W 0 (fun _ => true) true Tryz.f9.params.toList args.toList ds p := hA0
  rw [Tryz.params9] at hA hval
  obtain ⟨v0, vs0, d0, ds0, p0, q0, hargs, rfl, rfl, h0, r0⟩ := trodAll_cons hA
  obtain ⟨v1, vs1, d1, ds1, p1, q1, hargs1, rfl, rfl, h1, r1⟩ := trodAll_cons r0
  obtain ⟨v2, vs2, d2, ds2, p2, q2, hargs2, rfl, rfl, h2, r2⟩ := trodAll_cons r1
  obtain ⟨hn, rfl, rfl⟩ := trodAll_nil r2
  obtain rfl : args = #[v0, v1, v2] := by cases args; simp_all
  obtain ⟨rfl, rfl⟩ := trodVars_none hV
  obtain ⟨sa0, sl0, sc0, hsv0⟩ := okWide_slice Tryz.underlying23 (hval 0 23 v0 rfl rfl)
  obtain ⟨a1, rfl, rfl, rfl, w1⟩ := open_string Tryz.underlying9 (hval 1 9 v1 rfl rfl) h1
  obtain ⟨a2, rfl, rfl, rfl, w2⟩ := open_string Tryz.underlying9 (hval 2 9 v2 rfl rfl) h2
  obtain ⟨fuel0, hf0⟩ := h0
  obtain ⟨u0, l0, hu0, hR0, hn0⟩ := rdp_of_trod hf0
  obtain rfl : v0 = u0 := by
    rw [hsv0] at hu0
    rw [hsv0]
    simpa [Value.cells] using hu0
  clear hA0 hval0
  simp only [List.append_nil] at hW' hlts
  refine (astNames_true v0 l0 hR0 hn0 a1 w1 a2 w2 hT hK hM).mono fun e W' ⟨he, hB⟩ => ?_
  subst he
  refine ⟨_, rfl, _, _, _, [], (p0 ++ ([] ++ ([] ++ []))), [], by simpa using hW', ?_, ?_, ?_, hB.frame _, fun h => by cases h⟩
  · exact trodAll_cons_mk (shut_bool Tryz.underlying4 _) trodAll_mk0
  · exact (trodAll_cons_mk (Below.trod (by kernel_rfl) (by kernel_rfl) (of_decide_eq_true (by kernel_rfl)) ⟨fuel0, hf0⟩ hB (fun x hx => hlts x (by simp [hx]))) (trodAll_cons_mk (shut_string Tryz.underlying9 w1) (trodAll_cons_mk (shut_string Tryz.underlying9 w2) trodAll_mk0)))
  · rfl

/-- AstNames: the row. -/
theorem astNames_holds : Rows.AstNamesSaid :=
  OpenClaim.holds_of_wide 9 Tryz.f9 rfl rfl rfl rfl rfl rfl rfl ⟨rfl, rfl, rfl, rfl, rfl⟩ rfl rfl rfl rfl rfl (by kernel_rfl) Tryz.func9 (by kernel_rfl)
    (of_decide_eq_true (by kernel_rfl)) (by unfold Func.isWrapper; first | (rw [if_pos (by decide +kernel)]; kernel_rfl) | (rw [if_neg (by decide +kernel)]; exact ⟨rfl, rfl⟩))
    (fun os started H enc _ => astNames_lifted os started H enc)

/-- AstNames: the given statement, the card: the four tables are tied to the program's text. -/
theorem astNames_card : Rows.AstNamesCardSaid :=
  Claim7.holds_tied_plain_at .later [] [.data, .data, .data, .data] true Rows.astNamesCard.stood.harness false
    astNames_holds (fun _ h => by cases h) (by kernel_rfl) (fun _ h => by cases h) astNames_row_tie rfl ⟨rfl, rfl⟩ (by kernel_rfl) rfl
    (fun f fn hf hfn => by
      obtain rfl : f = 9 := Option.some.inj ((show Tryz.prog.funcNamed "leaven/leavenlaw05.AstNames" = some 9 by kernel_rfl).symm.trans hf) |>.symm
      obtain rfl : fn = Tryz.f9 := (Option.some.inj (Tryz.func9.symm.trans hfn)).symm
      exact ⟨by kernel_rfl, fun j t ht => by
        rw [Tryz.params9] at ht
        have hm : t ∈ [23, 9, 9] := by simpa using Array.mem_of_getElem? ht
        have hall : ([23, 9, 9].all fun u => !Tryz.prog.wantsStandIn u) = true := by kernel_rfl
        exact (show Tryz.prog.wantsStandIn t = false by simpa using List.all_eq_true.1 hall t hm)⟩)
    (by kernel_rfl)

end Go.Proofs.YtddabgiphdkjnaaGreatDoor.astNames
