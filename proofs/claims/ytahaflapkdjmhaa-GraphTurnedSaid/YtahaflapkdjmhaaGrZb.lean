/-
  Modules that are told the other way round come in the same order. No program.
-/
import Derived.Test.YtahaflapkdjmhaaGrZa
namespace Go.Proofs.Ytahaflapkdjmhaa.Gr

/-- The nodes of one graph are those of another one, told otherwise. -/
structure Iso (n : Nat) (nx nx' : Nat → List Nat) (σ : Nat → Nat) : Prop where
  lt : ∀ x, x < n → σ x < n
  inv : ∀ x, x < n → σ (σ x) = x
  bd : ∀ x, x < n → ∀ y ∈ nx x, y < n
  bd' : ∀ x, x < n → ∀ y ∈ nx' x, y < n
  to : ∀ x, x < n → ∀ y ∈ nx x, σ y ∈ nx' (σ x)
  fro : ∀ x, x < n → ∀ y ∈ nx' x, σ y ∈ nx (σ x)

section
variable {n : Nat} {nx nx' : Nat → List Nat} {σ : Nat → Nat}
theorem Iso.symm (h : Iso n nx nx' σ) : Iso n nx' nx σ := ⟨h.lt, h.inv, h.bd', h.bd, h.fro, h.to⟩
theorem Iso.rch (h : Iso n nx nx' σ) {x y : Nat} (hr : Rch nx x y) : x < n → Rch nx' (σ x) (σ y) := by
  induction hr with
  | refl => exact fun _ => .refl _
  | step h1 _ ih => exact fun hx => .step (h.to _ hx _ h1) (ih (h.bd _ hx _ h1))
theorem Iso.cyc (h : Iso n nx nx' σ) {x : Nat} (hx : x < n) : Cyc nx x → Cyc nx' (σ x) := by
  rintro ⟨k, hk, hr⟩
  exact ⟨σ k, h.to _ hx _ hk, h.rch hr (h.bd _ hx _ hk)⟩
theorem Iso.may (h : Iso n nx nx' σ) {out : List Nat} (ho : ∀ i ∈ out, i < n) {x : Nat} (hx : x < n) : May nx out x → May nx' (out.map σ) (σ x) := by
  rintro ⟨h1, h2⟩
  refine ⟨fun hm => ?_, fun k hk => ?_⟩
  · obtain ⟨a, ha, e⟩ := List.mem_map.1 hm
    have : a = x := by rw [← h.inv a (ho a ha), e, h.inv x hx]
    exact h1 (this ▸ ha)
  · have h3 := h.fro _ (h.lt x hx) k hk
    rw [h.inv x hx] at h3
    exact List.mem_map.2 ⟨σ k, h2 _ h3, h.inv k (h.bd' _ (h.lt x hx) k hk)⟩
theorem map_inv (h : Iso n nx nx' σ) {out : List Nat} (ho : ∀ i ∈ out, i < n) : (out.map σ).map σ = out := by
  rw [List.map_map]
  conv => rhs; rw [← List.map_id out]
  exact List.map_congr_left fun a ha => h.inv a (ho a ha)
theorem Iso.greedy (h : Iso n nx nx' σ) {lt lt' : Nat → Nat → Prop} (hl : ∀ a b, a < n → b < n → lt a b → lt' (σ a) (σ b)) {out : List Nat} (hg : Greedy lt nx n out) : Greedy lt' nx' n (out.map σ) := by
  induction hg with
  | nil => exact .nil
  | @snoc out i g l ih =>
    rw [List.map_append]
    have ho := g.ord.2.2
    have ho' : ∀ i ∈ out.map σ, i < n := fun i hi => by
      obtain ⟨a, ha, rfl⟩ := List.mem_map.1 hi
      exact h.lt a (ho a ha)
    refine .snoc ih ⟨h.lt _ l.lt_, h.may ho l.lt_ l.so, fun j hj hm hne => ?_⟩
    have h1 := h.symm.may ho' hj hm
    rw [map_inv h ho] at h1
    have h2 := l.le (σ j) (h.lt j hj) h1 (fun e => hne (by rw [← e, h.inv j hj]))
    have h3 := hl _ _ l.lt_ (h.lt j hj) h2
    rw [h.inv j hj] at h3
    exact h3
end

/-! ### The other way round -/
def rv (n x : Nat) : Nat := n - 1 - x
theorem again_iff {l : List Md} : againL l < 0 ↔ Unlike l := by
  refine ⟨again_unlike, fun hu => ?_⟩
  refine Int.not_le.1 fun h => ?_
  rcases firstP_cases (againP l) l 0 with ⟨h5, _⟩ | ⟨i, hi, h5, h6, _⟩
  · unfold againL at h; omega
  · simp only [againP, decide_eq_true_eq, Nat.zero_add] at h6
    rcases find_cases l[i].name l 0 with ⟨h7, h8⟩ | ⟨j, hj, h7, h8⟩
    · exact h8 _ (List.getElem_mem hi) rfl
    · refine hu i j hi hj (fun e => ?_) ?_
      · subst e; omega
      · rw [nm_at hi, nm_at hj]; exact h8.symm
theorem lost_iff {l : List Md} : lostL l < 0 ↔ ∀ m ∈ l, ∀ s ∈ m.imps, ∃ m' ∈ l, m'.name = s := by
  constructor
  · intro h m hm s hs
    obtain ⟨i, hi, rfl⟩ := List.mem_iff_getElem.1 hm
    have h1 := lost_all h hi s hs
    rcases find_cases s l 0 with ⟨h2, _⟩ | ⟨j, hj, h2, h3⟩
    · omega
    · exact ⟨_, List.getElem_mem hj, h3⟩
  · intro h
    refine Int.not_le.1 fun h0 => ?_
    rcases firstP_cases (lostP l) l 0 with ⟨h5, _⟩ | ⟨i, hi, h5, h6, _⟩
    · unfold lostL at h0; omega
    · simp only [lostP, List.any_eq_true, decide_eq_true_eq] at h6
      obtain ⟨s, hs, hn⟩ := h6
      obtain ⟨m', hm', e⟩ := h _ (List.getElem_mem hi) s hs
      rcases find_cases s l 0 with ⟨h2, h3⟩ | ⟨j, hj, h2, h3⟩
      · exact h3 _ hm' e
      · omega
theorem nm_rev {l : List Md} {x : Nat} (hx : x < l.length) : nm l.reverse (rv l.length x) = nm l x := by
  have h1 : rv l.length x < l.reverse.length := by rw [List.length_reverse]; unfold rv; omega
  rw [nm_at h1, nm_at hx, List.getElem_reverse]
  congr 2
  unfold rv; omega
theorem unlike_rev {l : List Md} (h : Unlike l) : Unlike l.reverse := by
  intro a b ha hb hne e
  rw [List.length_reverse] at ha hb
  have ha2 : rv l.length a < l.length := by unfold rv; omega
  have hb2 : rv l.length b < l.length := by unfold rv; omega
  have e1 : rv l.length (rv l.length a) = a := by unfold rv; omega
  have e2 : rv l.length (rv l.length b) = b := by unfold rv; omega
  have h1 := nm_rev ha2
  have h2 := nm_rev hb2
  rw [e1] at h1
  rw [e2] at h2
  exact h _ _ ha2 hb2 (fun e => hne (by rw [← e1, e, e2])) (by rw [← h1, e, h2])
theorem again_rev (l : List Md) : againL l.reverse < 0 ↔ againL l < 0 := by
  rw [again_iff, again_iff]
  refine ⟨fun h => ?_, unlike_rev⟩
  have := unlike_rev h
  rwa [List.reverse_reverse] at this
theorem lost_rev (l : List Md) : lostL l.reverse < 0 ↔ lostL l < 0 := by
  rw [lost_iff, lost_iff]
  simp only [List.mem_reverse]
/-- Where names are unlike, a name has one place. -/
theorem atN_iff {l : List Md} (h : Unlike l) {s : ByteArray} {x : Nat} : atN l s = some x ↔ x < l.length ∧ nm l x = s := by
  constructor
  · intro e
    have hx := atN_lt e
    refine ⟨hx, ?_⟩
    unfold atN at e
    split at e
    · injection e with e
      rcases find_cases s l 0 with ⟨h2, _⟩ | ⟨j, hj, h2, h3⟩
      · omega
      · have : j = x := by omega
        subst this
        rw [nm_at hj]; exact h3
    · cases e
  · rintro ⟨hx, rfl⟩
    rcases find_cases (nm l x) l 0 with ⟨h2, h3⟩ | ⟨j, hj, h2, h3⟩
    · exact absurd (nm_at hx).symm (h3 _ (List.getElem_mem hx))
    · have : j = x := Classical.byContradiction fun hne => h j x hj hx hne (by rw [nm_at hj]; exact h3)
      subst this
      unfold atN
      rw [h2, if_pos (by omega)]
      simp
theorem nx_rev {l : List Md} (h : Unlike l) {x y : Nat} (hx : x < l.length) (hy : y ∈ nxL l x) : rv l.length y ∈ nxL l.reverse (rv l.length x) := by
  have hx' : rv l.length x < l.reverse.length := by rw [List.length_reverse]; unfold rv; omega
  rw [nxL_at hx, List.mem_filterMap] at hy
  obtain ⟨s, hs, e⟩ := hy
  obtain ⟨hyl, hn⟩ := (atN_iff h).1 e
  rw [nxL_at hx', List.mem_filterMap]
  refine ⟨s, ?_, (atN_iff (unlike_rev h)).2 ⟨by rw [List.length_reverse]; unfold rv; omega, by rw [nm_rev hyl]; exact hn⟩⟩
  have : l.reverse[rv l.length x] = l[x] := by
    rw [List.getElem_reverse]
    congr 1
    unfold rv; omega
  rw [this]; exact hs
theorem iso_rev {l : List Md} (h : Unlike l) : Iso l.length (nxL l) (nxL l.reverse) (rv l.length) where
  lt := fun x hx => by unfold rv; omega
  inv := fun x hx => by unfold rv; omega
  bd := nxL_lt l
  bd' := fun x hx y hy => by
    have := nxL_lt l.reverse x (by rw [List.length_reverse]; exact hx) y hy
    rwa [List.length_reverse] at this
  to := fun x hx y hy => nx_rev h hx hy
  fro := fun x hx y hy => by
    have := nx_rev (unlike_rev h) (x := x) (y := y) (by rw [List.length_reverse]; exact hx) hy
    rwa [List.length_reverse, List.reverse_reverse] at this
theorem ltP_rev {l : List Md} {a b : Nat} (ha : a < l.length) (hb : b < l.length) (h : ltP l a b) : ltP l.reverse (rv l.length a) (rv l.length b) := by
  unfold ltP nlt at *
  rw [nm_rev ha, nm_rev hb]
  exact h
theorem OrderAns.rev {l : List Md} {a b : List Nat} {x y e f : Int} (h : OrderAns l a x e) (g : OrderAns l.reverse b y f) :
    e = f ∧ a.length = b.length ∧ (∀ (i : Nat) (hi : i < a.length) (hj : i < b.length), a[i] < l.length ∧ b[i] < l.length ∧ nm l a[i] = nm l.reverse b[i]) ∧ (e = 8 → ∃ p q : Nat, x = p ∧ y = q ∧ p < l.length ∧ q < l.length ∧ nm l p = nm l.reverse q) := by
  have hA := again_rev l
  have hL := lost_rev l
  cases h with
  | again h1 h2 h3 h4 =>
    cases g with
    | again g1 g2 g3 g4 => exact ⟨by rw [h4, g4], by rw [h2, g2], fun i hi => (by rw [h2] at hi; cases hi), fun h => (by omega)⟩
    | lost g0 | cycle m g0 | order g0 => omega
  | lost h0 h1 h2 h3 h4 =>
    cases g with
    | lost g0 g1 g2 g3 g4 => exact ⟨by rw [h4, g4], by rw [h2, g2], fun i hi => (by rw [h2] at hi; cases hi), fun h => (by omega)⟩
    | again g0 | cycle m g0 g1 | order g0 g1 => omega
  | cycle m h0 h1 hm h2 h3 h4 =>
    have hu := again_unlike h0
    have iso := iso_rev hu
    obtain ⟨⟨h5, h6⟩, h7⟩ := hm.so m rfl
    have hlr : l.reverse.length = l.length := List.length_reverse
    cases g with
    | again g0 | lost g0 g1 => omega
    | order g0 g1 gg gl gc => exact absurd (iso.cyc h5 h6) (gc _ (by rw [hlr]; exact iso.lt m h5))
    | cycle m' g0 g1 gm g2 g3 g4 =>
      have hb : Best (ltP l.reverse) (fun w => w < l.reverse.length ∧ Cyc (nxL l.reverse) w) (some (rv l.length m)) := by
        refine ⟨fun z e => ?_, fun e => by cases e⟩
        injection e with e
        subst e
        refine ⟨⟨by rw [hlr]; exact iso.lt m h5, iso.cyc h5 h6⟩, fun w hw hne => ?_⟩
        have hwl : w < l.length := by rw [← hlr]; exact hw.1
        have h8 := h7 (rv l.length w) ⟨iso.lt w hwl, iso.symm.cyc hwl hw.2⟩ (fun e => hne (by rw [← e, iso.inv w hwl]))
        have h9 := ltP_rev h5 (iso.lt w hwl) h8
        rw [iso.inv w hwl] at h9
        exact h9
      have e := Best.one ltP_asym gm hb
      refine ⟨by rw [h4, g4], by rw [h2, g2], fun i hi => (by rw [h2] at hi; cases hi), fun _ => ⟨m, m', h3, g3, h5, by rw [e]; exact iso.lt m h5, ?_⟩⟩
      rw [e, nm_rev h5]
  | order h0 h1 hg hl hc h3 h4 =>
    have hu := again_unlike h0
    have iso := iso_rev hu
    have hlr : l.reverse.length = l.length := List.length_reverse
    cases g with
    | again g0 | lost g0 g1 => omega
    | cycle m' g0 g1 gm =>
      obtain ⟨⟨h5, h6⟩, h7⟩ := gm.so m' rfl
      rw [hlr] at h5
      exact absurd (iso.symm.cyc h5 h6) (hc _ (iso.lt m' h5))
    | order g0 g1 gg gl gc g3 g4 =>
      have h8 := iso.greedy (lt' := ltP l.reverse) (fun a b ha hb h => ltP_rev ha hb h) hg
      rw [hlr] at gg gl
      have e : b = a.map (rv l.length) := Greedy.one ltP_asym gg h8 (by rw [gl, List.length_map, hl])
      subst e
      refine ⟨by rw [h4, g4], by simp, fun i hi hj => ?_, fun h => (by omega)⟩
      have h9 := hg.ord.2.2 a[i] (List.getElem_mem hi)
      rw [List.getElem_map, nm_rev h9]
      exact ⟨h9, iso.lt _ h9, rfl⟩

end Go.Proofs.Ytahaflapkdjmhaa.Gr
