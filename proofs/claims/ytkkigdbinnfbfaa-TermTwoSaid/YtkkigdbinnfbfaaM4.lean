/-
  The texts TyH, TyI, TyJ, TyRR, TyG0, TyY0, TyPl, TyAr, TyPm, TyPn, TyD, TyPd, one behind the other. Conditions: those that each of them names.
-/
import Derived.Test.YtkkigdbinnfbfaaM2
import Derived.BigQuiet
import Derived.Test.YtkkigdbinnfbfaaM1
import Derived.Lib.ItoaLen
section
/-
  The reference's answer to what a type is, as plain definitions over lists of nodes, and that it is the same answer. No program; no conditions but those that each lemma names.
-/
namespace Go.Proofs.Ytkkigdbinnfbfaa.L
open Go

/-- What is full at the top is taken off, and the one below counts down (the top first). -/
def norm : List Nat → List Nat
  | 0 :: m :: r => norm ((m - 1) :: r)
  | [0] => []
  | s => s

def shal : List Nat → List Nd → Bool
  | _, [] => true
  | s, x :: r => if 100 ≤ s.length then false else shal (norm ((many x).toNat :: s)) r

theorem norm_pos (m : Nat) (s : List Nat) : norm ((m + 1) :: s) = (m + 1) :: s := by unfold norm; rfl
theorem norm_zero (m : Nat) (s : List Nat) : norm (0 :: (m + 1) :: s) = norm (m :: s) := by rw [norm]; rfl

theorem shal_flat (f : Fo) (hok : f.ok = true) : ∀ (c : Nat) (s : List Nat) (r : List Nd), f ≠ .nil → shal ((f.count + c) :: s) (f.flat ++ r) = (decide (f.deep + s.length + 1 ≤ 100) && shal (norm (c :: s)) r) := by
  induction f with
  | nil => intro c s r h; exact absurd rfl h
  | cons x ks g ih1 ih2 =>
    intro c s r _
    simp [Fo.ok] at hok
    obtain ⟨⟨⟨⟨hn, hm⟩, hs⟩, hk⟩, hg⟩ := hok
    have hmt : (many x).toNat = ks.count := by omega
    have e1 : (Fo.cons x ks g).count + c = (g.count + c) + 1 := by simp [Fo.count]; omega
    rw [e1]
    simp only [Fo.flat, List.cons_append, List.append_assoc]
    rw [shal, hmt]
    simp only [List.length_cons]
    by_cases h100 : 100 ≤ s.length + 1
    · rw [if_pos h100]
      symm
      simp [Fo.deep]
      omega
    · rw [if_neg h100]
      have tail : shal (norm ((g.count + c) :: s)) (g.flat ++ r) = (decide (g.deep = 0 ∨ g.deep + s.length + 1 ≤ 100) && shal (norm (c :: s)) r) := by
        cases g with
        | nil => simp [Fo.count, Fo.flat, Fo.deep]
        | cons y k2 g2 =>
          have e2 : (Fo.cons y k2 g2).count + c = (g2.count + c) + 1 := by simp [Fo.count]; omega
          rw [e2, norm_pos, ← e2, ih2 hg c s r (by simp)]
          congr 1
          rw [Bool.eq_iff_iff]
          simp [Fo.deep]
      cases ks with
      | nil =>
        simp only [Fo.count, Fo.flat, List.nil_append]
        rw [norm_zero, tail]
        congr 1
        rw [Bool.eq_iff_iff]
        simp [Fo.deep]
        omega
      | cons y k2 g2 =>
        have e3 : (Fo.cons y k2 g2).count = g2.count + 1 := rfl
        rw [e3, norm_pos, ← e3]
        have := ih1 hk 0 ((g.count + c + 1) :: s) (g.flat ++ r) (by simp)
        rw [Nat.add_zero] at this
        rw [this, norm_zero, tail, ← Bool.and_assoc]
        congr 1
        rw [Bool.eq_iff_iff]
        simp [Fo.deep]
        omega

theorem shal_tree {x : Nd} {ks : Fo} (h : (Fo.cons x ks .nil).ok = true) : shal [] (x :: ks.flat) = decide (ks.deep + 1 ≤ 100) := by
  simp [Fo.ok] at h
  obtain ⟨⟨⟨hn, hm⟩, hs⟩, hk⟩ := h
  rw [shal, if_neg (by simp), show (many x).toNat = ks.count by omega]
  cases ks with
  | nil =>
    simp only [Fo.count, Fo.flat, Fo.deep]
    rw [show norm [0] = [] by simp [norm], shal]
    rfl
  | cons y k2 g2 =>
    rw [show (Fo.cons y k2 g2).count = g2.count + 1 from rfl, norm_pos]
    have := shal_flat (Fo.cons y k2 g2) hk 0 [] [] (by simp)
    rw [Nat.add_zero, List.append_nil] at this
    rw [show g2.count + 1 = (Fo.cons y k2 g2).count from rfl, this, show norm [0] = [] by simp [norm], shal]
    simp

/-- May these places' nodes stand under x, from number k on? -/
def standAt (l : List Nd) (x : Nd) : Nat → ByteArray → List Nat → Bool
  | _, _, [] => true
  | k, b, q :: qs => mayStand x k b (l.getD q default) && standAt l x (k + 1) (l.getD q default).name qs

def labR (l : List Nd) (i : Nat) : Bool :=
  decide ((kidsL l (many (l.getD i default)).toNat (i + 1)).length = (many (l.getD i default)).toNat) && standAt l (l.getD i default) 0 ⟨#[]⟩ (kidsL l (many (l.getD i default)).toNat (i + 1))

/-- The reference's answer. -/
def rightR (l : List Nd) : Bool :=
  match l with
  | [] => false
  | x :: _ => decide (l.length ≤ 10000) && (bare x && (l.all numbered && (decide (eat 1 l = l.length) && (shal [] l && (List.range l.length).all (labR l)))))

theorem getD_drop {l : List Nd} {p : Nat} {y : Nd} {r : List Nd} (h : l.drop p = y :: r) : l.getD p default = y ∧ p < l.length ∧ l.drop (p + 1) = r := by
  have hp : p < l.length := by
    rcases Nat.lt_or_ge p l.length with h1 | h1
    · exact h1
    · rw [List.drop_eq_nil_of_le h1] at h; cases h
  have h2 := List.drop_eq_getElem_cons hp
  rw [h] at h2
  injection h2 with h3 h4
  refine ⟨?_, hp, h4.symm⟩
  simp [List.getD, hp, h3]

theorem drop_more {l a b : List Nd} {p : Nat} (h : l.drop p = a ++ b) : l.drop (p + a.length) = b := by
  rw [← List.drop_drop, h, List.drop_left]

theorem kids_flat (l : List Nd) (x : Nd) : ∀ (f : Fo) (p k : Nat) (b : ByteArray) (r : List Nd), f.ok = true → l.drop p = f.flat ++ r → (kidsL l f.count p).length = f.count ∧ standAt l x k b (kidsL l f.count p) = Fo.stand x k b f := by
  intro f
  induction f with
  | nil => intro p k b r _ _; exact ⟨rfl, rfl⟩
  | cons y ks g _ ih2 =>
    intro p k b r hok hd
    have hok' := hok
    simp [Fo.ok] at hok
    obtain ⟨⟨⟨⟨hn, hm⟩, hs⟩, hk⟩, hg⟩ := hok
    simp only [Fo.flat, List.cons_append, List.append_assoc] at hd
    obtain ⟨h1, h2, h3⟩ := getD_drop hd
    have ht : (Fo.cons y ks .nil).ok = true := by simp [Fo.ok, hn, hm, hs, hk]
    have he : eat 1 (l.drop p) = ks.flat.length + 1 := by rw [hd]; exact eat_tree ht _
    have hd2 : l.drop (p + eat 1 (l.drop p)) = g.flat ++ r := by
      rw [he, show p + (ks.flat.length + 1) = (p + 1) + ks.flat.length by omega]
      exact drop_more h3
    obtain ⟨i1, i2⟩ := ih2 (p + eat 1 (l.drop p)) (k + 1) y.name r hg hd2
    simp only [Fo.count, kidsL, if_pos h2, List.length_cons, i1, standAt, h1, Fo.stand, i2, and_self]

/-- Each place of a row of trees is a tree's first node. -/
theorem tree_at (l : List Nd) : ∀ (f : Fo) (p i : Nat) (r : List Nd), f.ok = true → l.drop p = f.flat ++ r → p ≤ i → i < p + f.flat.length → ∃ y ks r2, l.drop i = y :: (ks.flat ++ r2) ∧ (Fo.cons y ks .nil).ok = true := by
  intro f
  induction f with
  | nil => intro p i r _ _ h1 h2; simp [Fo.flat] at h2; omega
  | cons y ks g ih1 ih2 =>
    intro p i r hok hd h1 h2
    simp [Fo.ok] at hok
    obtain ⟨⟨⟨⟨hn, hm⟩, hs⟩, hk⟩, hg⟩ := hok
    simp only [Fo.flat, List.cons_append, List.append_assoc, List.length_cons, List.length_append] at hd h2
    obtain ⟨_, _, h3⟩ := getD_drop hd
    by_cases e : i = p
    · subst e
      exact ⟨y, ks, g.flat ++ r, hd, by simp [Fo.ok, hn, hm, hs, hk]⟩
    · by_cases hi : i < p + 1 + ks.flat.length
      · exact ih1 (p + 1) i (g.flat ++ r) hk h3 (by omega) hi
      · exact ih2 (p + 1 + ks.flat.length) i r hg (drop_more h3) (by omega) (by omega)

theorem numbered_flat : ∀ (f : Fo), f.ok = true → ∀ x ∈ f.flat, numbered x = true := by
  intro f
  induction f with
  | nil => intro _ x h; simp [Fo.flat] at h
  | cons y ks g ih1 ih2 =>
    intro hok x hx
    simp [Fo.ok] at hok
    obtain ⟨⟨⟨⟨hn, hm⟩, hs⟩, hk⟩, hg⟩ := hok
    simp only [Fo.flat, List.mem_cons, List.mem_append] at hx
    rcases hx with rfl | hx | hx
    · exact hn
    · exact ih1 hk x hx
    · exact ih2 hg x hx

theorem forest_of (l : List Nd) (x : Nd) : ∀ (c p k : Nat) (b : ByteArray), (kidsL l c p).length = c → (∀ q, p ≤ q → q < l.length → ∃ y ks r, l.drop q = y :: (ks.flat ++ r) ∧ (Fo.cons y ks .nil).ok = true) → standAt l x k b (kidsL l c p) = true →
    ∃ (f : Fo) (r : List Nd), f.count = c ∧ f.ok = true ∧ l.drop p = f.flat ++ r ∧ Fo.stand x k b f = true := by
  intro c
  induction c with
  | zero => intro p k b _ _ _; exact ⟨.nil, l.drop p, rfl, rfl, rfl, rfl⟩
  | succ c ih =>
    intro p k b hl ht hs
    rw [kidsL] at hl hs
    by_cases hp : p < l.length
    · rw [if_pos hp] at hl hs
      obtain ⟨y, ks, r, hd, hok⟩ := ht p (Nat.le_refl _) hp
      obtain ⟨h1, _, h3⟩ := getD_drop hd
      have he : eat 1 (l.drop p) = ks.flat.length + 1 := by rw [hd]; exact eat_tree hok _
      have hd2 : l.drop (p + eat 1 (l.drop p)) = r := by
        rw [he, show p + (ks.flat.length + 1) = (p + 1) + ks.flat.length by omega]
        exact drop_more h3
      simp only [standAt, h1, Bool.and_eq_true] at hs
      obtain ⟨g, r2, hg1, hg2, hg3, hg4⟩ := ih (p + eat 1 (l.drop p)) (k + 1) y.name (by simpa using hl) (fun q hq hlq => ht q (by omega) hlq) hs.2
      refine ⟨.cons y ks g, r2, by simp [Fo.count, hg1], ?_, ?_, ?_⟩
      · simp only [Fo.ok, Bool.and_true, Bool.and_eq_true] at hok ⊢
        exact ⟨hok, hg2⟩
      · rw [hd2] at hg3
        simp only [Fo.flat, List.cons_append, List.append_assoc]
        rw [hd, hg3]
      · simp only [Fo.stand, Bool.and_eq_true]
        exact ⟨hs.1, hg4⟩
    · rw [if_neg hp] at hl
      simp at hl

theorem all_trees (l : List Nd) (hn : ∀ x ∈ l, numbered x = true) (hl : ∀ i, i < l.length → labR l i = true) : ∀ (m i : Nat), l.length - i ≤ m → i < l.length → ∃ y ks r, l.drop i = y :: (ks.flat ++ r) ∧ (Fo.cons y ks .nil).ok = true := by
  intro m
  induction m with
  | zero => intro i h1 h2; omega
  | succ m ih =>
    intro i h1 h2
    have hd := List.drop_eq_getElem_cons h2
    have hg : l.getD i default = l[i] := by simp [List.getD, h2]
    have h := hl i h2
    unfold labR at h
    rw [hg] at h
    simp only [Bool.and_eq_true, decide_eq_true_eq] at h
    obtain ⟨f, r, hc, hok, hf, hst⟩ := forest_of l l[i] _ (i + 1) 0 ⟨#[]⟩ h.1 (fun q hq hlq => ih q (by omega) hlq) h.2
    have hnum := hn _ (List.getElem_mem h2)
    have := many_of_numbered hnum
    refine ⟨l[i], f, r, by rw [hd, hf], ?_⟩
    simp only [Fo.ok, hnum, hst, hok, Bool.and_true, Bool.true_and, decide_eq_true_eq]
    omega

theorem rightR_eq (l : List Nd) : rightR l = rightL l := by
  rw [Bool.eq_iff_iff, rightL_iff]
  cases l with
  | nil => simp [rightR]
  | cons x0 l0 =>
    obtain ⟨l, hl⟩ : ∃ l, x0 :: l0 = l := ⟨_, rfl⟩
    simp only [rightR, hl, Bool.and_eq_true, decide_eq_true_eq, List.all_eq_true]
    constructor
    · rintro ⟨h1, h2, h3, h4, h5, h6⟩
      have h0 : 0 < l.length := by rw [← hl]; simp
      obtain ⟨y, ks, r, hd, hok⟩ := all_trees l h3 (fun i hi => h6 i (by simpa using hi)) l.length 0 (by omega) h0
      rw [List.drop_zero] at hd
      have hy : x0 = y := by rw [← hl] at hd; injection hd
      subst hy
      have he := eat_tree hok r
      have hlen := congrArg List.length hd
      rw [← hd, h4] at he
      have hr : r = [] := by
        apply List.eq_nil_of_length_eq_zero
        simp at hlen
        omega
      subst hr
      rw [List.append_nil] at hd
      refine ⟨x0, ks, hd, h1, h2, hok, ?_⟩
      rw [hd, shal_tree hok] at h5
      simpa using h5
    · rintro ⟨y, ks, hd, h1, h2, hok, h5⟩
      have hy : x0 = y := by rw [← hl] at hd; injection hd
      subst hy
      have hd0 : l.drop 0 = (Fo.cons x0 ks .nil).flat ++ [] := by rw [List.drop_zero, hd]; simp [Fo.flat]
      refine ⟨h1, h2, ?_, ?_, ?_, ?_⟩
      · intro z hz
        rw [hd] at hz
        exact numbered_flat (Fo.cons x0 ks .nil) hok z (by simpa [Fo.flat] using hz)
      · have := eat_tree hok []
        rw [List.append_nil] at this
        rw [hd, this]
        simp
      · rw [hd, shal_tree hok]
        simpa using h5
      · intro i hi
        have hi2 : i < l.length := by simpa using hi
        obtain ⟨y, k2, r2, hdi, hok2⟩ := tree_at l _ 0 i [] hok hd0 (Nat.zero_le _) (by rw [hd] at hi2; simp [Fo.flat] at hi2 ⊢; omega)
        obtain ⟨g1, _, g3⟩ := getD_drop hdi
        have hok3 := hok2
        simp only [Fo.ok, Bool.and_true, Bool.and_eq_true, decide_eq_true_eq] at hok3
        obtain ⟨⟨⟨hn, hm⟩, hs⟩, hk⟩ := hok3
        unfold labR
        rw [g1, show (many y).toNat = k2.count by omega]
        obtain ⟨j1, j2⟩ := kids_flat l y k2 (i + 1) 0 ⟨#[]⟩ r2 hk g3
        rw [j1, j2, hs]
        simp

end Go.Proofs.Ytkkigdbinnfbfaa.L
end

section
/-
  The walk of the reference's shallow. Conditions: at most 20000 nodes, each of which has from 0 to 50 children.
-/
namespace Go.Proofs.Ytkkigdbinnfbfaa
open Go.RowKit

def lenV : Value → Nat
  | .slice _ n _ => n
  | _ => 0

/-- The stack's slice, the top last. -/
theorem OwnI.top {B : Nat} {v : Value} {t : Nat} {r : List Nat} {w : World} (h : OwnI B v (t :: r).reverse w) : ∃ g cap, v = .slice (some ⟨g, 0, none⟩) (r.length + 1) cap ∧ B ≤ g ∧ w.cell? ⟨g, r.length, none⟩ = some (.int .i64 ((t : Nat) : Int)) ∧ w.frozen? ⟨g, r.length, none⟩ = false ∧ r.length + 1 ≤ cap ∧ cap ≤ maxLen := by
  have hl : (t :: r).reverse.length = r.length + 1 := by simp
  unfold OwnI at h
  rw [hl] at h
  rcases h.2 with ⟨_, h0⟩ | ⟨g, cap, cur, hv, hb, hh, hc, hm, _⟩
  · omega
  · subst hv
    refine ⟨g, cap, rfl, hb, ?_, World.ownsRow.frozenAt h _, hc, hm⟩
    rw [World.ownsRow.cellAt h _ (by omega)]
    simp [cellsI]

theorem OwnI.pop {B g cap t : Nat} {r : List Nat} {w : World} (h : OwnI B (.slice (some ⟨g, 0, none⟩) (r.length + 1) cap) (t :: r).reverse w) : OwnI B (.slice (some ⟨g, 0, none⟩) r.length cap) r.reverse w := by
  have hl : (t :: r).reverse.length = r.length + 1 := by simp
  unfold OwnI at h ⊢
  rw [hl] at h
  rw [List.length_reverse]
  refine ⟨by simp [cellsI], ?_⟩
  rcases h.2 with ⟨h0, _⟩ | ⟨g', cap', cur, hv, hb, hh, hc, hm, hcs, ht⟩
  · cases h0
  · refine .inr ⟨g', cap', cur, ?_, hb, hh, by omega, hm, hcs, ?_⟩
    · simp only [Value.slice.injEq] at hv ⊢
      exact ⟨hv.1, trivial, hv.2.2⟩
    · have := congrArg (List.take r.length) ht
      rw [List.take_take] at this
      rw [Nat.mul_one] at this ⊢
      rw [show min r.length (r.length + 1) = r.length by omega] at this
      rw [this]
      simp [cellsI]

theorem OwnI.dec {B g cap m : Nat} {r : List Nat} {w : World} (h : OwnI B (.slice (some ⟨g, 0, none⟩) (r.length + 1) cap) ((m + 1) :: r).reverse w) : OwnI B (.slice (some ⟨g, 0, none⟩) (r.length + 1) cap) (m :: r).reverse (w.setCell ⟨g, r.length, none⟩ (.int .i64 ((m : Nat) : Int))) := by
  have hl : ((m + 1) :: r).reverse.length = r.length + 1 := by simp
  have hl2 : (m :: r).reverse.length = r.length + 1 := by simp
  unfold OwnI at h ⊢
  rw [hl] at h
  rw [hl2]
  have := (World.ownsRow.stored h r.length (.int .i64 ((m : Nat) : Int))).1
  have e : (cellsI ((m + 1) :: r).reverse).set r.length (.int .i64 ((m : Nat) : Int)) = cellsI (m :: r).reverse := by
    simp only [cellsI, List.reverse_cons, List.map_append, List.map_cons, List.map_nil]
    rw [List.set_append_right _ _ (by simp)]
    simp
  rw [e] at this
  exact this

set_option maxHeartbeats 4000000 in
set_option maxRecDepth 100000 in
theorem shallow_any (l : List L.Nd) (hF : Few l) (v : Value) (w : World) (hx : Rd w w.heap.size v l) :
    Calls Try.prog 57 #[v] w fun e w' => e = .returned (.bool (L.shal [] l)) ∧ Below w.heap.size w w' := by
  obtain ⟨i0, hi, hz0, hz1, hz2⟩ := info_parts infoInt
  obtain ⟨A, cap, rfl, hl1, hl2, -, hcx⟩ := hx
  unfold maxLen at hl2
  obtain ⟨hl, hM⟩ := hF
  have HCX := hid hcx
  have HM := hid hM
  clear hcx hM
  go_enter Try.func57, Try.ntmps57
  go_wp2
  go_loopw [3, 4] (fun vo vi wr => ∃ (k : Nat) (s : List Nat), vi = .int .i64 k ∧ k ≤ l.length ∧ OwnI w.heap.size vo s.reverse wr ∧ Below w.heap.size w wr ∧ (∀ m ∈ s, 1 ≤ m ∧ m ≤ 50) ∧ Hid (L.shal s (l.drop k) = L.shal [] l)) (fun _ vi _ => l.length - (intOf vi).toNat)
  case atStart => exact ⟨0, [], rfl, by omega, World.ownsRow_made w #[] 0 (Nat.le_refl _) (Nat.zero_le _) (by simp), below_new _, by simp, hid rfl⟩
  case round =>
    obtain ⟨k, s, rfl, hk, hO, hB, hs, hE⟩ := hrel
    by_cases hlt : k < l.length
    · obtain ⟨b, o, rfl, hb, hcx⟩ := HCX.out (by rintro rfl; simp at hlt)
      obtain ⟨x0, x1, x2⟩ := hcx k hlt
      have ex : ∀ j, wr.cell? ⟨b, j, none⟩ = w.cell? ⟨b, j, none⟩ := fun j => hB.cell (p := ⟨b, j, none⟩) hb
      rw [← ex] at x0 x1 x2
      have hm := HM.out _ (List.getElem_mem hlt)
      have hdr : Hid (l.drop k = l[k] :: l.drop (k + 1)) := hid (List.drop_eq_getElem_cons hlt)
      clear hcx ex
      generalize l[k] = X at *
      obtain ⟨k1, s1, n1⟩ := X
      have hmn := refMany_any k1 n1 s1
      obtain ⟨mm, hmm⟩ : ∃ mm : Nat, L.many ⟨k1, s1, n1⟩ = mm := ⟨(L.many ⟨k1, s1, n1⟩).toNat, by omega⟩
      obtain ⟨Ao, capo, hvo, -⟩ := hO.rd
      rw [List.length_reverse] at hvo
      have HO := hid hO
      have HSS := hid hs
      have hbw := hB.size
      clear hO hs
      by_cases h100 : 100 ≤ s.length
      · have HZ : Hid (L.shal [] l = false) := hid (by rw [← hE.out, hdr.out, L.shal, if_pos h100])
        subst hvo
        clear hmn
        go_wp2
        go_ret
        exact ⟨ret_bool HZ.out.symm, hB⟩
      · have HE2 : Hid (L.shal (L.norm (mm :: s)) (l.drop (k + 1)) = L.shal [] l) := hid (by rw [← hE.out, hdr.out, L.shal, if_neg h100, hmm]; rfl)
        rw [hmm] at hmn hm
        have HMN := hid hmn
        have hO1 : Hid (wr.ownsRow w.heap.size 3 1 u3 s.length (cellsI s.reverse)) := hid (by have := HO.out; unfold OwnI at this; rw [List.length_reverse] at this; exact this)
        have hsl : s.length < 100 := by omega
        subst hvo
        clear hmn
        go_wp2_with fail
        refine (HMN.out _).mono ?_
        rintro e w1 ⟨rfl, hb1⟩
        have hB1 : Below w.heap.size w w1 := hB.trans (hb1.mono hbw)
        have hO2 : w1.ownsRow w.heap.size 3 1 (.slice Ao s.length capo) s.length (cellsI s.reverse) := by
          have h : OwnI w.heap.size (.slice Ao s.length capo) s.reverse w1 := HO.out.below hb1
          unfold OwnI at h
          rw [List.length_reverse] at h
          exact h
        clear x0 x1 x2 hb1
        go_wp2_with (at_builtin; refine wpList_append_own _ rfl _ _ 30 rfl w.heap.size 3 i0 (.int .i64 0) 1 8 Try.underlying30 hi hz0 hz1 hz2 rfl (by decide) _ _ _ rfl (World.ownsRow.alloc hO2 _) ⟨w1.heap.size, 0, none⟩ 1 1 [.int .i64 mm] rfl rfl ?c1 ?c2 ?c3 ?c4 ?c5 ?_)
        case c1 => intro j u hj; match j, hj with | 0, hj => simp at hj; subst hj; simp [Addr.add]
        case c2 => intro u hu; simp at hu; subst hu; rfl
        case c3 => unfold maxLen; omega
        case c4 => omega
        case c5 => have := hB1.size; simp; omega
        intro v' w2 hown hgrow _
        have hB2 : Below w.heap.size w w2 := (hB1.alloc hB1.size _).grown hgrow (by have := hB1.size; simp; omega) (fun k hk => (World.ownsRow.lt hO2 k hk).1)
        have hO3 : OwnI w.heap.size v' (mm :: s).reverse w2 := by
          rw [List.reverse_cons]
          refine OwnI.snoc mm ?_
          rw [List.length_reverse]
          exact hown
        clear hown hgrow hO2 hB1 hO1
        go_wp2
        go_loopw [3] (fun vo wi => ∃ s2 : List Nat, OwnI w.heap.size vo s2.reverse wi ∧ Below w.heap.size w wi ∧ L.norm s2 = L.norm (mm :: s) ∧ (∀ x ∈ s2.tail, 1 ≤ x) ∧ (∀ x ∈ s2, x ≤ 50) ∧ s2.length ≤ 100) (fun vo _ => lenV vo)
        case atStart => exact ⟨mm :: s, hO3, hB2, rfl, fun x hx => (HSS.out x hx).1, fun x hx => by rcases List.mem_cons.1 hx with rfl | hx; omega; exact (HSS.out x hx).2, by simp; omega⟩
        case round =>
          obtain ⟨s2, hO4, hB4, hn4, ht4, h504, hl4⟩ := hrel
          cases s2 with
          | nil =>
            obtain ⟨Ai, capi, rfl, -⟩ := hO4.rd
            have hnil : OwnI w.heap.size (.slice Ai ([] : List Nat).reverse.length capi) ([] : List Nat).reverse wr := hO4
            have HNI := hid hnil
            have HE3 : Hid (L.shal [] (l.drop (k + 1)) = L.shal [] l) := hid (by rw [← HE2.out, ← hn4]; simp [L.norm])
            clear hO4 hn4 hnil
            go_wp2
            go_roundw
            case rel => exact ⟨k + 1, [], by go_num, by omega, HNI.out, hB4, by simp, HE3⟩
            case measure => simp [intOf]; omega
          | cons t r =>
            obtain ⟨g, capi, hvv, hBg, hcell, hfz, hcp1, hcp2⟩ := hO4.top
            rw [hvv] at hO4
            subst hvv
            have HO4 := hid hO4
            have hrl : r.length ≤ 99 := by simp at hl4; omega
            unfold maxLen at hcp2
            clear hO4
            by_cases ht0 : t = 0
            · subst ht0
              cases r with
              | nil =>
                have HP := hid HO4.out.pop
                have HN4 : Hid (L.norm [] = L.norm (mm :: s)) := hid (by rw [← hn4]; simp [L.norm])
                simp only [List.length_nil, Nat.zero_add] at hcell hfz hcp1
                clear hn4
                go_wp2
                go_roundw
                case rel => exact ⟨[], HP.out, hB4, HN4.out, by simp, by simp, by simp⟩
                case measure => simp [lenV]
              | cons m r2 =>
                have hm1 : 1 ≤ m := ht4 m (by simp)
                obtain ⟨m', rfl⟩ : ∃ m', m = m' + 1 := ⟨m - 1, by omega⟩
                have HP := hid HO4.out.pop
                obtain ⟨g', capi', hv2, _, hcell2, hfz2, _, _⟩ := HP.out.top
                simp only [List.length_cons, Value.slice.injEq, Option.some.injEq, Addr.mk.injEq, and_true, true_and] at hv2
                obtain ⟨rfl, rfl⟩ := hv2
                have HD := hid (OwnI.dec HP.out)
                have hm50 : m' + 1 ≤ 50 := h504 _ (by simp)
                have HN4 : Hid (L.norm (m' :: r2) = L.norm (mm :: s)) := hid (by rw [← hn4, L.norm_zero])
                have HT4 := hid ht4
                have H504 := hid h504
                simp only [List.length_cons] at hcell hrl hcp1 hfz
                have hl4' : r2.length + 2 ≤ 100 := by simp at hl4; omega
                clear hn4 ht4 h504 hl4
                go_wp2
                exact ⟨⟨m' :: r2, HD.out, hB4.setCell (p := ⟨g, r2.length, none⟩) hBg _, HN4.out, fun x hx => HT4.out x (by simp at hx ⊢; exact Or.inr hx), fun x hx => by rcases List.mem_cons.1 hx with rfl | hx; omega; exact H504.out x (by simp [hx]), by simp; omega⟩, by simp [lenV]⟩
            · have htz : ((t : Int) == 0) = false := by simp; omega
              have HE3 : Hid (L.shal (t :: r) (l.drop (k + 1)) = L.shal [] l) := hid (by
                obtain ⟨t', rfl⟩ : ∃ t', t = t' + 1 := ⟨t - 1, by omega⟩
                rw [← HE2.out, ← hn4, L.norm_pos])
              have HT4 := hid ht4
              have H504 := hid h504
              clear hn4 ht4 h504
              go_wp2
              go_roundw
              case rel => exact ⟨k + 1, t :: r, by go_num, by omega, HO4.out, hB4, fun x hx => ⟨by rcases List.mem_cons.1 hx with rfl | hx; omega; exact HT4.out x hx, H504.out x hx⟩, HE3⟩
              case measure => simp [intOf]; omega
    · go_wp2
      go_ret
      refine ⟨ret_bool ?_, hB⟩
      rw [← hE.out, List.drop_eq_nil_of_le (by omega), L.shal]

end Go.Proofs.Ytkkigdbinnfbfaa
end

section
/-
  The walk of the reference's labelled. Conditions: at most 20000 nodes, each of which has from 0 to 50 children, labels of at most 2000000 bytes.
-/
namespace Go.Proofs.Ytkkigdbinnfbfaa.L
open Go

theorem stand_step {l : List Nd} {x : Nd} {k : Nat} {b : ByteArray} {ks : List Nat} {j : Nat} (h : j < ks.length) : standAt l x k b (ks.drop j) = (mayStand x k b (l.getD ks[j] default) && standAt l x (k + 1) (l.getD ks[j] default).name (ks.drop (j + 1))) := by
  rw [List.drop_eq_getElem_cons h, standAt]

theorem kidsL_lt (l : List Nd) : ∀ (c p : Nat), ∀ q ∈ kidsL l c p, q < l.length := by
  intro c
  induction c with
  | zero => intro p q h; simp [kidsL] at h
  | succ c ih =>
    intro p q h
    rw [kidsL] at h
    split at h
    · rename_i hp
      rcases List.mem_cons.1 h with rfl | h
      · exact hp
      · exact ih _ q h
    · simp at h

theorem many_pos {x : Nd} (h : 0 < many x) : x.kind = 5 ∨ ((x.kind = 6 ∨ x.kind = 7) ∧ many x = x.n) := by
  unfold many at h ⊢
  split at h
  · exact Or.inl (by assumption)
  · split at h
    · rename_i h5 h6
      exact Or.inr ⟨h6, by rw [if_neg h5, if_pos h6]⟩
    · omega

theorem label_ne {kind : Int} {s : ByteArray} (h : isLabel kind s = true) : 0 < s.size := by
  simp only [isLabel, Bool.or_eq_true, Bool.and_eq_true, nameB, decide_eq_true_eq] at h
  rcases h with h | h
  · exact h.2.1
  · exact h.2.1

theorem ltB_empty {s : ByteArray} (h : 0 < s.size) : ltB ⟨#[]⟩ s = true := by
  unfold ltB
  rw [Lib.toList_data, Lib.toList_data]
  show Op.bytesLess [] s.data.toList = true
  cases hs : s.data.toList with
  | nil =>
    have : s.data.toList.length = s.size := by simp
    rw [hs] at this
    simp at this
    omega
  | cons a r => rfl

end Go.Proofs.Ytkkigdbinnfbfaa.L
namespace Go.Proofs.Ytkkigdbinnfbfaa
open Go.RowKit

theorem RdI.cell {w : World} {v : Value} {ks : List Nat} (h : RdI w v ks) (hn : 0 < ks.length) : ∃ g cap, v = .slice (some ⟨g, 0, none⟩) ks.length cap ∧ g < w.heap.size ∧ ∀ (i : Nat) (h : i < ks.length), w.cell? ⟨g, i, none⟩ = some (.int .i64 ((ks[i] : Nat) : Int)) := by
  obtain ⟨A, cap, hv, hc⟩ := h
  obtain ⟨g, hA, hg, hx⟩ := hc (List.length_pos_iff.1 hn)
  subst hA
  exact ⟨g, cap, hv, hg, hx⟩

set_option maxHeartbeats 40000000 in
set_option maxRecDepth 100000 in
theorem labelled_ref (l : List L.Nd) (hF : Few l) (hnm : ∀ x ∈ l, x.name.size ≤ 9223372036854775807) (i : Nat) (hil : i < l.length) (v : Value) (w : World) (hx : Rd w w.heap.size v l) :
    Calls Try.prog 58 #[v, .int .i64 i] w fun e w' => e = .returned (.bool (L.labR l i)) ∧ Below w.heap.size w w' := by
  have hgd : l.getD i default = l[i] := by simp [List.getD, hil]
  have HLR : Hid (L.labR l i = (decide ((L.kidsL l (L.many l[i]).toNat (i + 1)).length = (L.many l[i]).toNat) && L.standAt l l[i] 0 ⟨#[]⟩ (L.kidsL l (L.many l[i]).toNat (i + 1)))) := hid (by unfold L.labR; rw [hgd])
  have HKD := hid (refKids_any l hF v i hil w hx)
  have HX := hid hx
  have HNM := hid hnm
  obtain ⟨A, cap, rfl, hl1, hl2, -, hcx0⟩ := hx
  obtain ⟨b, o, hA, hb, hcx⟩ := hcx0 (by rintro rfl; simp at hil)
  subst hA
  unfold maxLen at hl2
  obtain ⟨hl, hM⟩ := hF
  obtain ⟨x0, x1, x2⟩ := hcx i hil
  have HCX := hid hcx
  have X0 := hid x0
  have X1 := hid x1
  have X2 := hid x2
  have hm := hM _ (List.getElem_mem hil)
  have hkl := L.kidsL_lt l (L.many l[i]).toNat (i + 1)
  have hkn := L.kidsL_length_le l (L.many l[i]).toNat (i + 1)
  have HKL := hid hkl
  clear hcx0 hcx hM x0 x1 x2 hkl hnm hgd
  generalize L.kidsL l (L.many l[i]).toNat (i + 1) = ks at *
  generalize l[i] = X at *
  obtain ⟨k1, s1, n1⟩ := X
  have hmn := refMany_any k1 n1 s1
  obtain ⟨c, hc⟩ : ∃ c : Nat, L.many ⟨k1, s1, n1⟩ = c := ⟨(L.many ⟨k1, s1, n1⟩).toNat, by omega⟩
  have HMC := hid hc
  rw [hc] at hmn hm hkn HLR
  rw [Int.toNat_natCast] at hkn HLR
  have HMN := hid hmn
  clear hmn hc
  by_cases hlen : ks.length = c
  case neg =>
    have hlz : ((ks.length : Int) != (c : Int)) = true := by simp; omega
    have HZ : Hid (L.labR l i = false) := hid (by rw [HLR.out]; simp [hlen])
    go_enter Try.func58, Try.ntmps58
    go_wp2_with fail
    refine (HKD.out).mono ?_
    rintro e w1 ⟨v5, rfl, hO, hb1⟩
    obtain ⟨A5, c5, rfl, -⟩ := hO.rd
    have x0 := (hb1.cell (p := ⟨b, o + i * 3, none⟩) hb).trans X0.out
    have x1 := (hb1.cell (p := ⟨b, o + i * 3 + 1, none⟩) hb).trans X1.out
    have x2 := (hb1.cell (p := ⟨b, o + i * 3 + 2, none⟩) hb).trans X2.out
    clear hO
    go_wp2_with fail
    refine (HMN.out _).mono ?_
    rintro e w2 ⟨rfl, hb2⟩
    go_wp2
    go_ret
    exact ⟨ret_bool HZ.out.symm, hb1.trans (hb2.mono hb1.size)⟩
  case pos =>
    have HLR2 : Hid (L.labR l i = L.standAt l ⟨k1, s1, n1⟩ 0 ⟨#[]⟩ ks) := hid (by rw [HLR.out, hlen]; simp)
    have HLEN := hid hlen
    have hlz : ((ks.length : Int) != (c : Int)) = false := by simp; omega
    clear hlen
    go_enter Try.func58, Try.ntmps58
    go_wp2_with fail
    refine (HKD.out).mono ?_
    rintro e w1 ⟨v5, rfl, hO, hb1⟩
    have HRI := hid hO.rd
    obtain ⟨A5, c5, rfl, -⟩ := hO.rd
    have x0 := (hb1.cell (p := ⟨b, o + i * 3, none⟩) hb).trans X0.out
    have x1 := (hb1.cell (p := ⟨b, o + i * 3 + 1, none⟩) hb).trans X1.out
    have x2 := (hb1.cell (p := ⟨b, o + i * 3 + 2, none⟩) hb).trans X2.out
    clear hO
    go_wp2_with fail
    refine (HMN.out _).mono ?_
    rintro e w2 ⟨rfl, hb2⟩
    have hB2 : Below w.heap.size w w2 := hb1.trans (hb2.mono hb1.size)
    have HRI2 := hid (HRI.out.below hb2)
    clear x0 x1 x2 hb2
    go_wp2
    go_loopw [6] (fun vk wr => ∃ (k : Nat) (bf : ByteArray), vk = .int .i64 k ∧ k ≤ ks.length ∧ Below w.heap.size w wr ∧ RdI wr (.slice A5 ks.length c5) ks ∧ Hid (k = 0 ∧ bf = ⟨#[]⟩ ∨ ∃ h : k - 1 < ks.length, 0 < k ∧ bf = (l.getD ks[k - 1] default).name) ∧ Hid (L.standAt l ⟨k1, s1, n1⟩ k bf (ks.drop k) = L.labR l i)) (fun vk _ => ks.length - (intOf vk).toNat)
    case atStart => exact ⟨0, ⟨#[]⟩, rfl, by omega, hB2, HRI2.out, hid (Or.inl ⟨rfl, rfl⟩), hid (by rw [HLR2.out]; rfl)⟩
    case round =>
      obtain ⟨k, bf, rfl, hk, hB, hR, hbf, hE⟩ := hrel
      have HR := hid hR
      by_cases hlt : k < ks.length
      · obtain ⟨g, c6, hv6, hg, hcell⟩ := hR.cell (by omega)
        simp only [Value.slice.injEq, true_and] at hv6
        obtain ⟨rfl, rfl⟩ := hv6
        have hq : ks[k] < l.length := HKL.out _ (List.getElem_mem hlt)
        have cq := hcell k hlt
        have HCELL := hid hcell
        obtain ⟨y0, y1, y2⟩ := HCX.out ks[k] hq
        have ey : ∀ j, wr.cell? ⟨b, j, none⟩ = w.cell? ⟨b, j, none⟩ := fun j => hB.cell (p := ⟨b, j, none⟩) hb
        rw [← ey] at y0 y1 y2
        have x0 := (ey (o + i * 3)).trans X0.out
        have EY := hid ey
        have hny := HNM.out _ (List.getElem_mem hq)
        have hST : Hid (L.labR l i = (L.mayStand ⟨k1, s1, n1⟩ k bf (l[ks[k]]'hq) && L.standAt l ⟨k1, s1, n1⟩ (k + 1) (l[ks[k]]'hq).name (ks.drop (k + 1)))) := hid (by
          have hgy : l.getD ks[k] default = l[ks[k]]'hq := by simp [List.getD, hq]
          rw [← hE.out, L.stand_step hlt, hgy])
        have HNB : Hid ((l.getD ks[k] default).name = (l[ks[k]]'hq).name) := hid (by simp [List.getD, hq])
        have hqz : (ks[k] : Int) < (l.length : Int) := by omega
        have hbw := hB.size
        have hbr : b < wr.heap.size := by omega
        have hbne : b ≠ wr.heap.size := by omega
        have hgne : g ≠ wr.heap.size := by omega
        have hc50 : ks.length ≤ 50 := by have := HLEN.out; omega
        have hcpos : 0 < L.many ⟨k1, s1, n1⟩ := by have := HLEN.out; have := HMC.out; omega
        have hkd := L.many_pos hcpos
        have hBN : ∀ cs, Below w.heap.size w (wr.alloc (.cells cs 39)) := fun cs => hB.trans ((below_new _).mono hbw)
        have HBN := hid hBN
        have HRN : Hid (∀ cs, RdI (wr.alloc (.cells cs 39)) (.slice (some ⟨g, 0, none⟩) ks.length c5) ks) := hid fun cs => HR.out.below (below_new _)
        have HKQ := hid (show ∀ h : k + 1 - 1 < ks.length, ks[k + 1 - 1] = ks[k] from fun _ => rfl)
        clear hR hcell ey hBN hcpos
        generalize hY : l[ks[k]]'hq = Y at *
        obtain ⟨k2, s2, n2⟩ := Y
        have HY := hid hY
        clear hY
        generalize hQ : ks[k] = Q at *
        have HQ := hid hQ
        clear hQ
        have HKD2 : Hid (k1 = 5 ∨ ((k1 = 6 ∨ k1 = 7) ∧ n1 = (ks.length : Int))) := hid (by
          rcases hkd with h | ⟨h, h2⟩
          · exact Or.inl h
          · right; refine ⟨h, ?_⟩; have := HMC.out; have := HLEN.out; simp only at h2; omega)
        clear hkd
        by_cases h5 : k1 = 5
        · have z6 : (k1 == 6) = false := by simp; omega
          have z7 : (k1 == 7) = false := by simp; omega
          by_cases h9 : k2 = 9
          · have z9 : (k2 == 9) = true := by simp [h9]
            have HM : Hid (L.mayStand ⟨k1, s1, n1⟩ k bf ⟨k2, s2, n2⟩ = false) := hid (by simp [L.mayStand, h5, L.bare, h9])
            clear h5 h9
            go_wp2
            go_ret
            exact ⟨ret_bool (by rw [hST.out, HM.out]; rfl), HBN.out _⟩
          · have z9 : (k2 == 9) = false := by simp; omega
            by_cases h0 : s2.size = 0
            · have ze := is_empty h0
              have HM : Hid (L.mayStand ⟨k1, s1, n1⟩ k bf ⟨k2, s2, n2⟩ = true) := hid (by simp [L.mayStand, h5, L.bare, h9, h0])
              clear h5 h9
              go_wp2
              go_quiet (fail)
              go_wp2
              go_roundw
              case rel => exact ⟨k + 1, s2, by go_num, by omega, below_drewN (HBN.out _) _, (HRN.out _).below (below_drewN (Below.refl _ _) _), hid (Or.inr ⟨by omega, by omega, by rw [HKQ.out, HQ.out]; exact HNB.out.symm⟩), hid (by rw [hST.out, HM.out]; rfl)⟩
              case measure => simp [intOf]; omega
            · have ze := ne_empty (show 0 < s2.size by omega)
              have HM : Hid (L.mayStand ⟨k1, s1, n1⟩ k bf ⟨k2, s2, n2⟩ = false) := hid (by simp [L.mayStand, h5, L.bare, h0])
              clear h5 h9
              go_wp2
              go_ret
              exact ⟨ret_bool (by rw [hST.out, HM.out]; rfl), HBN.out _⟩
        · have h67 : (k1 = 6 ∨ k1 = 7) ∧ n1 = (ks.length : Int) := by rcases HKD2.out with h | h; exact absurd h h5; exact h
          obtain ⟨h67, hn1⟩ := h67
          by_cases h9 : k2 = 9
          · have z9 : (k2 == 9) = true := by simp [h9]
            by_cases h0 : s2.size = 0
            · have ze := is_empty h0
              by_cases hkl : (k : Int) = (ks.length : Int) - 1
              · have zk : ((k : Int) == (ks.length : Int) - 1) = true := by simp [hkl]
                have HM : Hid (L.mayStand ⟨k1, s1, n1⟩ k bf ⟨k2, s2, n2⟩ = true) := hid (by simp [L.mayStand, h5, h9, h0, hn1, hkl])
                rcases h67 with h6 | h7
                · have z6 : (k1 == 6) = true := by simp [h6]
                  clear h5 h6 h9 hn1 hkl
                  go_wp2
                  go_roundw
                  case rel => exact ⟨k + 1, s2, by go_num, by omega, HBN.out _, HRN.out _, hid (Or.inr ⟨by omega, by omega, by rw [HKQ.out, HQ.out]; exact HNB.out.symm⟩), hid (by rw [hST.out, HM.out]; rfl)⟩
                  case measure => simp [intOf]; omega
                · have z6 : (k1 == 6) = false := by simp; omega
                  have z7 : (k1 == 7) = true := by simp [h7]
                  clear h5 h7 h9 hn1 hkl
                  go_wp2
                  go_roundw
                  case rel => exact ⟨k + 1, s2, by go_num, by omega, HBN.out _, HRN.out _, hid (Or.inr ⟨by omega, by omega, by rw [HKQ.out, HQ.out]; exact HNB.out.symm⟩), hid (by rw [hST.out, HM.out]; rfl)⟩
                  case measure => simp [intOf]; omega
              · have zk : ((k : Int) == (ks.length : Int) - 1) = false := by simp; omega
                have HM : Hid (L.mayStand ⟨k1, s1, n1⟩ k bf ⟨k2, s2, n2⟩ = false) := hid (by simp [L.mayStand, h5, h9, hn1, hkl])
                rcases h67 with h6 | h7
                · have z6 : (k1 == 6) = true := by simp [h6]
                  clear h5 h6 h9 hn1 hkl
                  go_wp2
                  go_ret
                  exact ⟨ret_bool (by rw [hST.out, HM.out]; rfl), HBN.out _⟩
                · have z6 : (k1 == 6) = false := by simp; omega
                  have z7 : (k1 == 7) = true := by simp [h7]
                  clear h5 h7 h9 hn1 hkl
                  go_wp2
                  go_ret
                  exact ⟨ret_bool (by rw [hST.out, HM.out]; rfl), HBN.out _⟩
            · have ze := ne_empty (show 0 < s2.size by omega)
              have HM : Hid (L.mayStand ⟨k1, s1, n1⟩ k bf ⟨k2, s2, n2⟩ = false) := hid (by simp [L.mayStand, h5, h9, h0])
              by_cases hkl : (k : Int) = (ks.length : Int) - 1
              · have zk : ((k : Int) == (ks.length : Int) - 1) = true := by simp [hkl]
                rcases h67 with h6 | h7
                · have z6 : (k1 == 6) = true := by simp [h6]
                  clear h5 h6 h9 hn1 hkl
                  go_wp2
                  go_ret
                  exact ⟨ret_bool (by rw [hST.out, HM.out]; rfl), HBN.out _⟩
                · have z6 : (k1 == 6) = false := by simp; omega
                  have z7 : (k1 == 7) = true := by simp [h7]
                  clear h5 h7 h9 hn1 hkl
                  go_wp2
                  go_ret
                  exact ⟨ret_bool (by rw [hST.out, HM.out]; rfl), HBN.out _⟩
              · have zk : ((k : Int) == (ks.length : Int) - 1) = false := by simp; omega
                rcases h67 with h6 | h7
                · have z6 : (k1 == 6) = true := by simp [h6]
                  clear h5 h6 h9 hn1 hkl
                  go_wp2
                  go_ret
                  exact ⟨ret_bool (by rw [hST.out, HM.out]; rfl), HBN.out _⟩
                · have z6 : (k1 == 6) = false := by simp; omega
                  have z7 : (k1 == 7) = true := by simp [h7]
                  clear h5 h7 h9 hn1 hkl
                  go_wp2
                  go_ret
                  exact ⟨ret_bool (by rw [hST.out, HM.out]; rfl), HBN.out _⟩
          · have z9 : (k2 == 9) = false := by simp; omega
            rcases h67 with h6 | h7
            · have z6 : (k1 == 6) = true := by simp [h6]
              have z7 : (k1 == 7) = false := by simp [h6]
              have hw := fun W => refWord_any s2 hny W
              cases hlb : nameB 97 122 s2 with
              | false =>
                simp only [hlb] at hw
                have HW := hid hw
                have HM : Hid (L.mayStand ⟨k1, s1, n1⟩ k bf ⟨k2, s2, n2⟩ = false) := hid (by simp [L.mayStand, h9, L.isLabel, h6, hlb])
                clear h5 h6 h9 hn1 hw hlb
                go_wp2_with (go_at_call 78; refine (HW.out _).mono ?_; rintro e w' ⟨rfl, rfl⟩)
                go_ret
                exact ⟨ret_bool (by rw [hST.out, HM.out]; rfl), HBN.out _⟩
              | true =>
                simp only [hlb] at hw
                have HW := hid hw
                have hil2 : L.isLabel k1 s2 = true := by simp [L.isLabel, h6, hlb]
                have hpos := L.label_ne hil2
                have HIL := hid hil2
                have h5' := hid h5
                have h9' := hid h9
                clear h5 h6 h9 hn1 hw hlb hil2
                rcases hbf.out with ⟨hk0, hbe⟩ | ⟨hk1, hkp, hbe⟩
                · have HM : Hid (L.mayStand ⟨k1, s1, n1⟩ k bf ⟨k2, s2, n2⟩ = true) := hid (by rw [L.mayStand, if_neg h5'.out, if_neg h9'.out, HIL.out, hbe, L.ltB_empty hpos]; rfl)
                  have zk0 : decide ((0 : Int) < (k : Int)) = false := by simp; omega
                  have zk1 : decide (0 < k) = false := by simp; omega
                  subst hk0
                  clear hbe
                  go_wp2_with (go_at_call 78; refine (HW.out _).mono ?_; rintro e w' ⟨rfl, rfl⟩)
                  go_quiet (fail)
                  go_wp2
                  go_roundw
                  case rel => exact ⟨1, s2, by go_num, by omega, below_drewN (HBN.out _) _, (HRN.out _).below (below_drewN (Below.refl _ _) _), hid (Or.inr ⟨by omega, by omega, by rw [show ks[1 - 1]'(by omega) = Q from HQ.out]; exact HNB.out.symm⟩), hid (by rw [hST.out, HM.out]; rfl)⟩
                  case measure => simp [intOf]; omega
                · obtain ⟨p, rfl⟩ : ∃ p, k = p + 1 := ⟨k - 1, by omega⟩
                  have hp : p < ks.length := by omega
                  have hqp : ks[p] < l.length := HKL.out _ (List.getElem_mem hp)
                  have cp := HCELL.out p hp
                  obtain ⟨-, p1, -⟩ := HCX.out ks[p] hqp
                  rw [← EY.out] at p1
                  have hbe2 : bf = (l[ks[p]]'hqp).name := by
                    rw [hbe]
                    show (l.getD ks[p] default).name = _
                    simp [List.getD, hqp]
                  have hqpz : (ks[p] : Int) < (l.length : Int) := by omega
                  have HBE := hid hbe2
                  rw [← hbe2] at p1
                  clear hbe hbe2
                  generalize ks[p] = Qp at *
                  have hpz : (0 : Int) < (p : Int) + 1 := by omega
                  cases hcmp : Op.bytesLess bf.toList s2.toList with
                  | true =>
                    have HM : Hid (L.mayStand ⟨k1, s1, n1⟩ ((p + 1 : Nat) : Int) bf ⟨k2, s2, n2⟩ = true) := hid (by rw [L.mayStand, if_neg h5'.out, if_neg h9'.out, HIL.out]; simp [L.ltB, hcmp])
                    go_wp2_with (go_at_call 78; refine (HW.out _).mono ?_; rintro e w' ⟨rfl, rfl⟩)
                    go_quiet (fail)
                    go_wp2
                    go_roundw
                    case rel => exact ⟨p + 1 + 1, s2, by go_num, by omega, below_drewN (HBN.out _) _, (HRN.out _).below (below_drewN (Below.refl _ _) _), hid (Or.inr ⟨by omega, by omega, by rw [HKQ.out, HQ.out]; exact HNB.out.symm⟩), hid (by rw [hST.out, HM.out]; rfl)⟩
                    case measure => simp [intOf]; omega
                  | false =>
                    have HM : Hid (L.mayStand ⟨k1, s1, n1⟩ ((p + 1 : Nat) : Int) bf ⟨k2, s2, n2⟩ = false) := hid (by rw [L.mayStand, if_neg h5'.out, if_neg h9'.out, HIL.out]; simp [L.ltB, hcmp])
                    go_wp2_with (go_at_call 78; refine (HW.out _).mono ?_; rintro e w' ⟨rfl, rfl⟩)
                    go_quiet (fail)
                    go_wp2
                    go_ret
                    exact ⟨ret_bool (by rw [hST.out, HM.out]; rfl), below_drewN (HBN.out _) _⟩
            · have z6 : (k1 == 6) = false := by simp [h7]
              have z7 : (k1 == 7) = true := by simp [h7]
              have hw := fun W => refTag_any s2 hny W
              cases hlb : nameB 65 90 s2 with
              | false =>
                simp only [hlb] at hw
                have HW := hid hw
                have HM : Hid (L.mayStand ⟨k1, s1, n1⟩ k bf ⟨k2, s2, n2⟩ = false) := hid (by simp [L.mayStand, h9, L.isLabel, h7, hlb])
                clear h5 h7 h9 hn1 hw hlb
                go_wp2_with (go_at_call 79; refine (HW.out _).mono ?_; rintro e w' ⟨rfl, rfl⟩)
                go_ret
                exact ⟨ret_bool (by rw [hST.out, HM.out]; rfl), HBN.out _⟩
              | true =>
                simp only [hlb] at hw
                have HW := hid hw
                have hil2 : L.isLabel k1 s2 = true := by simp [L.isLabel, h7, hlb]
                have hpos := L.label_ne hil2
                have HIL := hid hil2
                have h5' := hid h5
                have h9' := hid h9
                clear h5 h7 h9 hn1 hw hlb hil2
                rcases hbf.out with ⟨hk0, hbe⟩ | ⟨hk1, hkp, hbe⟩
                · have HM : Hid (L.mayStand ⟨k1, s1, n1⟩ k bf ⟨k2, s2, n2⟩ = true) := hid (by rw [L.mayStand, if_neg h5'.out, if_neg h9'.out, HIL.out, hbe, L.ltB_empty hpos]; rfl)
                  have zk0 : decide ((0 : Int) < (k : Int)) = false := by simp; omega
                  have zk1 : decide (0 < k) = false := by simp; omega
                  subst hk0
                  clear hbe
                  go_wp2_with (go_at_call 79; refine (HW.out _).mono ?_; rintro e w' ⟨rfl, rfl⟩)
                  go_quiet (fail)
                  go_wp2
                  go_roundw
                  case rel => exact ⟨1, s2, by go_num, by omega, below_drewN (HBN.out _) _, (HRN.out _).below (below_drewN (Below.refl _ _) _), hid (Or.inr ⟨by omega, by omega, by rw [show ks[1 - 1]'(by omega) = Q from HQ.out]; exact HNB.out.symm⟩), hid (by rw [hST.out, HM.out]; rfl)⟩
                  case measure => simp [intOf]; omega
                · obtain ⟨p, rfl⟩ : ∃ p, k = p + 1 := ⟨k - 1, by omega⟩
                  have hp : p < ks.length := by omega
                  have hqp : ks[p] < l.length := HKL.out _ (List.getElem_mem hp)
                  have cp := HCELL.out p hp
                  obtain ⟨-, p1, -⟩ := HCX.out ks[p] hqp
                  rw [← EY.out] at p1
                  have hbe2 : bf = (l[ks[p]]'hqp).name := by
                    rw [hbe]
                    show (l.getD ks[p] default).name = _
                    simp [List.getD, hqp]
                  have hqpz : (ks[p] : Int) < (l.length : Int) := by omega
                  have HBE := hid hbe2
                  rw [← hbe2] at p1
                  clear hbe hbe2
                  generalize ks[p] = Qp at *
                  have hpz : (0 : Int) < (p : Int) + 1 := by omega
                  cases hcmp : Op.bytesLess bf.toList s2.toList with
                  | true =>
                    have HM : Hid (L.mayStand ⟨k1, s1, n1⟩ ((p + 1 : Nat) : Int) bf ⟨k2, s2, n2⟩ = true) := hid (by rw [L.mayStand, if_neg h5'.out, if_neg h9'.out, HIL.out]; simp [L.ltB, hcmp])
                    go_wp2_with (go_at_call 79; refine (HW.out _).mono ?_; rintro e w' ⟨rfl, rfl⟩)
                    go_quiet (fail)
                    go_wp2
                    go_roundw
                    case rel => exact ⟨p + 1 + 1, s2, by go_num, by omega, below_drewN (HBN.out _) _, (HRN.out _).below (below_drewN (Below.refl _ _) _), hid (Or.inr ⟨by omega, by omega, by rw [HKQ.out, HQ.out]; exact HNB.out.symm⟩), hid (by rw [hST.out, HM.out]; rfl)⟩
                    case measure => simp [intOf]; omega
                  | false =>
                    have HM : Hid (L.mayStand ⟨k1, s1, n1⟩ ((p + 1 : Nat) : Int) bf ⟨k2, s2, n2⟩ = false) := hid (by rw [L.mayStand, if_neg h5'.out, if_neg h9'.out, HIL.out]; simp [L.ltB, hcmp])
                    go_wp2_with (go_at_call 79; refine (HW.out _).mono ?_; rintro e w' ⟨rfl, rfl⟩)
                    go_quiet (fail)
                    go_wp2
                    go_ret
                    exact ⟨ret_bool (by rw [hST.out, HM.out]; rfl), below_drewN (HBN.out _) _⟩
      · obtain rfl : k = ks.length := by omega
        go_wp2
        go_ret
        refine ⟨ret_bool ?_, hB⟩
        rw [← hE.out, List.drop_length, L.standAt]

end Go.Proofs.Ytkkigdbinnfbfaa
end

section
/-
  The walk of the reference's Right: it tells just what ty.Right does. Condition: a slice that reads as nodes, labels of at most 2000000 bytes.
-/
namespace Go.Proofs.Ytkkigdbinnfbfaa
open Go.RowKit

theorem few_of {l : List L.Nd} (hl : l.length ≤ 10000) (h : l.all L.numbered = true) : Few l := ⟨by omega, fun x hx => L.many_of_numbered (List.all_eq_true.1 h x hx)⟩

set_option maxHeartbeats 4000000 in
set_option maxRecDepth 100000 in
theorem refRight_any (l : List L.Nd) (hnm : ∀ x ∈ l, x.name.size ≤ 9223372036854775807) (v : Value) (w : World) (hx : Rd w w.heap.size v l) :
    Calls Try.prog 26 #[v] w fun e w' => e = .returned (.bool (L.rightL l)) ∧ Below w.heap.size w w' := by
  rw [← L.rightR_eq]
  have HX := hid hx
  have HNM := hid hnm
  obtain ⟨A, cap, rfl, hl1, hl2, -, hcx⟩ := hx
  unfold maxLen at hl2
  have HCX := hid hcx
  clear hcx hnm
  by_cases h0 : l = []
  · subst h0
    go_enter Try.func26, Try.ntmps26
    go_wp2
    go_ret
    exact ⟨rfl, Below.refl _ _⟩
  have hpos : 0 < l.length := List.length_pos_iff.2 h0
  have e0 : ((l.length : Int) == 0) = false := by simp; omega
  have hl0 : ∃ r, l = l[0] :: r := by
    cases l with
    | nil => exact absurd rfl h0
    | cons x r => exact ⟨r, rfl⟩
  have HR : Hid (L.rightR l = (decide (l.length ≤ 10000) && (L.bare l[0] && (l.all L.numbered && (decide (L.eat 1 l = l.length) && (L.shal [] l && (List.range l.length).all (L.labR l))))))) := hid (by
    obtain ⟨r, hr⟩ := hl0
    generalize l[0] = y at hr ⊢
    subst hr
    rfl)
  clear hl0
  by_cases hbig : 10000 < l.length
  · have HZ : Hid (L.rightR l = false) := hid (by rw [HR.out]; simp; omega)
    go_enter Try.func26, Try.ntmps26
    go_wp2
    go_ret
    exact ⟨ret_bool HZ.out.symm, Below.refl _ _⟩
  have hbig2 : l.length ≤ 10000 := by omega
  obtain ⟨b, o, rfl, hb, hcx⟩ := HCX.out h0
  obtain ⟨x0, x1, x2⟩ := hcx 0 hpos
  clear hcx
  simp only [Nat.zero_mul, Nat.add_zero] at x0 x1 x2
  generalize l[0] = X at *
  obtain ⟨k1, s1, n1⟩ := X
  have he := eqS s1 ⟨#[]⟩
  by_cases hs0 : s1.size = 0
  case neg =>
    have HZ : Hid (L.rightR l = false) := hid (by rw [HR.out]; simp [L.bare, hs0])
    have hne := ne_empty (show 0 < s1.size by omega)
    clear he
    go_enter Try.func26, Try.ntmps26
    go_wp2
    go_ret
    exact ⟨ret_bool HZ.out.symm, Below.refl _ _⟩
  case pos =>
    have hne := is_empty hs0
    clear he
    by_cases h9 : k1 = 9
    · have HZ : Hid (L.rightR l = false) := hid (by rw [HR.out]; simp [L.bare, h9])
      have z9 : (k1 == 9) = true := by simp [h9]
      clear h9
      go_enter Try.func26, Try.ntmps26
      go_wp2
      go_ret
      exact ⟨ret_bool HZ.out.symm, Below.refl _ _⟩
    have z9 : (k1 == 9) = false := by simp; omega
    have HR2 : Hid (L.rightR l = (l.all L.numbered && (decide (L.eat 1 l = l.length) && (L.shal [] l && (List.range l.length).all (L.labR l))))) := hid (by rw [HR.out]; simp [L.bare, hs0, h9, hbig2])
    clear hs0 h9
    go_enter Try.func26, Try.ntmps26
    go_wp2
    go_loopw [3] (fun vi wr => ∃ k : Nat, vi = .int .i64 k ∧ k ≤ l.length ∧ Below w.heap.size w wr ∧ Hid (∀ (j : Nat) (h : j < l.length), j < k → L.numbered l[j] = true)) (fun vi _ => l.length - (intOf vi).toNat)
    case atStart => exact ⟨0, rfl, by omega, Below.refl _ _, hid fun j _ h => by omega⟩
    case round =>
      obtain ⟨k, rfl, hk, hB, hS⟩ := hrel
      have hbw := hB.size
      by_cases hlt : k < l.length
      · obtain ⟨b', o', hA, hb', hcx⟩ := HCX.out h0
        simp only [Option.some.injEq, Addr.mk.injEq, and_true] at hA
        obtain ⟨rfl, rfl⟩ := hA
        obtain ⟨y0, y1, y2⟩ := hcx k hlt
        have ey : ∀ j, wr.cell? ⟨b, j, none⟩ = w.cell? ⟨b, j, none⟩ := fun j => hB.cell (p := ⟨b, j, none⟩) hb
        rw [← ey] at y0 y1 y2
        have HNX : Hid (∀ b, L.numbered l[k] = b → (b = false → L.rightR l = false)) := hid fun b hb' hbf => by
          rw [HR2.out]
          have : l.all L.numbered = false := by
            rw [List.all_eq_false]
            exact ⟨_, List.getElem_mem hlt, by rw [hb', hbf]; simp⟩
          rw [this]
          rfl
        have HNY : Hid (L.numbered l[k] = true → ∀ (j : Nat) (h : j < l.length), j < k + 1 → L.numbered l[j] = true) := hid fun hh j hj hjk => by
          rcases Nat.lt_or_ge j k with h | h
          · exact hS.out j hj h
          · have : j = k := by omega
            subst this
            exact hh
        clear hcx ey
        generalize l[k] = Y at *
        obtain ⟨k2, s2, n2⟩ := Y
        have HU := hid (refNumbered_any k2 n2 s2 wr)
        cases hnum : L.numbered ⟨k2, s2, n2⟩ with
        | false =>
          rw [hnum] at HU
          have HZ := hid (HNX.out _ hnum rfl)
          go_wp2_with fail
          refine (HU.out).mono ?_
          rintro e w1 ⟨rfl, hb1⟩
          go_wp2
          go_ret
          exact ⟨ret_bool HZ.out.symm, hB.trans (hb1.mono hbw)⟩
        | true =>
          rw [hnum] at HU
          have HZ := hid (HNY.out hnum)
          go_wp2_with fail
          refine (HU.out).mono ?_
          rintro e w1 ⟨rfl, hb1⟩
          go_wp2
          go_roundw
          case rel => exact ⟨k + 1, by go_num, by omega, hB.trans (hb1.mono hbw), HZ⟩
          case measure => simp [intOf]; omega
      · obtain rfl : k = l.length := by omega
        have hall : l.all L.numbered = true := by
          rw [List.all_eq_true]
          intro x hx
          obtain ⟨j, hj, rfl⟩ := List.getElem_of_mem hx
          exact hS.out j hj hj
        have hF := hid (few_of hbig2 hall)
        have HR3 : Hid (L.rightR l = (decide (L.eat 1 l = l.length) && (L.shal [] l && (List.range l.length).all (L.labR l)))) := hid (by rw [HR2.out, hall]; rfl)
        have HXR := hid ((HX.out.below hB).size)
        have HEN := hid (refEnd_any l hF.out _ 0 hpos wr HXR.out)
        rw [List.drop_zero, Nat.zero_add] at HEN
        clear hall
        by_cases heat : L.eat 1 l = l.length
        case neg =>
          have HZ : Hid (L.rightR l = false) := hid (by rw [HR3.out]; simp [heat])
          have hez : ((L.eat 1 l : Int) != (l.length : Int)) = true := by simp; omega
          generalize L.eat 1 l = E at *
          go_wp2_with fail
          refine (HEN.out).mono ?_
          rintro e w1 ⟨rfl, hb1⟩
          go_wp2
          go_ret
          exact ⟨ret_bool HZ.out.symm, hB.trans (hb1.mono hbw)⟩
        case pos =>
          have HR4 : Hid (L.rightR l = (L.shal [] l && (List.range l.length).all (L.labR l))) := hid (by rw [HR3.out]; simp [heat])
          rw [heat] at HEN
          have HSH := hid fun W hW => shallow_any l hF.out (.slice (some ⟨b, o, none⟩) l.length cap) W hW
          clear heat
          cases hsh : L.shal [] l with
          | false =>
            rw [hsh] at HSH
            have HZ : Hid (L.rightR l = false) := hid (by rw [HR4.out, hsh]; rfl)
            go_wp2_with fail
            refine (HEN.out).mono ?_
            rintro e w1 ⟨rfl, hb1⟩
            have hB1 : Below w.heap.size w w1 := hB.trans (hb1.mono hbw)
            have HS1 := hid (HSH.out w1 ((HX.out.below hB1).size))
            go_wp2_with fail
            refine (HS1.out).mono ?_
            rintro e w2 ⟨rfl, hb2⟩
            go_wp2
            go_ret
            exact ⟨ret_bool HZ.out.symm, hB1.trans (hb2.mono hB1.size)⟩
          | true =>
            rw [hsh] at HSH
            have HR5 : Hid (L.rightR l = (List.range l.length).all (L.labR l)) := hid (by rw [HR4.out, hsh]; rfl)
            clear hsh
            go_wp2_with fail
            refine (HEN.out).mono ?_
            rintro e w1 ⟨rfl, hb1⟩
            have hB1 : Below w.heap.size w w1 := hB.trans (hb1.mono hbw)
            have HS1 := hid (HSH.out w1 ((HX.out.below hB1).size))
            go_wp2_with fail
            refine (HS1.out).mono ?_
            rintro e w2 ⟨rfl, hb2⟩
            have hB2 : Below w.heap.size w w2 := hB1.trans (hb2.mono hB1.size)
            clear hb1 hb2 hB1
            go_wp2
            go_loopw [4] (fun vi wr => ∃ k : Nat, vi = .int .i64 k ∧ k ≤ l.length ∧ Below w.heap.size w wr ∧ Hid (∀ j, j < k → L.labR l j = true)) (fun vi _ => l.length - (intOf vi).toNat)
            case atStart => exact ⟨0, rfl, by omega, hB2, hid fun j h => by omega⟩
            case round =>
              obtain ⟨k, rfl, hk, hB3, hS3⟩ := hrel
              have hbw3 := hB3.size
              by_cases hlt : k < l.length
              · have HLB := hid (labelled_ref l hF.out HNM.out k hlt _ _ ((HX.out.below hB3).size))
                cases hlb : L.labR l k with
                | false =>
                  rw [hlb] at HLB
                  have HZ : Hid (L.rightR l = false) := hid (by
                    rw [HR5.out, List.all_eq_false]
                    exact ⟨k, by simpa using hlt, by rw [hlb]; simp⟩)
                  go_wp2_with fail
                  refine (HLB.out).mono ?_
                  rintro e w3 ⟨rfl, hb3⟩
                  go_wp2
                  go_ret
                  exact ⟨ret_bool HZ.out.symm, hB3.trans (hb3.mono hbw3)⟩
                | true =>
                  rw [hlb] at HLB
                  have HZ : Hid (∀ j, j < k + 1 → L.labR l j = true) := hid fun j hj => by
                    rcases Nat.lt_or_ge j k with h | h
                    · exact hS3.out j h
                    · have : j = k := by omega
                      subst this
                      exact hlb
                  clear hlb
                  go_wp2_with fail
                  refine (HLB.out).mono ?_
                  rintro e w3 ⟨rfl, hb3⟩
                  go_wp2
                  go_roundw
                  case rel => exact ⟨k + 1, by go_num, by omega, hB3.trans (hb3.mono hbw3), HZ⟩
                  case measure => simp [intOf]; omega
              · obtain rfl : k = l.length := by omega
                have HZ : Hid (L.rightR l = true) := hid (by
                  rw [HR5.out, List.all_eq_true]
                  exact fun j hj => hS3.out j (by simpa using hj))
                go_wp2
                go_ret
                exact ⟨ret_bool HZ.out.symm, hB3⟩

end Go.Proofs.Ytkkigdbinnfbfaa
end

section
/-
  How a node is printed, plain. No conditions but those that each lemma names.
-/
namespace Go.Proofs.Ytkkigdbinnfbfaa.L
open Go

def str (s : String) : List UInt8 := s.toUTF8.data.toList

/-- What is ahead of the children, between them, and behind. -/
def first (x : Nd) : List UInt8 :=
  if x.kind = 0 then [63] else if x.kind = 1 then [105, 110, 116] else if x.kind = 2 then [98, 111, 111, 108] else if x.kind = 3 then [115, 116, 114, 105, 110, 103] else if x.kind = 4 then [117, 110, 105, 116]
  else if x.kind = 6 then [123] else if x.kind = 7 then [91] else if x.kind = 8 then 39 :: Lib.itoa x.n else if x.kind = 9 then 46 :: 46 :: Lib.itoa x.n else []
def betw (kind : Int) : List UInt8 := if kind = 5 then [32, 45, 62, 32] else if kind = 6 then [44, 32] else if kind = 7 then [32, 124, 32] else []
def last (kind : Int) : List UInt8 := if kind = 6 then [125] else if kind = 7 then [93] else []

end Go.Proofs.Ytkkigdbinnfbfaa.L
namespace Go.Proofs.Ytkkigdbinnfbfaa

theorem ba_append (a b : List UInt8) : (⟨a.toArray⟩ : ByteArray) ++ ⟨b.toArray⟩ = ⟨(a ++ b).toArray⟩ := by
  apply ByteArray.ext
  simp

end Go.Proofs.Ytkkigdbinnfbfaa
end

section
/-
  How a tree is printed, plain, and how long its parts are. No conditions but those that each lemma names.
-/
namespace Go.Proofs.Ytkkigdbinnfbfaa.L
open Go

def lab (x : Nd) : List UInt8 := if x.name.size = 0 then [] else x.name.data.toList ++ [58, 32]
def opn (p : Bool) (x : Nd) : List UInt8 := (if p then [40] else []) ++ first x
def cls (p : Bool) (kind : Int) : List UInt8 := last kind ++ (if p then [41] else [])
/-- Does the k-th child of a node of kind pk stand in brackets? -/
def par (pk : Int) (k : Nat) (x : Nd) : Bool := decide (k = 0) && (decide (pk = 5) && decide (x.kind = 5))

/-- Trees, as the children of a node of kind pk from number k on are printed. -/
def prs : Fo → Int → Nat → List UInt8
  | .nil, _, _ => []
  | .cons x ks r, pk, k => (if 0 < k then betw pk else []) ++ (lab x ++ (opn (par pk k x) x ++ (prs ks x.kind 0 ++ (cls (par pk k x) x.kind ++ prs r pk (k + 1)))))

/-- A tree, printed, in brackets or not. -/
def prT (p : Bool) (x : Nd) (ks : Fo) : List UInt8 := lab x ++ (opn p x ++ (prs ks x.kind 0 ++ cls p x.kind))

theorem prs_cons (x : Nd) (ks r : Fo) (pk : Int) (k : Nat) : prs (.cons x ks r) pk k = (if 0 < k then betw pk else []) ++ (prT (par pk k x) x ks ++ prs r pk (k + 1)) := by
  simp [prs, prT]

end Go.Proofs.Ytkkigdbinnfbfaa.L
namespace Go.Proofs.Ytkkigdbinnfbfaa

theorem kind_of {x : L.Nd} (h : L.numbered x = true) : (0 ≤ x.kind ∧ x.kind ≤ 9) ∧ (x.kind = 8 ∨ x.kind = 9 → 0 ≤ x.n) := by
  unfold L.numbered at h
  repeat' split at h
  all_goals simp at h
  all_goals omega

theorem first_len {x : L.Nd} (h0 : x.kind = 8 ∨ x.kind = 9 → 0 ≤ x.n) (h1 : x.n ≤ 9223372036854775807) : (L.first x).length ≤ 23 := by
  unfold L.first
  repeat' split
  all_goals first
    | (simp; done)
    | (have := Lib.itoa_length_le x.n (by omega) h1; simp; omega)
theorem betw_len (k : Int) : (L.betw k).length ≤ 4 := by
  unfold L.betw
  repeat' split
  all_goals simp
theorem last_len (k : Int) : (L.last k).length ≤ 1 := by
  unfold L.last
  repeat' split
  all_goals simp

end Go.Proofs.Ytkkigdbinnfbfaa
end

section
/-
  How long a print is. Conditions: a right tree, labels of at most 200 bytes, numbers below 2^63.
-/
namespace Go.Proofs.Ytkkigdbinnfbfaa
open Go.RowKit

def Short (l : List L.Nd) : Prop := ∀ x ∈ l, x.name.size ≤ 200 ∧ x.n ≤ 9223372036854775807

theorem lab_len {x : L.Nd} (h : x.name.size ≤ 200) : (L.lab x).length ≤ 202 := by
  unfold L.lab
  split
  · simp
  · have : x.name.data.toList.length = x.name.size := by simp
    simp only [List.length_append, this, List.length_cons, List.length_nil]
    omega
theorem opn_len {p : Bool} {x : L.Nd} (h0 : x.kind = 8 ∨ x.kind = 9 → 0 ≤ x.n) (h1 : x.n ≤ 9223372036854775807) : (L.opn p x).length ≤ 24 := by
  have := first_len h0 h1
  unfold L.opn
  rw [List.length_append]
  split <;> simp only [List.length_cons, List.length_nil] <;> omega
theorem cls_len (p : Bool) (k : Int) : (L.cls p k).length ≤ 2 := by
  have := last_len k
  unfold L.cls
  rw [List.length_append]
  split <;> simp only [List.length_cons, List.length_nil] <;> omega

theorem prs_len : ∀ (f : L.Fo) (pk : Int) (k : Nat), f.ok = true → Short f.flat → (L.prs f pk k).length ≤ f.flat.length * 300
  | .nil, _, _, _, _ => by simp [L.prs]
  | .cons x ks r, pk, k, ho, hs => by
    simp only [L.Fo.ok, Bool.and_eq_true] at ho
    have h1 := prs_len ks x.kind 0 ho.1.2 (fun y hy => hs y (by simp [L.Fo.flat, hy]))
    have h2 := prs_len r pk (k + 1) ho.2 (fun y hy => hs y (by simp [L.Fo.flat, hy]))
    obtain ⟨h3, h4⟩ := hs x (by simp [L.Fo.flat])
    have h5 := (kind_of ho.1.1.1.1).2
    have h6 := lab_len h3
    have h7 := opn_len (p := L.par pk k x) h5 h4
    have h8 := cls_len (L.par pk k x) x.kind
    have h9 : (if 0 < k then L.betw pk else []).length ≤ 4 := by
      split
      · exact betw_len pk
      · simp
    simp only [L.prs, L.Fo.flat, List.length_append, List.length_cons]
    omega

theorem prT_len {x : L.Nd} {ks : L.Fo} {p : Bool} (ho : (L.Fo.cons x ks .nil).ok = true) (hs : Short (x :: ks.flat)) : (L.prT p x ks).length ≤ (ks.flat.length + 1) * 300 := by
  simp only [L.Fo.ok, Bool.and_true, Bool.and_eq_true] at ho
  have h1 := prs_len ks x.kind 0 ho.2 (fun y hy => hs y (by simp [hy]))
  obtain ⟨h3, h4⟩ := hs x (by simp)
  have h5 := (kind_of ho.1.1.1).2
  have h6 := lab_len h3
  have h7 := opn_len (p := p) h5 h4
  have h8 := cls_len p x.kind
  simp only [L.prT, List.length_append]
  omega

theorem prT_ne {x : L.Nd} {ks : L.Fo} {p : Bool} (ho : (L.Fo.cons x ks .nil).ok = true) : L.prT p x ks ≠ [] := by
  simp only [L.Fo.ok, Bool.and_true, Bool.and_eq_true, decide_eq_true_eq] at ho
  obtain ⟨⟨⟨h1, h2⟩, -⟩, -⟩ := ho
  have hk := (kind_of h1).1
  by_cases h5 : x.kind = 5
  · have hm : L.many x = 2 := by unfold L.many; simp [h5]
    cases ks with
    | nil => simp [L.Fo.count, hm] at h2
    | cons y k1 r =>
      cases r with
      | nil => simp [L.Fo.count, hm] at h2
      | cons z k2 r =>
        intro h
        have := congrArg List.length h
        simp [L.prT, L.prs, L.betw, h5] at this
  · intro h
    have h9 : L.first x = [] := by
      simp only [L.prT, L.opn, List.append_eq_nil_iff] at h
      exact h.2.1.2
    unfold L.first at h9
    repeat' split at h9
    all_goals first
      | (simp at h9; done)
      | omega

end Go.Proofs.Ytkkigdbinnfbfaa
end

section
/-
  What the type of a function of two right types is: right, if it is not too deep, and its children, its parts, its print, and whether it is static or plain. No machine here.
-/
namespace Go.Proofs.Ytkkigdbinnfbfaa
open Go.RowKit

def arr (la lb : List L.Nd) : List L.Nd := ⟨5, ⟨#[]⟩, 0⟩ :: (la ++ lb)
def arrK (x : L.Nd) (ka : L.Fo) (y : L.Nd) (kb : L.Fo) : L.Fo := .cons x ka (.cons y kb .nil)

theorem deep_le : ∀ f : L.Fo, f.deep ≤ f.flat.length
  | .nil => by simp [L.Fo.deep]
  | .cons x ks r => by
    have h1 := deep_le ks
    have h2 := deep_le r
    simp only [L.Fo.deep, L.Fo.flat, List.length_cons, List.length_append]
    omega

theorem bare_name {x : L.Nd} (h : L.bare x = true) : x.name = ⟨#[]⟩ := by
  simp only [L.bare, Bool.and_eq_true, decide_eq_true_eq] at h
  exact ByteArray.ext (Array.eq_empty_of_size_eq_zero h.1)

theorem arr_flat (x : L.Nd) (ka : L.Fo) (y : L.Nd) (kb : L.Fo) : (arrK x ka y kb).flat = (x :: ka.flat) ++ (y :: kb.flat) := by
  simp [arrK, L.Fo.flat]

theorem arr_ok {x y : L.Nd} {ka kb : L.Fo} (h1 : (L.Fo.cons x ka .nil).ok = true) (h2 : (L.Fo.cons y kb .nil).ok = true) (b1 : L.bare x = true) (b2 : L.bare y = true) :
    (L.Fo.cons ⟨5, ⟨#[]⟩, 0⟩ (arrK x ka y kb) .nil).ok = true := by
  have hn : L.numbered ⟨5, ⟨#[]⟩, 0⟩ = true := by decide
  have hm : L.many ⟨5, ⟨#[]⟩, 0⟩ = 2 := by decide
  simp only [L.Fo.ok, Bool.and_true, Bool.and_eq_true] at h1 h2
  simp only [L.Fo.ok, arrK, L.Fo.count, L.Fo.stand, L.mayStand, hn, hm, b1, b2, h1, h2, Bool.and_true, Bool.and_self, Bool.true_and, if_true]
  simp

theorem arr_right {x y : L.Nd} {ka kb : L.Fo} (h1 : (L.Fo.cons x ka .nil).ok = true) (h2 : (L.Fo.cons y kb .nil).ok = true) (b1 : L.bare x = true) (b2 : L.bare y = true) (n1 : (x :: ka.flat).length ≤ 60) (n2 : (y :: kb.flat).length ≤ 60) :
    L.rightL (arr (x :: ka.flat) (y :: kb.flat)) = true := by
  refine (L.rightL_iff _).2 ⟨⟨5, ⟨#[]⟩, 0⟩, arrK x ka y kb, by rw [arr_flat]; rfl, by simp only [arr, List.length_cons, List.length_append] at *; omega, by decide, arr_ok h1 h2 b1 b2, ?_⟩
  have d1 := deep_le ka
  have d2 := deep_le kb
  simp only [arrK, L.Fo.deep, List.length_cons] at *
  omega

theorem arr_print {x y : L.Nd} {ka kb : L.Fo} (b1 : L.bare x = true) :
    L.prT false ⟨5, ⟨#[]⟩, 0⟩ (arrK x ka y kb) = (if x.kind = 5 then [40] ++ L.prT false x ka ++ [41] else L.prT false x ka) ++ ([32, 45, 62, 32] ++ L.prT false y kb) := by
  have e0 : L.lab ⟨5, ⟨#[]⟩, 0⟩ = [] := by decide
  have e1 : L.lab x = [] := by unfold L.lab; rw [bare_name b1]; rfl
  rw [L.prT, e0, arrK, L.prs_cons, L.prs_cons, L.prs]
  have p1 : L.par 5 1 y = false := rfl
  by_cases h : x.kind = 5
  · have p0 : L.par 5 0 x = true := by simp [L.par, h]
    rw [p0, p1, if_pos h]
    simp [L.prT, L.opn, L.cls, e1, L.first, L.betw, L.last]
  · have p0 : L.par 5 0 x = false := by simp [L.par, h]
    rw [p0, p1, if_neg h]
    simp [L.opn, L.cls, L.first, L.betw, L.last]

theorem setName_bare {x : L.Nd} (r : List L.Nd) (b : L.bare x = true) : L.setName (x :: r) ⟨#[]⟩ = x :: r := by
  have := bare_name b
  obtain ⟨k, s, n⟩ := x
  simp only at this
  subst this
  rfl

theorem arr_drop1 (la lb : List L.Nd) : (arr la lb).drop 1 = la ++ lb := rfl
theorem arr_drop2 (la lb : List L.Nd) : (arr la lb).drop (1 + la.length) = lb := by
  rw [arr, Nat.add_comm, List.drop_succ_cons, List.drop_left]

theorem arr_kids {x y : L.Nd} {ka kb : L.Fo} (h1 : (L.Fo.cons x ka .nil).ok = true) :
    L.kidsL (arr (x :: ka.flat) (y :: kb.flat)) 2 1 = [1, 1 + (x :: ka.flat).length] := by
  have e1 : L.eat 1 ((arr (x :: ka.flat) (y :: kb.flat)).drop 1) = (x :: ka.flat).length := by
    rw [arr_drop1, List.cons_append, L.eat_tree h1, List.length_cons]
  rw [L.kidsL, if_pos (by simp [arr]), e1, L.kidsL, if_pos (by simp [arr]; omega), L.kidsL]

theorem arr_part1 {x : L.Nd} {ka : L.Fo} (lb : List L.Nd) (h1 : (L.Fo.cons x ka .nil).ok = true) (b1 : L.bare x = true) : L.partL (arr (x :: ka.flat) lb) 1 = x :: ka.flat := by
  rw [L.partL, arr_drop1, List.cons_append, L.eat_tree h1, ← List.cons_append, List.take_left' (by simp), setName_bare _ b1]
theorem arr_part2 {y : L.Nd} {kb : L.Fo} (la : List L.Nd) (h2 : (L.Fo.cons y kb .nil).ok = true) (b2 : L.bare y = true) : L.partL (arr la (y :: kb.flat)) (1 + la.length) = y :: kb.flat := by
  have := L.eat_tree h2 []
  rw [List.append_nil] at this
  rw [L.partL, arr_drop2, this, List.take_of_length_le (by simp), setName_bare _ b2]

theorem arr_static (la lb : List L.Nd) : L.staticL (arr la lb) = (L.staticL la && L.staticL lb) := by
  simp [L.staticL, arr, L.dynN, List.any_append, Bool.not_or]
theorem arr_plain (la lb : List L.Nd) : L.plainL (arr la lb) = (L.plainL la && L.plainL lb) := by
  simp [L.plainL, arr, L.varN, List.any_append, Bool.not_or]

end Go.Proofs.Ytkkigdbinnfbfaa
end

section
/-
  Types that are alike are printed alike. No machine here.
-/
namespace Go.Proofs.Ytkkigdbinnfbfaa
open Go.RowKit

theorem same_parts {x y : L.Nd} (h : L.sameN x y = true) : x.kind = y.kind ∧ x.name = y.name ∧ (x.n = y.n ∨ x.kind = 0) := (L.sameN_iff x y).1 h

theorem same_first {x y : L.Nd} (h : L.sameN x y = true) : L.first x = L.first y := by
  obtain ⟨h1, -, h3⟩ := same_parts h
  obtain ⟨k, s, n⟩ := x
  obtain ⟨k2, s2, n2⟩ := y
  simp only at h1 h3
  subst h1
  unfold L.first
  rcases h3 with h3 | h3
  · subst h3; rfl
  · subst h3; rfl

theorem same_lab {x y : L.Nd} (h : L.sameN x y = true) : L.lab x = L.lab y := by
  unfold L.lab
  rw [(same_parts h).2.1]

theorem same_many {x y : L.Nd} (h : L.sameN x y = true) : L.many x = L.many y := by
  obtain ⟨h1, -, h3⟩ := same_parts h
  obtain ⟨k, s, n⟩ := x
  obtain ⟨k2, s2, n2⟩ := y
  simp only at h1 h3
  subst h1
  unfold L.many
  rcases h3 with h3 | h3
  · subst h3; rfl
  · subst h3; rfl

/-- Rows of as many trees, alike node by node: their prints are the same, and what stands behind them is alike. -/
theorem prs_same : ∀ (f g : L.Fo) (pk : Int) (k : Nat) (r1 r2 : List L.Nd), f.ok = true → g.ok = true → f.count = g.count → L.sameL (f.flat ++ r1) (g.flat ++ r2) = true → L.prs f pk k = L.prs g pk k ∧ L.sameL r1 r2 = true
  | .nil, .nil, _, _, _, _, _, _, _, h => ⟨rfl, by simpa [L.Fo.flat] using h⟩
  | .nil, .cons _ _ _, _, _, _, _, _, _, hc, _ => by simp [L.Fo.count] at hc
  | .cons _ _ _, .nil, _, _, _, _, _, _, hc, _ => by simp [L.Fo.count] at hc
  | .cons x ks r, .cons y ls s, pk, k, r1, r2, ho, hp, hc, h => by
    simp only [L.Fo.ok, Bool.and_eq_true, decide_eq_true_eq] at ho hp
    simp only [L.Fo.count, Nat.add_right_cancel_iff] at hc
    simp only [L.Fo.flat, List.cons_append, L.sameL, Bool.and_eq_true, List.append_assoc] at h
    obtain ⟨hxy, h⟩ := h
    have hm := same_many hxy
    have e1 : ks.count = ls.count := by have := ho.1.1.1.2; have := hp.1.1.1.2; omega
    obtain ⟨h1, h2⟩ := prs_same ks ls x.kind 0 (r.flat ++ r1) (s.flat ++ r2) ho.1.2 hp.1.2 e1 h
    obtain ⟨h3, h4⟩ := prs_same r s pk (k + 1) r1 r2 ho.2 hp.2 hc h2
    refine ⟨?_, h4⟩
    have hk := (same_parts hxy).1
    have hpar : L.par pk k x = L.par pk k y := by unfold L.par; rw [hk]
    rw [L.prs, L.prs, h1, h3, same_lab hxy, hpar]
    unfold L.opn
    rw [same_first hxy, hk]

theorem print_same {x y : L.Nd} {ka kb : L.Fo} (h1 : (L.Fo.cons x ka .nil).ok = true) (h2 : (L.Fo.cons y kb .nil).ok = true) (h : L.sameL (x :: ka.flat) (y :: kb.flat) = true) : L.prT false x ka = L.prT false y kb := by
  have := (prs_same (.cons x ka .nil) (.cons y kb .nil) 0 0 [] [] h1 h2 rfl (by simpa [L.Fo.flat] using h)).1
  rw [L.prs_cons, L.prs_cons] at this
  have p1 : ∀ z, L.par 0 0 z = false := fun z => by simp [L.par]
  simpa [p1, L.prs] using this

end Go.Proofs.Ytkkigdbinnfbfaa
end

section
/-
  Plain right types that are printed alike are alike. No machine here.
-/
namespace Go.Proofs.Ytkkigdbinnfbfaa
open Go.RowKit

theorem name_bytes {lo hi : Int} {s : ByteArray} (hl : (lo = 97 ∧ hi = 122) ∨ (lo = 65 ∧ hi = 90)) (h : nameB lo hi s = true) :
    (∃ c t, s.data.toList = c :: t ∧ c ≠ 125 ∧ c ≠ 93 ∧ c ≠ 44 ∧ c ≠ 32) ∧ ∀ b ∈ s.data.toList, b ≠ 58 := by
  simp only [nameB, Bool.and_eq_true, decide_eq_true_eq] at h
  obtain ⟨h0, h1, h2⟩ := h
  have hlen : s.data.toList.length = s.size := by simp
  have at_ : ∀ i (hi : i < s.data.toList.length), (s.data.toList[i]).toNat = byteAt s i := fun i hi => byteAt_eq s i (by omega)
  have hb0 : 65 ≤ byteAt s 0 ∧ byteAt s 0 ≤ 122 ∧ byteAt s 0 ≠ 93 := by
    simp only [inB, Bool.and_eq_true, decide_eq_true_eq] at h1
    omega
  constructor
  · cases hs : s.data.toList with
    | nil => rw [hs] at hlen; simp at hlen; omega
    | cons c t =>
      have h := at_ 0 (by omega)
      have hc : c.toNat = byteAt s 0 := by
        rw [← h]
        simp [hs]
      refine ⟨c, t, rfl, ?_, ?_, ?_, ?_⟩ <;> (rintro rfl; simp at hc; omega)
  · intro b hb hb58
    obtain ⟨i, hi, rfl⟩ := List.getElem_of_mem hb
    have h := at_ i hi
    rw [hb58] at h
    have h58 : byteAt s i = 58 := by rw [← h]; rfl
    by_cases hi0 : i = 0
    · subst hi0; omega
    · have := allB_bad s s.size 1 i (by omega) (by omega) (by omega) (by rw [h58]; decide)
      rw [this] at h2
      cases h2

theorem label_bytes {k : Int} {s : ByteArray} (h : L.isLabel k s = true) : (∃ c t, s.data.toList = c :: t ∧ c ≠ 125 ∧ c ≠ 93 ∧ c ≠ 44 ∧ c ≠ 32) ∧ ∀ b ∈ s.data.toList, b ≠ 58 := by
  simp only [L.isLabel, Bool.or_eq_true, Bool.and_eq_true, decide_eq_true_eq] at h
  rcases h with h | h
  · exact name_bytes (Or.inl ⟨rfl, rfl⟩) h.2
  · exact name_bytes (Or.inr ⟨rfl, rfl⟩) h.2

/-- Two texts without a 58, each with one behind: they are the same. -/
theorem cut58 : ∀ {a b : List UInt8} {r s : List UInt8}, (∀ x ∈ a, x ≠ 58) → (∀ x ∈ b, x ≠ 58) → a ++ 58 :: r = b ++ 58 :: s → a = b ∧ r = s
  | [], [], _, _, _, _, h => ⟨rfl, by simpa using h⟩
  | [], y :: b, _, _, _, hb, h => by
    simp only [List.nil_append, List.cons_append, List.cons.injEq] at h
    exact absurd h.1.symm (hb y (by simp))
  | x :: a, [], _, _, ha, _, h => by
    simp only [List.nil_append, List.cons_append, List.cons.injEq] at h
    exact absurd h.1 (ha x (by simp))
  | x :: a, y :: b, _, _, ha, hb, h => by
    simp only [List.cons_append, List.cons.injEq] at h
    obtain ⟨h1, h2⟩ := cut58 (fun z hz => ha z (by simp [hz])) (fun z hz => hb z (by simp [hz])) h.2
    exact ⟨by rw [h.1, h1], h2⟩

def body (p : Bool) (x : L.Nd) (ks : L.Fo) : List UInt8 := L.opn p x ++ (L.prs ks x.kind 0 ++ L.cls p x.kind)
theorem prT_body (p : Bool) (x : L.Nd) (ks : L.Fo) : L.prT p x ks = L.lab x ++ body p x ks := rfl

/-- No 32 45 comes first. -/
def noArr (r : List UInt8) : Prop := ∀ t, r ≠ 32 :: 45 :: t

/-- A tree that is right, without variables. -/
def Pl (x : L.Nd) (ks : L.Fo) : Prop := (L.Fo.cons x ks .nil).ok = true ∧ ∀ z ∈ x :: ks.flat, z.kind ≠ 8 ∧ z.kind ≠ 9

/-- Alike, but for the label. -/
def Alike (x : L.Nd) (ks : L.Fo) (y : L.Nd) (ls : L.Fo) : Prop := x.kind = y.kind ∧ (x.n = y.n ∨ x.kind = 0) ∧ L.sameL ks.flat ls.flat = true ∧ ks.count = ls.count

theorem many_small {x : L.Nd} (h : x.kind = 0 ∨ x.kind = 1 ∨ x.kind = 2 ∨ x.kind = 3 ∨ x.kind = 4) : L.many x = 0 := by
  obtain ⟨k, s, n⟩ := x
  simp only at h
  rcases h with rfl | rfl | rfl | rfl | rfl <;> rfl
theorem many_arrow {x : L.Nd} (h : x.kind = 5) : L.many x = 2 := by
  obtain ⟨k, s, n⟩ := x
  simp only at h
  subst h
  rfl
theorem many_row {x : L.Nd} (h : x.kind = 6 ∨ x.kind = 7) : L.many x = x.n := by
  obtain ⟨k, s, n⟩ := x
  simp only at h
  rcases h with rfl | rfl <;> rfl
theorem n_zero {x : L.Nd} (hn : L.numbered x = true) (h : x.kind = 1 ∨ x.kind = 2 ∨ x.kind = 3 ∨ x.kind = 4 ∨ x.kind = 5) : x.n = 0 := by
  obtain ⟨k, s, n⟩ := x
  simp only at h
  rcases h with rfl | rfl | rfl | rfl | rfl <;> simpa [L.numbered] using hn

end Go.Proofs.Ytkkigdbinnfbfaa
end

section
/-
  Plain lists: where the children of a tree stand, what one of them is alone, and how the reference prints a tree: its body, without its label. No conditions but those that each lemma names.
-/
namespace Go.Proofs.Ytkkigdbinnfbfaa.L
open Go

/-- Where the trees of a row stand, from place p on. -/
def posF : Fo → Nat → List Nat
  | .nil, _ => []
  | .cons _ k r, p => p :: posF r (p + (k.flat.length + 1))

theorem posF_length : ∀ (f : Fo) (p : Nat), (posF f p).length = f.count
  | .nil, _ => rfl
  | .cons _ _ r, p => by simp [posF, Fo.count, posF_length r]

theorem kids_pos (l : List Nd) : ∀ (f : Fo) (p : Nat) (r : List Nd), f.ok = true → l.drop p = f.flat ++ r → kidsL l f.count p = posF f p
  | .nil, _, _, _, _ => rfl
  | .cons y k g, p, r, ho, hd => by
    have ho' := ho
    simp only [Fo.ok, Bool.and_eq_true] at ho
    have hy : (Fo.cons y k .nil).ok = true := by
      simp only [Fo.ok, Bool.and_eq_true, Bool.and_true]
      exact ho.1
    have hd2 : l.drop p = y :: (k.flat ++ (g.flat ++ r)) := by rw [hd]; simp [Fo.flat]
    have hp := (getD_drop hd2).2.1
    have he : eat 1 (l.drop p) = k.flat.length + 1 := by rw [hd2]; exact eat_tree hy _
    have hn : l.drop (p + (k.flat.length + 1)) = g.flat ++ r := by
      have := drop_more (l := l) (a := y :: k.flat) (b := g.flat ++ r) (p := p) (by rw [hd2]; simp)
      simpa using this
    show (if p < l.length then p :: kidsL l g.count (p + eat 1 (l.drop p)) else []) = _
    rw [if_pos hp, he, kids_pos l g _ r ho.2 hn]
    rfl

/-- What stands at the place of child number k of a row: the node, its children, the row behind it. -/
theorem posF_at (l : List Nd) : ∀ (f : Fo) (p : Nat) (r : List Nd) (k : Nat) (hk : k < (posF f p).length), f.ok = true → l.drop p = f.flat ++ r →
    ∃ y ks g, (Fo.cons y ks g).ok = true ∧ l.drop ((posF f p)[k]) = y :: (ks.flat ++ (g.flat ++ r))
  | .nil, _, _, k, hk, _, _ => by simp [posF] at hk
  | .cons y ks g, p, r, 0, _, ho, hd => ⟨y, ks, g, ho, by simpa [posF, Fo.flat] using hd⟩
  | .cons y ks g, p, r, k + 1, hk, ho, hd => by
    have hn : l.drop (p + (ks.flat.length + 1)) = g.flat ++ r := by
      have := drop_more (l := l) (a := y :: ks.flat) (b := g.flat ++ r) (p := p) (by rw [hd]; simp [Fo.flat])
      simpa using this
    have hk' : k < (posF g (p + (ks.flat.length + 1))).length := by simpa [posF] using hk
    simp only [Fo.ok, Bool.and_eq_true] at ho
    obtain ⟨y', ks', g', h1, h2⟩ := posF_at l g _ r k hk' ho.2 hn
    exact ⟨y', ks', g', h1, by simpa [posF] using h2⟩

end Go.Proofs.Ytkkigdbinnfbfaa.L
namespace Go.Proofs.Ytkkigdbinnfbfaa
open Go.RowKit

/-- The body of a row: its opening, its children, its end. -/
theorem body_plain (x : L.Nd) (ks : L.Fo) : body false x ks = L.first x ++ (L.prs ks x.kind 0 ++ L.last x.kind) := by
  simp [body, L.opn, L.cls]

theorem body_par (x : L.Nd) (ks : L.Fo) : body true x ks = [40] ++ (body false x ks ++ [41]) := by
  simp [body, L.opn, L.cls]

end Go.Proofs.Ytkkigdbinnfbfaa
end

section
/-
  The walk of the reference's Print, with figures, word and printed. Conditions: a slice that reads as a right tree of at most 10000 nodes, labels of at most 200 bytes, numbers below 2^63.
-/
namespace Go.Proofs.Ytkkigdbinnfbfaa
open Go.RowKit

theorem wrap_fig (v : Int) (h0 : 0 ≤ v) (h1 : v < 256) : IntKind.u8.wrap v = v := by
  have hm : v % 256 = v := Int.emod_eq_of_lt h0 h1
  unfold IntKind.wrap
  simp [IntKind.bits, IntKind.signed, hm]

theorem fig_byte (W : World) (g : Nat) (v : Int) (h0 : 0 ≤ v) (h1 : v < 256) (hc : W.cell? ⟨g, 0, none⟩ = some (.int .u8 v)) :
    (convert 102 9 (.slice (some ⟨g, 0, none⟩) 1 1)).run Try.prog W = .ok (.string ⟨#[v.toNat.toUInt8]⟩) W := by
  have hv : (v.toNat.toUInt8.toNat : Int) = v := by
    simp
    omega
  have := run_convert_bytes_back (P := Try.prog) W 102 9 5 ⟨g, 0, none⟩ 1 [v.toNat.toUInt8] Try.underlying102 Try.underlying5 Try.underlying9 (fun j hj => by
    match j, hj with
    | 0, _ =>
      show W.cell? ⟨g, 0 + 0, none⟩ = _
      rw [hc]
      simp only [List.getElem_cons_zero, hv])
  exact this

theorem fig_len (c : UInt8) (s : ByteArray) : ((⟨#[c]⟩ : ByteArray) ++ s).data.toList.length = 1 + s.size := by
  rw [Array.length_toList]
  show ((⟨#[c]⟩ : ByteArray) ++ s).size = _
  rw [ByteArray.size_append]
  rfl

theorem dec_step {q : Nat} (h : 9 < q) (s : List UInt8) : Lib.decDigits (q / 10) ++ ((48 + q % 10).toUInt8 :: s) = Lib.decDigits q ++ s := by
  conv => rhs; rw [Lib.decDigits, dif_neg (by omega)]
  simp
theorem dec_last {q : Nat} (h : q ≤ 9) (s : List UInt8) : (48 + q).toUInt8 :: s = Lib.decDigits q ++ s := by
  rw [Lib.decDigits_one (by omega)]
  rfl

set_option maxHeartbeats 2000000 in
set_option maxRecDepth 100000 in
theorem figures_any (n : Int) (h0 : 0 ≤ n) (h1 : n ≤ 9223372036854775807) (w : World) :
    Calls Try.prog 80 #[.int .i64 n] w fun e w' => e = .returned (.string ⟨(Lib.itoa n).toArray⟩) ∧ Below w.heap.size w w' := by
  obtain ⟨u, rfl⟩ : ∃ u : Nat, n = u := ⟨n.toNat, by omega⟩
  have hlen := Lib.itoa_length_le (u : Int) (by omega) h1
  rw [Lib.itoa_nonneg] at hlen ⊢
  have HL := hid hlen
  clear hlen h0
  go_enter Try.func80, Try.ntmps80
  go_wp2
  go_loopw [0, 3] (fun vn vs wr => ∃ (q : Nat) (s : ByteArray), vn = .int .i64 q ∧ vs = .string s ∧ q ≤ u ∧ s.size ≤ 30 ∧ Below w.heap.size w wr ∧ Hid (Lib.decDigits q ++ s.data.toList = Lib.decDigits u)) (fun vn _ _ => (intOf vn).toNat)
  case atStart => exact ⟨u, ⟨#[]⟩, rfl, rfl, Nat.le_refl _, by decide, Below.refl _ _, hid (by simp)⟩
  case round =>
    obtain ⟨q, s, rfl, rfl, hq, hs, hB, hE⟩ := hrel
    have hbw := hB.size
    by_cases h9 : 9 < q
    · have hv0 : (0 : Int) ≤ 48 + (q : Int) % 10 := by omega
      have hv1 : 48 + (q : Int) % 10 < 256 := by omega
      have hwr := wrap_fig _ hv0 hv1
      have hcv := fig_byte (wr.alloc (.cells #[.int .u8 (48 + (q : Int) % 10)] 5)) wr.heap.size _ hv0 hv1 (by simp [go_sem])
      have hmod : (48 + (q : Int) % 10).toNat = 48 + q % 10 := by omega
      rw [hmod] at hcv
      have HE2 : Hid (Lib.decDigits (q / 10) ++ ((⟨#[(48 + q % 10).toUInt8]⟩ : ByteArray) ++ s).data.toList = Lib.decDigits u) := hid (by
        rw [← hE.out, ← dec_step h9]
        simp)
      have hsl : ((⟨#[(48 + q % 10).toUInt8]⟩ : ByteArray) ++ s).size ≤ 30 := by
        have h := congrArg List.length HE2.out
        have h2 := HL.out
        rw [List.length_append, fig_len] at h
        rw [ByteArray.size_append]
        show 1 + s.size ≤ 30
        omega
      have hs1 : (⟨#[(48 + q % 10).toUInt8]⟩ : ByteArray).size ≤ 1 := Nat.le_refl _
      generalize (⟨#[(48 + q % 10).toUInt8]⟩ : ByteArray) = D at *
      go_wp2
      go_roundw
      case rel => exact ⟨q / 10, D ++ s, by go_num, rfl, by omega, hsl, hB.alloc hbw _, HE2⟩
      case measure => simp [intOf]; omega
    · have hv0 : (0 : Int) ≤ 48 + (q : Int) := by omega
      have hv1 : 48 + (q : Int) < 256 := by omega
      have hwr := wrap_fig _ hv0 hv1
      have hcv := fig_byte (wr.alloc (.cells #[.int .u8 (48 + (q : Int))] 5)) wr.heap.size _ hv0 hv1 (by simp [go_sem])
      have hmod : (48 + (q : Int)).toNat = 48 + q := by omega
      rw [hmod] at hcv
      have HE2 : Hid ((⟨#[(48 + q).toUInt8]⟩ : ByteArray) ++ s = ⟨(Lib.decDigits u).toArray⟩) := hid (by
        rw [← hE.out, ← dec_last (by omega)]
        apply ByteArray.ext
        simp)
      have hs1 : (⟨#[(48 + q).toUInt8]⟩ : ByteArray).size ≤ 1 := Nat.le_refl _
      generalize (⟨#[(48 + q).toUInt8]⟩ : ByteArray) = D at *
      go_wp2
      go_ret
      exact ⟨by rw [HE2.out] <;> rfl, hB.alloc hbw _⟩

set_option maxHeartbeats 2000000 in
set_option maxRecDepth 100000 in
theorem word_any (k n : Int) (s : ByteArray) (hk : k = 0 ∨ k = 1 ∨ k = 2 ∨ k = 3 ∨ k = 4 ∨ k = 8 ∨ k = 9) (hn : k = 8 ∨ k = 9 → 0 ≤ n ∧ n ≤ 9223372036854775807) (w : World) :
    Calls Try.prog 60 #[.agg #[.int .i64 k, .string s, .int .i64 n]] w fun e w' => e = .returned (.string ⟨(L.first ⟨k, s, n⟩).toArray⟩) ∧ Below w.heap.size w w' := by
  rcases hk with rfl | rfl | rfl | rfl | rfl | rfl | rfl
  case inr.inr.inr.inr.inr.inl =>
    obtain ⟨h0, h1⟩ := hn (by simp)
    have HI := hid (figures_any n h0 h1 (w.alloc (.cells #[.int .i64 8, .string s, .int .i64 n] 39)))
    have hl := Lib.itoa_length_le n (by omega) h1
    have HF : Hid ((⟨#[39]⟩ : ByteArray) ++ ⟨(Lib.itoa n).toArray⟩ = ⟨(L.first ⟨8, s, n⟩).toArray⟩) := hid (ba_append [39] (Lib.itoa n))
    have hD : (⟨(Lib.itoa n).toArray⟩ : ByteArray).size ≤ 21 := by show (Lib.itoa n).toArray.size ≤ 21; simpa using hl
    generalize (⟨(Lib.itoa n).toArray⟩ : ByteArray) = D at *
    go_enter Try.func60, Try.ntmps60
    go_wp2_with fail
    refine (HI.out).mono ?_
    rintro e w1 ⟨rfl, hb1⟩
    go_wp2
    go_ret
    refine ⟨?_, (below_new _).trans (hb1.mono (by simp))⟩
    rw [HF.out] <;> rfl
  case inr.inr.inr.inr.inr.inr =>
    obtain ⟨h0, h1⟩ := hn (by simp)
    have HI := hid (figures_any n h0 h1 (w.alloc (.cells #[.int .i64 9, .string s, .int .i64 n] 39)))
    have hl := Lib.itoa_length_le n (by omega) h1
    have HF : Hid ((⟨#[46, 46]⟩ : ByteArray) ++ ⟨(Lib.itoa n).toArray⟩ = ⟨(L.first ⟨9, s, n⟩).toArray⟩) := hid (ba_append [46, 46] (Lib.itoa n))
    have hD : (⟨(Lib.itoa n).toArray⟩ : ByteArray).size ≤ 21 := by show (Lib.itoa n).toArray.size ≤ 21; simpa using hl
    generalize (⟨(Lib.itoa n).toArray⟩ : ByteArray) = D at *
    go_enter Try.func60, Try.ntmps60
    go_wp2_with fail
    refine (HI.out).mono ?_
    rintro e w1 ⟨rfl, hb1⟩
    go_wp2
    go_ret
    refine ⟨?_, (below_new _).trans (hb1.mono (by simp))⟩
    rw [HF.out] <;> rfl
  all_goals go_enter Try.func60, Try.ntmps60
  all_goals go_wp2
  all_goals go_ret
  all_goals exact ⟨rfl, below_new _⟩

end Go.Proofs.Ytkkigdbinnfbfaa
end
