/-
  The texts AsQb, AsTh, AsTi, AsTk, AsTl, one behind the other. Conditions: those that each of them names.
-/
import Derived.Test.YtmcdggjcpfkchaaMA3
import Derived.Test.YtmcdggjcpfkchaaM4
import Derived.Test.YtmcdggjcpfkchaaMA1
import Derived.Test.YtmcdggjcpfkchaaMA2
import Derived.Test.YtmcdggjcpfkchaaM1
section
/-
  What the kinds and numbers of a sound part are. No program.
-/
namespace Go.Proofs.Ytmcdggjcpfkchaa.E
open Go

theorem kind_bound {p : Pt} (h : sound p = true) : 0 ≤ p.kind ∧ p.kind < 15 := by
  by_cases hk : p.kind < 0 ∨ 15 ≤ p.kind
  · unfold sound at h
    rw [if_neg (by omega), if_neg (by omega), if_neg (by omega), if_neg (by omega), if_neg (by omega), if_neg (by omega), if_neg (by omega), if_neg (by omega), if_neg (by omega), if_neg (by omega), if_neg (by omega), if_neg (by omega), if_neg (by omega), if_neg (by omega), if_neg (by omega)] at h
    cases h
  · omega

theorem many_bound {p : Pt} (h : sound p = true) : -1000000 ≤ p.many ∧ p.many ≤ 1000000 := by
  have h1 := many_of_sound h
  have h2 := kind_bound h
  obtain ⟨k, lb, nm, bd, m, n, t, u⟩ := p
  unfold many at h1
  simp only at h1 h2 ⊢
  rw [if_neg (by omega)] at h1
  rcases (by omega : k = 0 ∨ k = 1 ∨ k = 2 ∨ k = 3 ∨ k = 4 ∨ k = 5 ∨ k = 6 ∨ k = 7 ∨ k = 8 ∨ k = 9 ∨ k = 10 ∨ k = 11 ∨ k = 12 ∨ k = 13 ∨ k = 14) with rfl | rfl | rfl | rfl | rfl | rfl | rfl | rfl | rfl | rfl | rfl | rfl | rfl | rfl | rfl
  all_goals simp [base, kidsA] at h1
  all_goals omega


end Go.Proofs.Ytmcdggjcpfkchaa.E
end

section
/-
  The reference's answer to what an expression is, as plain definitions over lists of parts, and that it is the same answer. No program; no conditions but those that each lemma names.
-/
namespace Go.Proofs.Ytmcdggjcpfkchaa.E
open Go

theorem ok_fit : ∀ f : Fo, f.ok = true → f.fit
  | .nil, _ => trivial
  | .cons x ks r, h => by
    simp [Fo.ok] at h
    exact ⟨h.1.1.1.2, ok_fit ks h.1.2, ok_fit r h.2⟩

def shal : List Nat → List Pt → Bool
  | _, [] => true
  | s, x :: r => if 100 ≤ s.length then false else shal (L.norm ((many x).toNat :: s)) r

theorem shal_flat (f : Fo) (hok : f.ok = true) : ∀ (c : Nat) (s : List Nat) (r : List Pt), f ≠ .nil → shal ((f.count + c) :: s) (f.flat ++ r) = (decide (f.deep + s.length + 1 ≤ 100) && shal (L.norm (c :: s)) r) := by
  induction f with
  | nil => intro c s r h; exact absurd rfl h
  | cons x ks g ih1 ih2 =>
    intro c s r _
    simp [Fo.ok] at hok
    obtain ⟨⟨⟨⟨hn, hm⟩, hs⟩, hk⟩, hg⟩ := hok
    have hmt : (many x).toNat = ks.count := by omega
    have e1 : (Fo.cons x ks g).count + c = (g.count + c) + 1 := by simp [Fo.count]; omega
    rw [e1]
    simp only [Fo.flat, List.cons_append, List.append_assoc]
    rw [shal, hmt]
    simp only [List.length_cons]
    by_cases h100 : 100 ≤ s.length + 1
    · rw [if_pos h100]
      symm
      simp [Fo.deep]
      omega
    · rw [if_neg h100]
      have tail : shal (L.norm ((g.count + c) :: s)) (g.flat ++ r) = (decide (g.deep = 0 ∨ g.deep + s.length + 1 ≤ 100) && shal (L.norm (c :: s)) r) := by
        cases g with
        | nil => simp [Fo.count, Fo.flat, Fo.deep]
        | cons y k2 g2 =>
          have e2 : (Fo.cons y k2 g2).count + c = (g2.count + c) + 1 := by simp [Fo.count]; omega
          rw [e2, L.norm_pos, ← e2, ih2 hg c s r (by simp)]
          congr 1
          rw [Bool.eq_iff_iff]
          simp [Fo.deep]
      cases ks with
      | nil =>
        simp only [Fo.count, Fo.flat, List.nil_append]
        rw [L.norm_zero, tail]
        congr 1
        rw [Bool.eq_iff_iff]
        simp [Fo.deep]
        omega
      | cons y k2 g2 =>
        have e3 : (Fo.cons y k2 g2).count = g2.count + 1 := rfl
        rw [e3, L.norm_pos, ← e3]
        have := ih1 hk 0 ((g.count + c + 1) :: s) (g.flat ++ r) (by simp)
        rw [Nat.add_zero] at this
        rw [this, L.norm_zero, tail, ← Bool.and_assoc]
        congr 1
        rw [Bool.eq_iff_iff]
        simp [Fo.deep]
        omega

theorem shal_tree {x : Pt} {ks : Fo} (h : (Fo.cons x ks .nil).ok = true) : shal [] (x :: ks.flat) = decide (ks.deep + 1 ≤ 100) := by
  simp [Fo.ok] at h
  obtain ⟨⟨⟨hn, hm⟩, hs⟩, hk⟩ := h
  rw [shal, if_neg (by simp), show (many x).toNat = ks.count by omega]
  cases ks with
  | nil =>
    simp only [Fo.count, Fo.flat, Fo.deep]
    rw [show L.norm [0] = [] by simp [L.norm], shal]
    rfl
  | cons y k2 g2 =>
    rw [show (Fo.cons y k2 g2).count = g2.count + 1 from rfl, L.norm_pos]
    have := shal_flat (Fo.cons y k2 g2) hk 0 [] [] (by simp)
    rw [Nat.add_zero, List.append_nil] at this
    rw [show g2.count + 1 = (Fo.cons y k2 g2).count from rfl, this, show L.norm [0] = [] by simp [L.norm], shal]
    simp

/-- May these places' nodes stand under x, from number k on? -/
def standAt (l : List Pt) (x : Pt) : Nat → List ByteArray → List Nat → Bool
  | _, _, [] => true
  | k, b, q :: qs => may x k b (l.getD q default) && standAt l x (k + 1) (b ++ [(l.getD q default).label]) qs

def labR (l : List Pt) (i : Nat) : Bool :=
  decide ((kidsL l (many (l.getD i default)).toNat (i + 1)).length = (many (l.getD i default)).toNat) && standAt l (l.getD i default) 0 [] (kidsL l (many (l.getD i default)).toNat (i + 1))

/-- The reference's answer. -/
def rightR (l : List Pt) : Bool :=
  match l with
  | [] => false
  | x :: _ => decide (l.length ≤ 10000) && (bare x && (l.all sound && (decide (eat 1 l = l.length) && (shal [] l && (List.range l.length).all (labR l)))))

theorem getD_drop {l : List Pt} {p : Nat} {y : Pt} {r : List Pt} (h : l.drop p = y :: r) : l.getD p default = y ∧ p < l.length ∧ l.drop (p + 1) = r := by
  have hp : p < l.length := by
    rcases Nat.lt_or_ge p l.length with h1 | h1
    · exact h1
    · rw [List.drop_eq_nil_of_le h1] at h; cases h
  have h2 := List.drop_eq_getElem_cons hp
  rw [h] at h2
  injection h2 with h3 h4
  refine ⟨?_, hp, h4.symm⟩
  simp [List.getD, hp, h3]

theorem drop_more {l a b : List Pt} {p : Nat} (h : l.drop p = a ++ b) : l.drop (p + a.length) = b := by
  rw [← List.drop_drop, h, List.drop_left]

theorem kids_flat (l : List Pt) (x : Pt) : ∀ (f : Fo) (p k : Nat) (b : List ByteArray) (r : List Pt), f.ok = true → l.drop p = f.flat ++ r → (kidsL l f.count p).length = f.count ∧ standAt l x k b (kidsL l f.count p) = Fo.stand x k b f := by
  intro f
  induction f with
  | nil => intro p k b r _ _; exact ⟨rfl, rfl⟩
  | cons y ks g _ ih2 =>
    intro p k b r hok hd
    have hok' := hok
    simp [Fo.ok] at hok
    obtain ⟨⟨⟨⟨hn, hm⟩, hs⟩, hk⟩, hg⟩ := hok
    simp only [Fo.flat, List.cons_append, List.append_assoc] at hd
    obtain ⟨h1, h2, h3⟩ := getD_drop hd
    have ht : (Fo.cons y ks .nil).ok = true := by simp [Fo.ok, hn, hm, hs, hk]
    have he : eat 1 (l.drop p) = ks.flat.length + 1 := by rw [hd]; exact eat_tree (ok_fit _ ht) _
    have hd2 : l.drop (p + eat 1 (l.drop p)) = g.flat ++ r := by
      rw [he, show p + (ks.flat.length + 1) = (p + 1) + ks.flat.length by omega]
      exact drop_more h3
    obtain ⟨i1, i2⟩ := ih2 (p + eat 1 (l.drop p)) (k + 1) (b ++ [y.label]) r hg hd2
    simp only [Fo.count, kidsL, if_pos h2, List.length_cons, i1, standAt, h1, Fo.stand, i2, and_self]

/-- Each place of a row of trees is a tree's first node. -/
theorem tree_at (l : List Pt) : ∀ (f : Fo) (p i : Nat) (r : List Pt), f.ok = true → l.drop p = f.flat ++ r → p ≤ i → i < p + f.flat.length → ∃ y ks r2, l.drop i = y :: (ks.flat ++ r2) ∧ (Fo.cons y ks .nil).ok = true := by
  intro f
  induction f with
  | nil => intro p i r _ _ h1 h2; simp [Fo.flat] at h2; omega
  | cons y ks g ih1 ih2 =>
    intro p i r hok hd h1 h2
    simp [Fo.ok] at hok
    obtain ⟨⟨⟨⟨hn, hm⟩, hs⟩, hk⟩, hg⟩ := hok
    simp only [Fo.flat, List.cons_append, List.append_assoc, List.length_cons, List.length_append] at hd h2
    obtain ⟨_, _, h3⟩ := getD_drop hd
    by_cases e : i = p
    · subst e
      exact ⟨y, ks, g.flat ++ r, hd, by simp [Fo.ok, hn, hm, hs, hk]⟩
    · by_cases hi : i < p + 1 + ks.flat.length
      · exact ih1 (p + 1) i (g.flat ++ r) hk h3 (by omega) hi
      · exact ih2 (p + 1 + ks.flat.length) i r hg (drop_more h3) (by omega) (by omega)

theorem sound_flat : ∀ (f : Fo), f.ok = true → ∀ x ∈ f.flat, sound x = true := by
  intro f
  induction f with
  | nil => intro _ x h; simp [Fo.flat] at h
  | cons y ks g ih1 ih2 =>
    intro hok x hx
    simp [Fo.ok] at hok
    obtain ⟨⟨⟨⟨hn, hm⟩, hs⟩, hk⟩, hg⟩ := hok
    simp only [Fo.flat, List.mem_cons, List.mem_append] at hx
    rcases hx with rfl | hx | hx
    · exact hn
    · exact ih1 hk x hx
    · exact ih2 hg x hx

theorem forest_of (l : List Pt) (x : Pt) : ∀ (c p k : Nat) (b : List ByteArray), (kidsL l c p).length = c → (∀ q, p ≤ q → q < l.length → ∃ y ks r, l.drop q = y :: (ks.flat ++ r) ∧ (Fo.cons y ks .nil).ok = true) → standAt l x k b (kidsL l c p) = true →
    ∃ (f : Fo) (r : List Pt), f.count = c ∧ f.ok = true ∧ l.drop p = f.flat ++ r ∧ Fo.stand x k b f = true := by
  intro c
  induction c with
  | zero => intro p k b _ _ _; exact ⟨.nil, l.drop p, rfl, rfl, rfl, rfl⟩
  | succ c ih =>
    intro p k b hl ht hs
    rw [kidsL] at hl hs
    by_cases hp : p < l.length
    · rw [if_pos hp] at hl hs
      obtain ⟨y, ks, r, hd, hok⟩ := ht p (Nat.le_refl _) hp
      obtain ⟨h1, _, h3⟩ := getD_drop hd
      have he : eat 1 (l.drop p) = ks.flat.length + 1 := by rw [hd]; exact eat_tree (ok_fit _ hok) _
      have hd2 : l.drop (p + eat 1 (l.drop p)) = r := by
        rw [he, show p + (ks.flat.length + 1) = (p + 1) + ks.flat.length by omega]
        exact drop_more h3
      simp only [standAt, h1, Bool.and_eq_true] at hs
      obtain ⟨g, r2, hg1, hg2, hg3, hg4⟩ := ih (p + eat 1 (l.drop p)) (k + 1) (b ++ [y.label]) (by simpa using hl) (fun q hq hlq => ht q (by omega) hlq) hs.2
      refine ⟨.cons y ks g, r2, by simp [Fo.count, hg1], ?_, ?_, ?_⟩
      · simp only [Fo.ok, Bool.and_true, Bool.and_eq_true] at hok ⊢
        exact ⟨hok, hg2⟩
      · rw [hd2] at hg3
        simp only [Fo.flat, List.cons_append, List.append_assoc]
        rw [hd, hg3]
      · simp only [Fo.stand, Bool.and_eq_true]
        exact ⟨hs.1, hg4⟩
    · rw [if_neg hp] at hl
      simp at hl

theorem all_trees (l : List Pt) (hn : ∀ x ∈ l, sound x = true) (hl : ∀ i, i < l.length → labR l i = true) : ∀ (m i : Nat), l.length - i ≤ m → i < l.length → ∃ y ks r, l.drop i = y :: (ks.flat ++ r) ∧ (Fo.cons y ks .nil).ok = true := by
  intro m
  induction m with
  | zero => intro i h1 h2; omega
  | succ m ih =>
    intro i h1 h2
    have hd := List.drop_eq_getElem_cons h2
    have hg : l.getD i default = l[i] := by simp [List.getD, h2]
    have h := hl i h2
    unfold labR at h
    rw [hg] at h
    simp only [Bool.and_eq_true, decide_eq_true_eq] at h
    obtain ⟨f, r, hc, hok, hf, hst⟩ := forest_of l l[i] _ (i + 1) 0 [] h.1 (fun q hq hlq => ih q (by omega) hlq) h.2
    have hnum := hn _ (List.getElem_mem h2)
    have := many_of_sound hnum
    refine ⟨l[i], f, r, by rw [hd, hf], ?_⟩
    simp only [Fo.ok, hnum, hst, hok, Bool.and_true, Bool.true_and, decide_eq_true_eq]
    omega

theorem rightR_eq (l : List Pt) : rightR l = rightL l := by
  rw [Bool.eq_iff_iff, rightL_iff]
  cases l with
  | nil => simp [rightR]
  | cons x0 l0 =>
    obtain ⟨l, hl⟩ : ∃ l, x0 :: l0 = l := ⟨_, rfl⟩
    simp only [rightR, hl, Bool.and_eq_true, decide_eq_true_eq, List.all_eq_true]
    constructor
    · rintro ⟨h1, h2, h3, h4, h5, h6⟩
      have h0 : 0 < l.length := by rw [← hl]; simp
      obtain ⟨y, ks, r, hd, hok⟩ := all_trees l h3 (fun i hi => h6 i (by simpa using hi)) l.length 0 (by omega) h0
      rw [List.drop_zero] at hd
      have hy : x0 = y := by rw [← hl] at hd; injection hd
      subst hy
      have he := eat_tree (ok_fit _ hok) r
      have hlen := congrArg List.length hd
      rw [← hd, h4] at he
      have hr : r = [] := by
        apply List.eq_nil_of_length_eq_zero
        simp at hlen
        omega
      subst hr
      rw [List.append_nil] at hd
      refine ⟨x0, ks, hd, h1, h2, hok, ?_⟩
      rw [hd, shal_tree hok] at h5
      simpa using h5
    · rintro ⟨y, ks, hd, h1, h2, hok, h5⟩
      have hy : x0 = y := by rw [← hl] at hd; injection hd
      subst hy
      have hd0 : l.drop 0 = (Fo.cons x0 ks .nil).flat ++ [] := by rw [List.drop_zero, hd]; simp [Fo.flat]
      refine ⟨h1, h2, ?_, ?_, ?_, ?_⟩
      · intro z hz
        rw [hd] at hz
        exact sound_flat (Fo.cons x0 ks .nil) hok z (by simpa [Fo.flat] using hz)
      · have := eat_tree (ok_fit _ hok) []
        rw [List.append_nil] at this
        rw [hd, this]
        simp
      · rw [hd, shal_tree hok]
        simpa using h5
      · intro i hi
        have hi2 : i < l.length := by simpa using hi
        obtain ⟨y, k2, r2, hdi, hok2⟩ := tree_at l _ 0 i [] hok hd0 (Nat.zero_le _) (by rw [hd] at hi2; simp [Fo.flat] at hi2 ⊢; omega)
        obtain ⟨g1, _, g3⟩ := getD_drop hdi
        have hok3 := hok2
        simp only [Fo.ok, Bool.and_true, Bool.and_eq_true, decide_eq_true_eq] at hok3
        obtain ⟨⟨⟨hn, hm⟩, hs⟩, hk⟩ := hok3
        unfold labR
        rw [g1, show (many y).toNat = k2.count by omega]
        obtain ⟨j1, j2⟩ := kids_flat l y k2 (i + 1) 0 [] r2 hk g3
        rw [j1, j2, hs]
        simp

end Go.Proofs.Ytmcdggjcpfkchaa.E
end

section
/-
  The walk of the reference's shallow. Conditions: at most 20000 nodes, each of which has from 0 to 60 children.
-/
namespace Go.Proofs.Ytmcdggjcpfkchaa
open Go.RowKit

set_option maxHeartbeats 4000000 in
set_option maxRecDepth 100000 in
theorem ashallow_any (l : List E.Pt) (hF : FewP l) (hR : ∀ x ∈ l, E.many x = E.manyR x) (v : Value) (w : World) (hx : RdP w w.heap.size v l) :
    Calls Try.prog 28 #[v] w fun e w' => e = .returned (.bool (E.shal [] l)) ∧ Below w.heap.size w w' := by
  obtain ⟨i0, hi, hz0, hz1, hz2⟩ := info_parts infoInt
  obtain ⟨A, cap, rfl, hl1, hl2, hcx⟩ := hx
  unfold maxLen at hl2
  obtain ⟨hl, hM⟩ := hF
  have HCX := hid hcx
  have HM := hid hM
  have HR := hid hR
  clear hcx hM hR
  go_enter Try.func28, Try.ntmps28
  go_wp2
  go_loopw [3, 4] (fun vo vi wr => ∃ (k : Nat) (s : List Nat), vi = .int .i64 k ∧ k ≤ l.length ∧ OwnI w.heap.size vo s.reverse wr ∧ Below w.heap.size w wr ∧ (∀ m ∈ s, 1 ≤ m ∧ m ≤ 60) ∧ Hid (E.shal s (l.drop k) = E.shal [] l)) (fun _ vi _ => l.length - (intOf vi).toNat)
  case atStart => exact ⟨0, [], rfl, by omega, World.ownsRow_made w #[] 0 (Nat.le_refl _) (Nat.zero_le _) (by simp), below_new _, by simp, hid rfl⟩
  case round =>
    obtain ⟨k, s, rfl, hk, hO, hB, hs, hE⟩ := hrel
    by_cases hlt : k < l.length
    · obtain ⟨b, o, rfl, hb, hcx⟩ := HCX.out (by rintro rfl; simp at hlt)
      obtain ⟨vt, vu, x0, x1, x2, x3, x4, x5, x6, x7, ht, hu⟩ := hcx k hlt
      obtain ⟨A1, c1, rfl⟩ : ∃ A1 c1, vt = .slice A1 l[k].t.length c1 := by obtain ⟨A1, c1, h, -⟩ := ht; exact ⟨A1, c1, h⟩
      obtain ⟨A2, c2, rfl⟩ : ∃ A2 c2, vu = .slice A2 l[k].u.length c2 := by obtain ⟨A2, c2, h, -⟩ := hu; exact ⟨A2, c2, h⟩
      have ex : ∀ j, wr.cell? ⟨b, j, none⟩ = w.cell? ⟨b, j, none⟩ := fun j => hB.cell (p := ⟨b, j, none⟩) hb
      rw [← ex] at x0 x1 x2 x3 x4 x5 x6 x7
      have hm4 := HM.out _ (List.getElem_mem hlt)
      have hm : 0 ≤ E.many l[k] ∧ E.many l[k] ≤ 60 := ⟨hm4.1, hm4.2.1⟩
      have hmn := fun W => rmany_any l[k] (.slice A1 l[k].t.length c1) (.slice A2 l[k].u.length c2) (HR.out _ (List.getElem_mem hlt)) hm4.2.2 W
      clear ht hu hm4
      have hdr : Hid (l.drop k = l[k] :: l.drop (k + 1)) := hid (List.drop_eq_getElem_cons hlt)
      clear hcx ex
      generalize l[k] = X at *
      obtain ⟨mm, hmm⟩ : ∃ mm : Nat, E.many X = mm := ⟨(E.many X).toNat, by omega⟩
      obtain ⟨k1, s1, s2, s3, n1, n2, t1, t2⟩ := X
      unfold partV at hmn
      simp only at *
      obtain ⟨Ao, capo, hvo, -⟩ := hO.rd
      rw [List.length_reverse] at hvo
      have HO := hid hO
      have HSS := hid hs
      have hbw := hB.size
      clear hO hs
      by_cases h100 : 100 ≤ s.length
      · have HZ : Hid (E.shal [] l = false) := hid (by rw [← hE.out, hdr.out, E.shal, if_pos h100])
        subst hvo
        clear hmn
        go_wp2
        go_ret
        exact ⟨ret_bool HZ.out.symm, hB⟩
      · have HE2 : Hid (E.shal (L.norm (mm :: s)) (l.drop (k + 1)) = E.shal [] l) := hid (by rw [← hE.out, hdr.out, E.shal, if_neg h100, hmm]; rfl)
        rw [hmm] at hmn hm
        have HMN := hid hmn
        have hO1 : Hid (wr.ownsRow w.heap.size 3 1 u3 s.length (cellsI s.reverse)) := hid (by have := HO.out; unfold OwnI at this; rw [List.length_reverse] at this; exact this)
        have hsl : s.length < 100 := by omega
        subst hvo
        clear hmn
        go_wp2_with fail
        refine (HMN.out _).mono ?_
        rintro e w1 ⟨rfl, hb1⟩
        have hB1 : Below w.heap.size w w1 := hB.trans (hb1.mono hbw)
        have hO2 : w1.ownsRow w.heap.size 3 1 (.slice Ao s.length capo) s.length (cellsI s.reverse) := by
          have h : OwnI w.heap.size (.slice Ao s.length capo) s.reverse w1 := HO.out.below hb1
          unfold OwnI at h
          rw [List.length_reverse] at h
          exact h
        clear x0 x1 x2 x3 x4 x5 x6 x7 hb1
        go_wp2_with (at_builtin; refine wpList_append_own _ rfl _ _ 60 rfl w.heap.size 3 i0 (.int .i64 0) 1 8 Try.underlying60 hi hz0 hz1 hz2 rfl (by decide) _ _ _ rfl (World.ownsRow.alloc hO2 _) ⟨w1.heap.size, 0, none⟩ 1 1 [.int .i64 mm] rfl rfl ?c1 ?c2 ?c3 ?c4 ?c5 ?_)
        case c1 => intro j u hj; match j, hj with | 0, hj => simp at hj; subst hj; simp [Addr.add]
        case c2 => intro u hu; simp at hu; subst hu; rfl
        case c3 => unfold maxLen; omega
        case c4 => omega
        case c5 => have := hB1.size; simp; omega
        intro v' w2 hown hgrow _
        have hB2 : Below w.heap.size w w2 := (hB1.alloc hB1.size _).grown hgrow (by have := hB1.size; simp; omega) (fun k hk => (World.ownsRow.lt hO2 k hk).1)
        have hO3 : OwnI w.heap.size v' (mm :: s).reverse w2 := by
          rw [List.reverse_cons]
          refine OwnI.snoc mm ?_
          rw [List.length_reverse]
          exact hown
        clear hown hgrow hO2 hB1 hO1
        go_wp2
        go_loopw [3] (fun vo wi => ∃ s2 : List Nat, OwnI w.heap.size vo s2.reverse wi ∧ Below w.heap.size w wi ∧ L.norm s2 = L.norm (mm :: s) ∧ (∀ x ∈ s2.tail, 1 ≤ x) ∧ (∀ x ∈ s2, x ≤ 60) ∧ s2.length ≤ 100) (fun vo _ => lenV vo)
        case atStart => exact ⟨mm :: s, hO3, hB2, rfl, fun x hx => (HSS.out x hx).1, fun x hx => by rcases List.mem_cons.1 hx with rfl | hx; omega; exact (HSS.out x hx).2, by simp; omega⟩
        case round =>
          obtain ⟨s2, hO4, hB4, hn4, ht4, h504, hl4⟩ := hrel
          cases s2 with
          | nil =>
            obtain ⟨Ai, capi, rfl, -⟩ := hO4.rd
            have hnil : OwnI w.heap.size (.slice Ai ([] : List Nat).reverse.length capi) ([] : List Nat).reverse wr := hO4
            have HNI := hid hnil
            have HE3 : Hid (E.shal [] (l.drop (k + 1)) = E.shal [] l) := hid (by rw [← HE2.out, ← hn4]; simp [L.norm])
            clear hO4 hn4 hnil
            go_wp2
            go_roundw
            case rel => exact ⟨k + 1, [], by go_num, by omega, HNI.out, hB4, by simp, HE3⟩
            case measure => simp [intOf]; omega
          | cons t r =>
            obtain ⟨g, capi, hvv, hBg, hcell, hfz, hcp1, hcp2⟩ := hO4.top
            rw [hvv] at hO4
            subst hvv
            have HO4 := hid hO4
            have hrl : r.length ≤ 99 := by simp at hl4; omega
            unfold maxLen at hcp2
            clear hO4
            by_cases ht0 : t = 0
            · subst ht0
              cases r with
              | nil =>
                have HP := hid HO4.out.pop
                have HN4 : Hid (L.norm [] = L.norm (mm :: s)) := hid (by rw [← hn4]; simp [L.norm])
                simp only [List.length_nil, Nat.zero_add] at hcell hfz hcp1
                clear hn4
                go_wp2
                go_roundw
                case rel => exact ⟨[], HP.out, hB4, HN4.out, by simp, by simp, by simp⟩
                case measure => simp [lenV]
              | cons m r2 =>
                have hm1 : 1 ≤ m := ht4 m (by simp)
                obtain ⟨m', rfl⟩ : ∃ m', m = m' + 1 := ⟨m - 1, by omega⟩
                have HP := hid HO4.out.pop
                obtain ⟨g', capi', hv2, _, hcell2, hfz2, _, _⟩ := HP.out.top
                simp only [List.length_cons, Value.slice.injEq, Option.some.injEq, Addr.mk.injEq, and_true, true_and] at hv2
                obtain ⟨rfl, rfl⟩ := hv2
                have HD := hid (OwnI.dec HP.out)
                have hm50 : m' + 1 ≤ 60 := h504 _ (by simp)
                have HN4 : Hid (L.norm (m' :: r2) = L.norm (mm :: s)) := hid (by rw [← hn4, L.norm_zero])
                have HT4 := hid ht4
                have H504 := hid h504
                simp only [List.length_cons] at hcell hrl hcp1 hfz
                have hl4' : r2.length + 2 ≤ 100 := by simp at hl4; omega
                clear hn4 ht4 h504 hl4
                go_wp2
                exact ⟨⟨m' :: r2, HD.out, hB4.setCell (p := ⟨g, r2.length, none⟩) hBg _, HN4.out, fun x hx => HT4.out x (by simp at hx ⊢; exact Or.inr hx), fun x hx => by rcases List.mem_cons.1 hx with rfl | hx; omega; exact H504.out x (by simp [hx]), by simp; omega⟩, by simp [lenV]⟩
            · have htz : ((t : Int) == 0) = false := by simp; omega
              have HE3 : Hid (E.shal (t :: r) (l.drop (k + 1)) = E.shal [] l) := hid (by
                obtain ⟨t', rfl⟩ : ∃ t', t = t' + 1 := ⟨t - 1, by omega⟩
                rw [← HE2.out, ← hn4, L.norm_pos])
              have HT4 := hid ht4
              have H504 := hid h504
              clear hn4 ht4 h504
              go_wp2
              go_roundw
              case rel => exact ⟨k + 1, t :: r, by go_num, by omega, HO4.out, hB4, fun x hx => ⟨by rcases List.mem_cons.1 hx with rfl | hx; omega; exact HT4.out x hx, H504.out x hx⟩, HE3⟩
              case measure => simp [intOf]; omega
    · go_wp2
      go_ret
      refine ⟨ret_bool ?_, hB⟩
      rw [← hE.out, List.drop_eq_nil_of_le (by omega), E.shal]

end Go.Proofs.Ytmcdggjcpfkchaa
end

section
/-
  The walks of the reference's plain, op and name. Conditions: names of at most 2000000 bytes.
-/
namespace Go.Proofs.Ytmcdggjcpfkchaa
open Go.RowKit

set_option maxHeartbeats 2000000 in
theorem rplain_any (l : List L.Nd) (hnm : ∀ x ∈ l, x.name.size ≤ 9223372036854775807) (v : Value) (w : World) (hx : Rd w w.heap.size v l) :
    Calls Try.prog 43 #[v] w fun e w' => e = .returned (.bool (E.plain l)) ∧ Below w.heap.size w w' := by
  have HR := hid (refRight_any l hnm v w hx)
  have HP := hid (fun w2 (hb : Below w.heap.size w w2) => ref_plain l v w2 ((hx.below hb).mono hb.size))
  obtain ⟨A, cap, rfl, -⟩ := hx
  unfold E.plain
  cases hr : L.rightL l with
  | false =>
    rw [hr] at HR
    clear hr
    go_enter Try.func43, Try.ntmps43
    go_wp2_with fail
    refine (HR.out).mono ?_
    rintro e w1 ⟨rfl, h1⟩
    go_wp2
    go_ret
    exact ⟨ret_bool (by simp), h1⟩
  | true =>
    rw [hr] at HR
    clear hr
    go_enter Try.func43, Try.ntmps43
    go_wp2_with fail
    refine (HR.out).mono ?_
    rintro e w1 ⟨rfl, h1⟩
    have HB1 := hid h1
    clear h1
    go_wp2_with fail
    refine (HP.out _ HB1.out).mono ?_
    rintro e w2 ⟨rfl, rfl⟩
    go_wp2
    go_ret
    exact ⟨ret_bool (by simp), HB1.out⟩

set_option maxHeartbeats 4000000 in
set_option maxRecDepth 100000 in
theorem rop_any (s : ByteArray) (w : World) :
    Calls Try.prog 46 #[.string s] w fun e w' => e = .returned (.bool (E.oper s)) ∧ Below w.heap.size w w' := by
  obtain ⟨w0, hw0⟩ : ∃ w0, w0 = w.alloc (.cells #[.string ⟨#[43]⟩, .string ⟨#[45]⟩, .string ⟨#[42]⟩, .string ⟨#[47]⟩, .string ⟨#[60]⟩, .string ⟨#[61, 61]⟩, .string ⟨#[38, 38]⟩, .string ⟨#[124, 124]⟩, .string ⟨#[43, 43]⟩] 9) := ⟨_, rfl⟩
  have hB0 : Below w.heap.size w w0 := by rw [hw0]; exact below_new _
  have HC : Hid (∀ k, (h : k < 9) → w0.cell? ⟨w.heap.size, k, none⟩ = some (.string (E.opsL[k]'h))) := hid fun k h => by
    have := Lib.cell_of_heap (heap_alloc_new w (.cells #[.string ⟨#[43]⟩, .string ⟨#[45]⟩, .string ⟨#[42]⟩, .string ⟨#[47]⟩, .string ⟨#[60]⟩, .string ⟨#[61, 61]⟩, .string ⟨#[38, 38]⟩, .string ⟨#[124, 124]⟩, .string ⟨#[43, 43]⟩] 9)) k
    rw [hw0, this]
    rcases (by omega : k = 0 ∨ k = 1 ∨ k = 2 ∨ k = 3 ∨ k = 4 ∨ k = 5 ∨ k = 6 ∨ k = 7 ∨ k = 8) with rfl | rfl | rfl | rfl | rfl | rfl | rfl | rfl | rfl <;> rfl
  have HB := hid hB0
  clear hB0
  go_enter Try.func46, Try.ntmps46
  go_wp2
  rw [← hw0]
  clear hw0
  go_loop [4] (fun i => ∃ k : Nat, k ≤ 9 ∧ i = .int .i64 k ∧ Hid (E.oper s = (E.opsL.drop k).any fun x => decide (s = x))) (fun i => 9 - (intOf i).toNat)
  case atStart => exact ⟨0, by omega, rfl, hid rfl⟩
  case round =>
    obtain ⟨k, hk, rfl, hE⟩ := hrel
    by_cases hlt : k < 9
    · have hc := HC.out k hlt
      have hst : Hid ((E.opsL.drop k).any (fun x => decide (s = x)) = (decide (s = E.opsL[k]'hlt) || (E.opsL.drop (k + 1)).any fun x => decide (s = x))) := hid (by rw [List.drop_eq_getElem_cons (by exact hlt), List.any_cons])
      generalize (E.opsL[k]'hlt) = X at *
      have hx := eqS X s
      by_cases h : X = s
      · have e1 : (X.toList == s.toList) = true := by rw [hx]; simp [h]
        have HZ : Hid (E.oper s = true) := hid (by rw [hE.out, hst.out]; simp [h])
        clear hx h
        go_wp2
        go_ret
        exact ⟨ret_bool HZ.out.symm, HB.out⟩
      · have e1 : (X.toList == s.toList) = false := by rw [hx]; simp [h]
        have HZ : Hid (E.oper s = (E.opsL.drop (k + 1)).any fun x => decide (s = x)) := hid (by rw [hE.out, hst.out]; simp [Ne.symm h])
        clear hx h
        go_wp2
        go_round
        case rel => exact ⟨k + 1, by omega, by go_num, HZ⟩
        case measure => simp [intOf]; omega
    · obtain rfl : k = 9 := by omega
      go_wp2
      go_ret
      exact ⟨ret_bool (by rw [hE.out]; rfl), HB.out⟩

namespace E
theorem occ_iff (s : ByteArray) (i : Nat) (h : i < s.size) : Lib.occAt s.data.toList [33] i = decide (byteAt s i = 33) := by
  have hl : i < s.data.toList.length := by simpa using h
  unfold Lib.occAt
  rw [List.drop_eq_getElem_cons hl, ← byteAt_eq s i h]
  have e : (s[i]'h) = s.data.toList[i] := rfl
  rw [e]
  generalize s.data.toList[i] = c
  simp only [List.isPrefixOf, Bool.and_true]
  rw [Bool.eq_iff_iff]
  simp only [beq_iff_eq, decide_eq_true_eq]
  constructor
  · rintro rfl; rfl
  · intro h2
    exact UInt8.toNat_inj.1 (by rw [h2]; rfl)

theorem name_none {s : ByteArray} (h : ∀ j, j < s.size → byteAt s j ≠ 33) : nameOK s = nameB 97 122 s := by
  have hi : Lib.index s.data.toList [33] = -1 := Lib.index_none fun j hj => by
    rcases Nat.lt_or_ge j s.size with h1 | h1
    · rw [occ_iff s j h1]; simpa using h j h1
    · unfold Lib.occAt
      rw [List.drop_eq_nil_of_le (by simpa using h1)]
      rfl
  unfold nameOK cutN Lib.cut
  rw [hi]
  simp

theorem name_at {s : ByteArray} {i : Nat} (hi : i < s.size) (h0 : byteAt s i = 33) (h : ∀ j, j < i → byteAt s j ≠ 33) : nameOK s = (nameB 97 122 (s.extract 0 i) && nameB 97 122 (s.extract (i + 1) s.size)) := by
  have hsl : s.data.toList.length = s.size := by simp
  have hx : Lib.index s.data.toList [33] = i := Lib.index_first (by omega) (by rw [occ_iff s i hi, h0]; rfl) (fun j hj => by rw [occ_iff s j (by omega)]; simpa using h j hj)
  unfold nameOK cutN Lib.cut
  rw [hx, if_pos (by omega)]
  have e1 : (⟨(s.data.toList.take ((i : Int).toNat)).toArray⟩ : ByteArray) = s.extract 0 i := by
    apply ByteArray.ext
    apply Array.ext'
    simp
  have e2 : (⟨(s.data.toList.drop ((i : Int).toNat + 1)).toArray⟩ : ByteArray) = s.extract (i + 1) s.size := by
    apply ByteArray.ext
    apply Array.ext'
    simp
    exact (List.take_of_length_le (by rw [List.length_drop]; omega)).symm
  simp only [List.length_cons, List.length_nil, Nat.zero_add]
  rw [e1, e2]
  simp
end E

set_option maxHeartbeats 4000000 in
set_option maxRecDepth 100000 in
theorem rname_any (s : ByteArray) (hs : s.size ≤ 9223372036854775807) (w : World) :
    Calls Try.prog 45 #[.string s] w fun e w' => e = .returned (.bool (E.nameOK s)) ∧ w = w' := by
  go_enter Try.func45, Try.ntmps45
  go_wp2
  go_loop [3] (fun i => ∃ k : Nat, k ≤ s.size ∧ i = .int .i64 k ∧ Hid (∀ j, j < k → byteAt s j ≠ 33)) (fun i => s.size - (intOf i).toNat)
  case atStart => exact ⟨0, by omega, rfl, hid fun j h => by omega⟩
  case round =>
    obtain ⟨k, hk, rfl, hE⟩ := hrel
    by_cases hlt : k < s.size
    · have hb := byteAt_eq s k hlt
      by_cases h33 : byteAt s k = 33
      · have h33' : (s[k]'hlt).toNat = 33 := by rw [hb, h33]
        have HN : Hid (E.nameOK s = (nameB 97 122 (s.extract 0 k) && nameB 97 122 (s.extract (k + 1) s.size))) := hid (E.name_at hlt h33 hE.out)
        have HW1 := hid (refWord_any (s.extract 0 k) (by rw [ByteArray.size_extract]; omega) w)
        have HW2 := hid (refWord_any (s.extract (k + 1) s.size) (by rw [ByteArray.size_extract]; omega) w)
        have hc : (((s[k]'hlt).toNat : Int) == 33) = true := by rw [h33']; rfl
        have hk1 : k + 1 ≤ s.size := hlt
        generalize nameB 97 122 (s.extract 0 k) = b1 at *
        generalize nameB 97 122 (s.extract (k + 1) s.size) = b2 at *
        clear hb h33 h33' hE
        cases b1 with
        | false =>
          go_wp2_with fail
          refine (HW1.out).mono ?_
          rintro e w1 ⟨rfl, rfl⟩
          go_wp2
          go_ret
          exact ⟨ret_bool (by rw [HN.out]; rfl), rfl⟩
        | true =>
          go_wp2_with fail
          refine (HW1.out).mono ?_
          rintro e w1 ⟨rfl, rfl⟩
          go_wp2_with fail
          refine (HW2.out).mono ?_
          rintro e w1 ⟨rfl, rfl⟩
          go_wp2
          go_ret
          exact ⟨ret_bool (by rw [HN.out]; rfl), rfl⟩
      · have hc : (((s[k]'hlt).toNat : Int) == 33) = false := by rw [hb]; simp; omega
        have HE2 : Hid (∀ j, j < k + 1 → byteAt s j ≠ 33) := hid fun j hj => by
          rcases Nat.lt_or_ge j k with h | h
          · exact hE.out j h
          · obtain rfl : j = k := by omega
            exact h33
        clear hb h33 hE
        go_wp2
        go_round
        case rel => exact ⟨k + 1, by omega, by go_num, HE2⟩
        case measure => simp [intOf]; omega
    · obtain rfl : k = s.size := by omega
      have HN : Hid (E.nameOK s = nameB 97 122 s) := hid (E.name_none hE.out)
      have HW := hid (refWord_any s hs w)
      go_wp2_with fail
      refine (HW.out).mono ?_
      rintro e w1 ⟨rfl, rfl⟩
      go_wp2
      go_ret
      exact ⟨ret_bool HN.out.symm, rfl⟩

end Go.Proofs.Ytmcdggjcpfkchaa
end

section
/-
  The walk of the reference's literal. No conditions.
-/
namespace Go.Proofs.Ytmcdggjcpfkchaa
open Go.RowKit

namespace E
/-- A literal, as the document tells it. -/
def litR (p : Pt) : Bool :=
  match p.t with
  | [y] => decide (y.name.size = 0) && (decide (y.n = 0) && (decide (0 ≤ p.num) && (decide (p.num ≤ 999999999999999999) && (
      if y.kind = 1 then decide (p.name = ⟨#[]⟩)
      else if y.kind = 2 then decide (p.name = ⟨#[]⟩) && decide (p.num < 2)
      else if y.kind = 3 then decide (p.num = 0)
      else if y.kind = 4 then decide (p.name = ⟨#[]⟩) && decide (p.num = 0)
      else false))))
  | _ => false

theorem size_zero {s : ByteArray} (h : s.size = 0) : s = ⟨#[]⟩ := by
  apply ByteArray.ext
  apply Array.ext'
  have : s.data.toList.length = 0 := by simpa using h
  exact List.eq_nil_of_length_eq_zero this
theorem size_iff {s : ByteArray} : s = ⟨#[]⟩ ↔ s.size = 0 := ⟨fun h => by rw [h]; rfl, size_zero⟩

theorem right_one {y : L.Nd} (h : 1 ≤ y.kind ∧ y.kind ≤ 4) : L.rightL [y] = (decide (y.name.size = 0) && decide (y.n = 0)) := by
  have hm : L.many y = 0 := by
    unfold L.many
    rw [if_neg (by omega), if_neg (by omega)]
  have hn : L.numbered y = decide (y.n = 0) := by
    unfold L.numbered
    rw [if_neg (by omega), if_pos (by omega)]
  have hb : L.bare y = decide (y.name.size = 0) := by
    unfold L.bare
    rw [show decide (y.kind ≠ 9) = true by simp; omega, Bool.and_true]
  unfold L.rightL
  simp only [hb, L.visitF, hn, hm, Int.toNat_zero, L.kidsF, List.length_cons, List.length_nil]
  cases h1 : decide (y.n = 0) <;> simp

theorem lit_eq (p : Pt) : ((decide (p.bind = ⟨#[]⟩) && decide (p.many = 0)) && (decide (p.u.length = 0) && litR p)) = litOK p := by
  obtain ⟨k, lb, nm, bd, m, n, t, u⟩ := p
  unfold litR litOK
  simp only
  cases t with
  | nil => simp
  | cons y r =>
    cases r with
    | cons z r => simp
    | nil =>
      simp only
      by_cases a1 : bd = ⟨#[]⟩
      case neg =>
        have : ∀ nm2 n2, only (⟨k, lb, nm, bd, m, n, [y], u⟩ : Pt) (useP nm2 n2 [y]) = false := fun nm2 n2 => by unfold only useP; simp only; rw [decide_eq_false a1]; simp
        rw [decide_eq_false a1]
        simp only [this, Bool.and_false, Bool.false_and, ite_self]
      by_cases a2 : m = 0
      case neg =>
        have : ∀ nm2 n2, only (⟨k, lb, nm, bd, m, n, [y], u⟩ : Pt) (useP nm2 n2 [y]) = false := fun nm2 n2 => by unfold only useP; simp only; rw [decide_eq_false a2]; simp
        rw [decide_eq_false a2]
        simp only [this, Bool.and_false, Bool.false_and, ite_self]
      by_cases a3 : u.length = 0
      case neg =>
        have : ∀ nm2 n2, only (⟨k, lb, nm, bd, m, n, [y], u⟩ : Pt) (useP nm2 n2 [y]) = false := fun nm2 n2 => by unfold only useP; simp only [List.length_nil]; rw [decide_eq_false a3]; simp
        rw [decide_eq_false a3]
        simp only [this, Bool.and_false, Bool.false_and, ite_self]
      have ho : ∀ nm2 n2, only (⟨k, lb, nm, bd, m, n, [y], u⟩ : Pt) (useP nm2 n2 [y]) = (decide (nm = nm2) && decide (n = n2)) := fun nm2 n2 => by
        unfold only useP
        simp only
        rw [decide_eq_true a1, decide_eq_true a2, List.length_nil, decide_eq_true a3]
        simp
      rw [decide_eq_true a1, decide_eq_true a2, decide_eq_true a3]
      simp only [ho, Bool.true_and]
      by_cases h14 : 1 ≤ y.kind ∧ y.kind ≤ 4
      · rw [right_one h14]
        by_cases b1 : y.name.size = 0
        case neg => rw [decide_eq_false b1]; simp
        by_cases b2 : y.n = 0
        case neg => rw [decide_eq_false b2]; simp
        rw [decide_eq_true b1, decide_eq_true b2, Bool.true_and, Bool.true_and, Bool.true_and]
        by_cases b3 : 0 ≤ n
        case neg =>
          rw [decide_eq_false b3, decide_eq_false (show ¬ n = 0 by omega)]
          repeat' split
          all_goals simp
        rw [decide_eq_true b3]
        by_cases b4 : n ≤ 999999999999999999
        case neg =>
          rw [decide_eq_false b4, decide_eq_false (show ¬ n ≤ 1 by omega), decide_eq_false (show ¬ n = 0 by omega)]
          repeat' split
          all_goals simp
        rw [decide_eq_true b4]
        by_cases h1 : y.kind = 1
        · rw [if_pos h1, if_pos h1]; simp
        rw [if_neg h1, if_neg h1]
        by_cases h2 : y.kind = 2
        · rw [if_pos h2, if_pos h2]
          by_cases b5 : n < 2
          · rw [decide_eq_true b5, decide_eq_true (show n ≤ 1 by omega)]; simp
          · rw [decide_eq_false b5, decide_eq_false (show ¬ n ≤ 1 by omega)]; simp
        rw [if_neg h2, if_neg h2]
        by_cases h3 : y.kind = 3
        · rw [if_pos h3, if_pos h3]; simp
        rw [if_neg h3, if_neg h3]
        by_cases h4 : y.kind = 4
        · rw [if_pos h4]; simp
        rw [if_neg h4]
        simp
      · rw [if_neg (by omega), if_neg (by omega), if_neg (by omega), if_neg (by omega), if_neg (by omega), if_neg (by omega), if_neg (by omega)]
        simp
end E

set_option maxHeartbeats 8000000 in
set_option maxRecDepth 100000 in
theorem rliteral_any (p : E.Pt) (A1 A2 : Option Addr) (c1 c2 : Nat) (w : World) (ht : Rd w w.heap.size (.slice A1 p.t.length c1) p.t) :
    Calls Try.prog 44 #[partV p (.slice A1 p.t.length c1) (.slice A2 p.u.length c2)] w fun e w' => e = .returned (.bool (E.litR p)) ∧ Below w.heap.size w w' := by
  obtain ⟨k1, lb, nm, bd, m, n, t, u⟩ := p
  unfold partV
  simp only at *
  by_cases hl : t.length = 1
  case neg =>
    have hlz : ((t.length : Int) != 1) = true := by simp; omega
    have HT := hid ht
    have HZ : Hid (E.litR ⟨k1, lb, nm, bd, m, n, t, u⟩ = false) := hid (by cases t with
          | nil => rfl
          | cons y r =>
            cases r with
            | nil => simp at hl
            | cons z r => rfl)
    clear ht hl
    go_enter Try.func44, Try.ntmps44
    go_wp2
    go_ret
    exact ⟨ret_bool HZ.out.symm, below_new _⟩
  case pos =>
  obtain ⟨y, rfl⟩ : ∃ y, t = [y] := by
    cases t with
    | nil => simp at hl
    | cons y r =>
      cases r with
      | nil => exact ⟨y, rfl⟩
      | cons z r => simp at hl
  obtain ⟨A, cap, hv, -, -, -, hcx⟩ := ht
  obtain ⟨b, o, hA, hb, hcx⟩ := hcx (by simp)
  obtain ⟨x0, x1, x2⟩ := hcx 0 (by simp)
  simp only [List.length_cons, List.length_nil, Nat.zero_add, Nat.zero_mul, Nat.add_zero, List.getElem_cons_zero] at *
  simp only [Value.slice.injEq] at hv
  obtain ⟨rfl, -, rfl⟩ := hv
  subst hA
  have hbne : b ≠ w.heap.size := by omega
  clear hcx hl
  obtain ⟨yk, ys, yn⟩ := y
  simp only at x0 x1 x2
  by_cases hs : ys.size = 0
  case neg =>
    have hsz := ne_empty (show 0 < ys.size by omega)
    have HZ : Hid (E.litR ⟨k1, lb, nm, bd, m, n, [⟨yk, ys, yn⟩], u⟩ = false) := hid (by simp only [E.litR]; rw [decide_eq_false hs]; rfl)
    clear hs
    go_enter Try.func44, Try.ntmps44
    go_wp2
    go_ret
    exact ⟨ret_bool HZ.out.symm, below_new _⟩
  case pos =>
  have hsz := is_empty hs
  by_cases hn : yn = 0
  case neg =>
    have hnz : (yn != 0) = true := by simpa using hn
    have HZ : Hid (E.litR ⟨k1, lb, nm, bd, m, n, [⟨yk, ys, yn⟩], u⟩ = false) := hid (by simp only [E.litR]; rw [decide_eq_false hn]; simp)
    clear hs hn
    go_enter Try.func44, Try.ntmps44
    go_wp2
    go_ret
    exact ⟨ret_bool HZ.out.symm, below_new _⟩
  case pos =>
  subst hn
  by_cases h0 : n < 0
  · have HH := hid h0
    have HZ : Hid (E.litR ⟨k1, lb, nm, bd, m, n, [⟨yk, ys, 0⟩], u⟩ = false) := hid (by simp only [E.litR]; rw [decide_eq_false (show ¬ 0 ≤ n by omega)]; simp)
    clear hs
    go_enter Try.func44, Try.ntmps44
    go_wp2
    go_ret
    exact ⟨ret_bool HZ.out.symm, below_new _⟩
  by_cases h9 : 999999999999999999 < n
  · have HH := hid h9
    have HZ : Hid (E.litR ⟨k1, lb, nm, bd, m, n, [⟨yk, ys, 0⟩], u⟩ = false) := hid (by simp only [E.litR]; rw [decide_eq_false (show ¬ n ≤ 999999999999999999 by omega)]; simp)
    clear hs
    go_enter Try.func44, Try.ntmps44
    go_wp2
    go_ret
    exact ⟨ret_bool HZ.out.symm, below_new _⟩
  have hR : Hid (∀ b : Bool, (if yk = 1 then decide (nm = ⟨#[]⟩) else if yk = 2 then decide (nm = ⟨#[]⟩) && decide (n < 2) else if yk = 3 then decide (n = 0) else if yk = 4 then decide (nm = ⟨#[]⟩) && decide (n = 0) else false) = b → E.litR ⟨k1, lb, nm, bd, m, n, [⟨yk, ys, 0⟩], u⟩ = b) := hid fun b hb => by
    rw [← hb]
    simp only [E.litR]
    rw [decide_eq_true hs, decide_eq_true (show 0 ≤ n by omega), decide_eq_true (show n ≤ 999999999999999999 by omega)]
    rfl
  by_cases e1 : yk = 1
  · subst e1
    by_cases hm : nm = ⟨#[]⟩
    · have hmz := is_empty (E.size_iff.1 hm)
      have HZ : Hid (E.litR ⟨k1, lb, nm, bd, m, n, [⟨1, ys, 0⟩], u⟩ = true) := hid (hR.out _ (by rw [if_pos rfl, decide_eq_true hm]))
      clear hR hs hm
      go_enter Try.func44, Try.ntmps44
      go_wp2
      go_ret
      exact ⟨ret_bool HZ.out.symm, below_new _⟩
    · have hmz := ne_empty (Nat.pos_of_ne_zero (fun h => hm (E.size_iff.2 h)))
      have HZ : Hid (E.litR ⟨k1, lb, nm, bd, m, n, [⟨1, ys, 0⟩], u⟩ = false) := hid (hR.out _ (by rw [if_pos rfl, decide_eq_false hm]))
      clear hR hs hm
      go_enter Try.func44, Try.ntmps44
      go_wp2
      go_ret
      exact ⟨ret_bool HZ.out.symm, below_new _⟩
  have f1 : (yk == 1) = false := beq_eq_false_iff_ne.2 e1
  by_cases e2 : yk = 2
  · subst e2
    by_cases hm : nm = ⟨#[]⟩
    · have hmz := is_empty (E.size_iff.1 hm)
      by_cases h2 : n < 2
      · have HZ : Hid (E.litR ⟨k1, lb, nm, bd, m, n, [⟨2, ys, 0⟩], u⟩ = true) := hid (hR.out _ (by rw [if_neg (by decide), if_pos rfl, decide_eq_true hm, decide_eq_true h2]; rfl))
        clear hR hs hm e1
        go_enter Try.func44, Try.ntmps44
        go_wp2
        go_ret
        exact ⟨ret_bool HZ.out.symm, below_new _⟩
      · have HZ : Hid (E.litR ⟨k1, lb, nm, bd, m, n, [⟨2, ys, 0⟩], u⟩ = false) := hid (hR.out _ (by rw [if_neg (by decide), if_pos rfl, decide_eq_true hm, decide_eq_false h2]; rfl))
        clear hR hs hm e1
        go_enter Try.func44, Try.ntmps44
        go_wp2
        go_ret
        exact ⟨ret_bool HZ.out.symm, below_new _⟩
    · have hmz := ne_empty (Nat.pos_of_ne_zero (fun h => hm (E.size_iff.2 h)))
      have HZ : Hid (E.litR ⟨k1, lb, nm, bd, m, n, [⟨2, ys, 0⟩], u⟩ = false) := hid (hR.out _ (by rw [if_neg (by decide), if_pos rfl, decide_eq_false hm]; rfl))
      clear hR hs hm e1
      go_enter Try.func44, Try.ntmps44
      go_wp2
      go_ret
      exact ⟨ret_bool HZ.out.symm, below_new _⟩
  have f2 : (yk == 2) = false := beq_eq_false_iff_ne.2 e2
  by_cases e3 : yk = 3
  · subst e3
    by_cases h2 : n = 0
    · subst h2
      have HZ : Hid (E.litR ⟨k1, lb, nm, bd, m, 0, [⟨3, ys, 0⟩], u⟩ = true) := hid (hR.out _ (by rw [if_neg (by decide), if_neg (by decide), if_pos rfl, decide_eq_true rfl]))
      clear hR hs e1 e2
      go_enter Try.func44, Try.ntmps44
      go_wp2
      go_ret
      exact ⟨ret_bool HZ.out.symm, below_new _⟩
    · have hz : (n == 0) = false := beq_eq_false_iff_ne.2 h2
      have HZ : Hid (E.litR ⟨k1, lb, nm, bd, m, n, [⟨3, ys, 0⟩], u⟩ = false) := hid (hR.out _ (by rw [if_neg (by decide), if_neg (by decide), if_pos rfl, decide_eq_false h2]))
      clear hR hs e1 e2 h2
      go_enter Try.func44, Try.ntmps44
      go_wp2
      go_ret
      exact ⟨ret_bool HZ.out.symm, below_new _⟩
  have f3 : (yk == 3) = false := beq_eq_false_iff_ne.2 e3
  by_cases e4 : yk = 4
  · subst e4
    by_cases hm : nm = ⟨#[]⟩
    · have hmz := is_empty (E.size_iff.1 hm)
      by_cases h2 : n = 0
      · subst h2
        have HZ : Hid (E.litR ⟨k1, lb, nm, bd, m, 0, [⟨4, ys, 0⟩], u⟩ = true) := hid (hR.out _ (by rw [if_neg (by decide), if_neg (by decide), if_neg (by decide), if_pos rfl, decide_eq_true hm, decide_eq_true rfl]; rfl))
        clear hR hs hm e1 e2 e3
        go_enter Try.func44, Try.ntmps44
        go_wp2
        go_ret
        exact ⟨ret_bool HZ.out.symm, below_new _⟩
      · have hz : (n == 0) = false := beq_eq_false_iff_ne.2 h2
        have HZ : Hid (E.litR ⟨k1, lb, nm, bd, m, n, [⟨4, ys, 0⟩], u⟩ = false) := hid (hR.out _ (by rw [if_neg (by decide), if_neg (by decide), if_neg (by decide), if_pos rfl, decide_eq_true hm, decide_eq_false h2]; rfl))
        clear hR hs hm e1 e2 e3 h2
        go_enter Try.func44, Try.ntmps44
        go_wp2
        go_ret
        exact ⟨ret_bool HZ.out.symm, below_new _⟩
    · have hmz := ne_empty (Nat.pos_of_ne_zero (fun h => hm (E.size_iff.2 h)))
      have HZ : Hid (E.litR ⟨k1, lb, nm, bd, m, n, [⟨4, ys, 0⟩], u⟩ = false) := hid (hR.out _ (by rw [if_neg (by decide), if_neg (by decide), if_neg (by decide), if_pos rfl, decide_eq_false hm]; rfl))
      clear hR hs hm e1 e2 e3
      go_enter Try.func44, Try.ntmps44
      go_wp2
      go_ret
      exact ⟨ret_bool HZ.out.symm, below_new _⟩
  have f4 : (yk == 4) = false := beq_eq_false_iff_ne.2 e4
  have HZ : Hid (E.litR ⟨k1, lb, nm, bd, m, n, [⟨yk, ys, 0⟩], u⟩ = false) := hid (hR.out _ (by rw [if_neg e1, if_neg e2, if_neg e3, if_neg e4]))
  clear hR hs e1 e2 e3 e4
  go_enter Try.func44, Try.ntmps44
  go_wp2
  go_ret
  exact ⟨ret_bool HZ.out.symm, below_new _⟩

end Go.Proofs.Ytmcdggjcpfkchaa
end
