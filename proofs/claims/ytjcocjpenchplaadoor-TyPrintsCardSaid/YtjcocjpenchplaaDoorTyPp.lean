/-
  Plain right types that are printed alike are alike. No machine here.
-/
import Derived.Test.YtjcocjpenchplaaDoorTyPo
namespace Go.Proofs.YtjcocjpenchplaaDoor
open Go.RowKit

theorem row_uniq {N : Nat} (ihB : ∀ (x : L.Nd) (ks : L.Fo) (y : L.Nd) (ls : L.Fo) (r1 r2 : List UInt8), ks.flat.length < N → Pl x ks → Pl y ls → noArr r1 → noArr r2 → body false x ks ++ r1 = body false y ls ++ r2 → Alike x ks y ls ∧ r1 = r2)
    (pk : Int) (c : UInt8) (hp : (pk = 6 ∧ c = 125) ∨ (pk = 7 ∧ c = 93)) : ∀ (f g : L.Fo) (k : Nat) (r1 r2 : List UInt8), f.flat.length < N + 1 → Rw pk f → Rw pk g → L.prs f pk k ++ (c :: r1) = L.prs g pk k ++ (c :: r2) →
    L.sameL f.flat g.flat = true ∧ f.count = g.count ∧ r1 = r2 := by
  have hpar : ∀ k z, L.par pk k z = false := fun k z => by
    unfold L.par
    rcases hp with ⟨h, -⟩ | ⟨h, -⟩ <;> simp [h]
  have first : ∀ (y : L.Nd) (ls r : L.Fo) (k : Nat) (s1 s2 : List UInt8), Rw pk (.cons y ls r) → c :: s1 = L.prs (.cons y ls r) pk k ++ s2 → False := by
    intro y ls r k s1 s2 hr h
    obtain ⟨⟨a, t, ht, h1, h2, -, -⟩, -⟩ := label_bytes hr.2.1
    rw [L.prs_cons, prT_body] at h
    have hl : L.lab y = a :: (t ++ [58, 32]) := by
      unfold L.lab
      rw [if_neg (by intro h0; have := congrArg List.length ht; simp at this; omega), ht]
      rfl
    rw [hl] at h
    by_cases hk : 0 < k
    · rw [if_pos hk] at h
      rcases hp with ⟨rfl, rfl⟩ | ⟨rfl, rfl⟩ <;> simp [L.betw] at h
    · rw [if_neg hk] at h
      simp only [List.nil_append, List.cons_append, List.cons.injEq] at h
      rcases hp with ⟨rfl, rfl⟩ | ⟨rfl, rfl⟩
      · exact h1 h.1.symm
      · exact h2 h.1.symm
  intro f
  induction f with
  | nil =>
    intro g k r1 r2 _ _ hg h
    cases g with
    | nil => exact ⟨rfl, rfl, by simpa [L.prs] using h⟩
    | cons y ls r => exact (first y ls r k r1 _ hg (by simpa only [L.prs, List.nil_append] using h)).elim
  | cons x ks r _ ih =>
    intro g k r1 r2 hn hf hg h
    cases g with
    | nil => exact (first x ks r k r2 _ hf (by simpa only [L.prs, List.nil_append] using h.symm)).elim
    | cons y ls s =>
      obtain ⟨hx, lx, hr⟩ := hf
      obtain ⟨hy, ly, hs⟩ := hg
      rw [L.prs_cons, L.prs_cons, hpar, hpar] at h
      simp only [List.append_assoc] at h
      have h := List.append_cancel_left h
      obtain ⟨⟨a, t, ht, -⟩, ha⟩ := label_bytes lx
      obtain ⟨⟨a2, t2, ht2, -⟩, hb⟩ := label_bytes ly
      have e1 : L.lab x = x.name.data.toList ++ [58, 32] := by
        unfold L.lab
        rw [if_neg (by intro h0; have := congrArg List.length ht; simp at this; omega)]
      have e2 : L.lab y = y.name.data.toList ++ [58, 32] := by
        unfold L.lab
        rw [if_neg (by intro h0; have := congrArg List.length ht2; simp at this; omega)]
      rw [prT_body, prT_body, e1, e2] at h
      simp only [List.append_assoc, List.cons_append, List.nil_append] at h
      obtain ⟨hname, h⟩ := cut58 ha hb h
      simp only [List.cons.injEq, true_and] at h
      have na : ∀ (u : L.Fo) (q : List UInt8), noArr (L.prs u pk (k + 1) ++ (c :: q)) := by
        intro u q t ht
        cases u with
        | nil =>
          simp only [L.prs, List.nil_append, List.cons.injEq] at ht
          rcases hp with ⟨-, rfl⟩ | ⟨-, rfl⟩ <;> exact absurd ht.1 (by decide)
        | cons z l u =>
          rw [L.prs_cons, if_pos (by omega)] at ht
          rcases hp with ⟨rfl, -⟩ | ⟨rfl, -⟩ <;> simp [L.betw] at ht
      simp only [L.Fo.flat, List.length_cons, List.length_append] at hn
      obtain ⟨hal, h⟩ := ihB x ks y ls _ _ (by omega) hx hy (na r r1) (na s r2) h
      obtain ⟨h1, h2, h3⟩ := ih s (k + 1) r1 r2 (by omega) hr hs h
      refine ⟨?_, by simp only [L.Fo.count, h2], h3⟩
      simp only [L.Fo.flat]
      exact sameL_append (a := x :: ks.flat) (b := y :: ls.flat) (hal.node (ByteArray.ext (Array.toList_inj.1 hname))) h1

theorem uniq (N : Nat) :
    (∀ (x : L.Nd) (ks : L.Fo) (y : L.Nd) (ls : L.Fo) (r1 r2 : List UInt8), ks.flat.length < N → Pl x ks → Pl y ls → body (decide (x.kind = 5)) x ks ++ r1 = body (decide (y.kind = 5)) y ls ++ r2 → Alike x ks y ls ∧ r1 = r2) ∧
    (∀ (x : L.Nd) (ks : L.Fo) (y : L.Nd) (ls : L.Fo) (r1 r2 : List UInt8), ks.flat.length < N → Pl x ks → Pl y ls → noArr r1 → noArr r2 → body false x ks ++ r1 = body false y ls ++ r2 → Alike x ks y ls ∧ r1 = r2) := by
  induction N with
  | zero => exact ⟨fun _ _ _ _ _ _ h => by omega, fun _ _ _ _ _ _ h => by omega⟩
  | succ N ih =>
    obtain ⟨ihA, ihB⟩ := ih
    have arr : ∀ (x : L.Nd) (ks : L.Fo) (y : L.Nd) (ls : L.Fo) (r1 r2 : List UInt8), ks.flat.length < N + 1 → Pl x ks → Pl y ls → x.kind = 5 → y.kind = 5 → noArr r1 → noArr r2 → body false x ks ++ r1 = body false y ls ++ r2 → Alike x ks y ls ∧ r1 = r2 := by
      intro x ks y ls r1 r2 hn hx hy kx ky n1 n2 h
      obtain ⟨a, ka, b, kb, rfl, pa, pb, na, nb, ex⟩ := hx.arrow kx
      obtain ⟨a2, la, b2, lb, rfl, pa2, pb2, na2, nb2, ey⟩ := hy.arrow ky
      rw [ex, ey] at h
      simp only [List.append_assoc] at h
      simp only [L.Fo.flat, List.length_cons, List.length_append, List.append_nil] at hn
      obtain ⟨h1, h⟩ := ihA a ka a2 la _ _ (by omega) pa pa2 h
      obtain ⟨h2, h3⟩ := ihB b kb b2 lb r1 r2 (by omega) pb pb2 n1 n2 (List.append_cancel_left h)
      refine ⟨⟨kx.trans ky.symm, Or.inl ?_, ?_, rfl⟩, h3⟩
      · rw [n_zero hx.num.1 (by omega), n_zero hy.num.1 (by omega)]
      · simp only [L.Fo.flat, List.append_nil]
        exact sameL_append (a := a :: ka.flat) (b := a2 :: la.flat) (h1.node (na.trans na2.symm)) (h2.node (nb.trans nb2.symm))
    have A : ∀ (x : L.Nd) (ks : L.Fo) (y : L.Nd) (ls : L.Fo) (r1 r2 : List UInt8), ks.flat.length < N + 1 → Pl x ks → Pl y ls → body (decide (x.kind = 5)) x ks ++ r1 = body (decide (y.kind = 5)) y ls ++ r2 → Alike x ks y ls ∧ r1 = r2 := by
      intro x ks y ls r1 r2 hn hx hy h
      have hk : x.kind = y.kind := by
        obtain ⟨t1, e1⟩ := hx.head
        obtain ⟨t2, e2⟩ := hy.head
        rw [e1, e2] at h
        simp only [List.cons_append, List.cons.injEq] at h
        exact hb_inj hx.kinds hy.kinds h.1
      by_cases h5 : x.kind = 5
      · have h5y : y.kind = 5 := hk ▸ h5
        rw [show decide (x.kind = 5) = true by simpa using h5, show decide (y.kind = 5) = true by simpa using h5y, body_round, body_round] at h
        simp only [List.cons_append, List.append_assoc, List.cons.injEq, true_and, List.nil_append] at h
        have nn : ∀ r : List UInt8, noArr (41 :: r) := fun r t h => by simp at h
        obtain ⟨h1, h2⟩ := arr x ks y ls _ _ hn hx hy h5 h5y (nn r1) (nn r2) h
        exact ⟨h1, by simpa using h2⟩
      · have h5y : y.kind ≠ 5 := hk ▸ h5
        rw [show decide (x.kind = 5) = false by simpa using h5, show decide (y.kind = 5) = false by simpa using h5y] at h
        have hkk := hx.kinds
        by_cases h67 : x.kind = 6 ∨ x.kind = 7
        · have h67y : y.kind = 6 ∨ y.kind = 7 := hk ▸ h67
          obtain ⟨wx, nx⟩ := hx.row h67
          obtain ⟨wy, ny⟩ := hy.row h67y
          rw [← hk] at wy
          have key : ∃ c, ((x.kind = 6 ∧ c = 125) ∨ (x.kind = 7 ∧ c = 93)) ∧ L.prs ks x.kind 0 ++ (c :: r1) = L.prs ls x.kind 0 ++ (c :: r2) := by
            unfold body L.opn L.cls at h
            rw [← hk] at h
            rcases h67 with h6 | h6
            · exact ⟨125, Or.inl ⟨h6, rfl⟩, by simpa [L.first, L.last, h6, ← hk] using h⟩
            · exact ⟨93, Or.inr ⟨h6, rfl⟩, by simpa [L.first, L.last, h6, ← hk] using h⟩
          obtain ⟨c, hc, h⟩ := key
          obtain ⟨h1, h2, h3⟩ := row_uniq ihB x.kind c hc ks ls 0 r1 r2 hn wx wy h
          exact ⟨⟨hk, Or.inl (by rw [nx, ny, h2]), h1, h2⟩, h3⟩
        · have hb1 : x.kind = 0 ∨ x.kind = 1 ∨ x.kind = 2 ∨ x.kind = 3 ∨ x.kind = 4 := by omega
          have hb2 : y.kind = 0 ∨ y.kind = 1 ∨ y.kind = 2 ∨ y.kind = 3 ∨ y.kind = 4 := by omega
          obtain ⟨rfl, ex⟩ := hx.base hb1
          obtain ⟨rfl, ey⟩ := hy.base hb2
          have ef : L.first x = L.first y := by
            rcases hb1 with h0 | h0 | h0 | h0 | h0 <;> (have h00 := hk ▸ h0; simp [L.first, h0, h00])
          rw [ex, ey, ef] at h
          refine ⟨⟨hk, ?_, rfl, rfl⟩, List.append_cancel_left h⟩
          by_cases h0 : x.kind = 0
          · exact Or.inr h0
          · exact Or.inl (by rw [n_zero hx.num.1 (by omega), n_zero hy.num.1 (by omega)])
    refine ⟨A, ?_⟩
    intro x ks y ls r1 r2 hn hx hy n1 n2 h
    by_cases h5 : x.kind = 5
    · by_cases h5y : y.kind = 5
      · exact arr x ks y ls r1 r2 hn hx hy h5 h5y n1 n2 h
      · obtain ⟨a, ka, b, kb, rfl, pa, -, -, -, ex⟩ := hx.arrow h5
        rw [ex, List.append_assoc, show false = decide (y.kind = 5) by simp [h5y]] at h
        simp only [L.Fo.flat, List.length_cons, List.length_append, List.append_nil] at hn
        obtain ⟨-, h2⟩ := ihA a ka y ls _ _ (by omega) pa hy h
        exact (n2 _ (by rw [← h2]; rfl)).elim
    · by_cases h5y : y.kind = 5
      · obtain ⟨a, ka, b, kb, rfl, pa, -, -, -, ey⟩ := hy.arrow h5y
        rw [ey, List.append_assoc, show false = decide (x.kind = 5) by simp [h5]] at h
        obtain ⟨-, h2⟩ := A x ks a ka _ _ hn hx pa h
        exact (n1 _ (by rw [h2]; rfl)).elim
      · refine A x ks y ls r1 r2 hn hx hy ?_
        rw [show decide (x.kind = 5) = false by simpa using h5, show decide (y.kind = 5) = false by simpa using h5y]
        exact h

/-- Plain right types that are printed alike are alike. -/
theorem print_uniq {x y : L.Nd} {ka kb : L.Fo} (h1 : Pl x ka) (h2 : Pl y kb) (b1 : L.bare x = true) (b2 : L.bare y = true) (h : L.prT false x ka = L.prT false y kb) : L.sameL (x :: ka.flat) (y :: kb.flat) = true := by
  have nx := bare_name b1
  have ny := bare_name b2
  have lx : L.lab x = [] := by unfold L.lab; rw [nx]; rfl
  have ly : L.lab y = [] := by unfold L.lab; rw [ny]; rfl
  rw [prT_body, prT_body, lx, ly, List.nil_append, List.nil_append] at h
  have nn : noArr [] := fun t h => by simp at h
  exact ((uniq (ka.flat.length + 1)).2 x ka y kb [] [] (by omega) h1 h2 nn nn (by rw [h])).1.node (nx.trans ny.symm)

end Go.Proofs.YtjcocjpenchplaaDoor
