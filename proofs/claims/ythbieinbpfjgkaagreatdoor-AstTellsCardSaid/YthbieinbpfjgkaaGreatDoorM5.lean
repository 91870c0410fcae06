/-
  The texts TyPo, TyPp, one behind the other. Conditions: those that each of them names.
-/
import Derived.Test.YthbieinbpfjgkaaGreatDoorM4
section
/-
  Plain right types that are printed alike are alike: the trees' shapes, and the one way to read a print. No machine here.
-/
namespace Go.Proofs.YthbieinbpfjgkaaGreatDoor
open Go.RowKit

theorem Pl.kinds {x : L.Nd} {ks : L.Fo} (h : Pl x ks) : 0 ≤ x.kind ∧ x.kind ≤ 7 := by
  have h1 := h.1
  simp only [L.Fo.ok, Bool.and_true, Bool.and_eq_true] at h1
  have h2 := (kind_of h1.1.1.1).1
  have h3 := h.2 x (by simp)
  omega

theorem Pl.num {x : L.Nd} {ks : L.Fo} (h : Pl x ks) : L.numbered x = true ∧ L.many x = ks.count ∧ L.Fo.stand x 0 ⟨#[]⟩ ks = true ∧ ks.ok = true := by
  have h1 := h.1
  simp only [L.Fo.ok, Bool.and_true, Bool.and_eq_true, decide_eq_true_eq] at h1
  exact ⟨h1.1.1.1, h1.1.1.2, h1.1.2, h1.2⟩

theorem Pl.base {x : L.Nd} {ks : L.Fo} (h : Pl x ks) (hk : x.kind = 0 ∨ x.kind = 1 ∨ x.kind = 2 ∨ x.kind = 3 ∨ x.kind = 4) : ks = .nil ∧ body false x ks = L.first x := by
  have h2 := h.num.2.1
  rw [many_small hk] at h2
  have : ks = .nil := by
    cases ks with
    | nil => rfl
    | cons y l r => simp [L.Fo.count] at h2; omega
  subst this
  refine ⟨rfl, ?_⟩
  rcases hk with hk | hk | hk | hk | hk <;> simp [body, L.opn, L.cls, L.prs, L.last, hk]

theorem Pl.kids {x y : L.Nd} {ks ls r : L.Fo} (h : Pl x ks) (he : ks = .cons y ls r) : Pl y ls := by
  subst he
  have h1 := h.num.2.2.2
  simp only [L.Fo.ok, Bool.and_eq_true] at h1
  refine ⟨by simp only [L.Fo.ok, Bool.and_true, Bool.and_eq_true]; exact h1.1, fun z hz => h.2 z ?_⟩
  simp only [L.Fo.flat, List.mem_cons, List.mem_append] at hz ⊢
  rcases hz with hz | hz
  · exact Or.inr (Or.inl hz)
  · exact Or.inr (Or.inr (Or.inl hz))

theorem Pl.arrow {x : L.Nd} {ks : L.Fo} (h : Pl x ks) (hk : x.kind = 5) : ∃ a ka b kb, ks = .cons a ka (.cons b kb .nil) ∧ Pl a ka ∧ Pl b kb ∧ a.name = ⟨#[]⟩ ∧ b.name = ⟨#[]⟩ ∧
    body false x ks = body (decide (a.kind = 5)) a ka ++ ([32, 45, 62, 32] ++ body false b kb) := by
  obtain ⟨-, h2, h3, h4⟩ := h.num
  rw [many_arrow hk] at h2
  cases ks with
  | nil => simp [L.Fo.count] at h2
  | cons a ka r =>
    cases r with
    | nil => simp [L.Fo.count] at h2
    | cons b kb r =>
      cases r with
      | cons c kc r => simp [L.Fo.count] at h2; omega
      | nil =>
        simp only [L.Fo.stand, L.mayStand, hk, if_true, Bool.and_true, Bool.and_eq_true] at h3
        have na := bare_name h3.1
        have nb := bare_name h3.2
        refine ⟨a, ka, b, kb, rfl, h.kids rfl, ⟨?_, fun z hz => h.2 z ?_⟩, na, nb, ?_⟩
        · simp only [L.Fo.ok, Bool.and_true, Bool.and_eq_true] at h4 ⊢
          exact h4.2
        · simp only [L.Fo.flat, List.mem_cons, List.mem_append, List.append_nil] at hz ⊢
          exact Or.inr (Or.inr (Or.inr hz))
        · have la : L.lab a = [] := by unfold L.lab; rw [na]; rfl
          have lb : L.lab b = [] := by unfold L.lab; rw [nb]; rfl
          have p0 : L.par 5 0 a = decide (a.kind = 5) := by simp [L.par]
          have p1 : L.par 5 1 b = false := rfl
          rw [body, hk, L.prs_cons, L.prs_cons, L.prs, prT_body, prT_body, la, lb, p0, p1]
          simp [L.opn, L.cls, L.first, L.last, L.betw, hk]

theorem body_round (x : L.Nd) (ks : L.Fo) : body true x ks = 40 :: (body false x ks ++ [41]) := by
  simp [body, L.opn, L.cls]

/-- The children of a record or a union. -/
def Rw (pk : Int) : L.Fo → Prop
  | .nil => True
  | .cons x ks r => Pl x ks ∧ L.isLabel pk x.name = true ∧ Rw pk r

theorem row_of {x : L.Nd} (hk : x.kind ≠ 5) : ∀ (f : L.Fo) (k : Nat) (b : ByteArray), f.ok = true → L.Fo.stand x k b f = true → (∀ z ∈ f.flat, z.kind ≠ 8 ∧ z.kind ≠ 9) → Rw x.kind f
  | .nil, _, _, _, _, _ => trivial
  | .cons y ls r, k, b, ho, hs, hv => by
    simp only [L.Fo.ok, Bool.and_eq_true] at ho
    simp only [L.Fo.stand, Bool.and_eq_true] at hs
    have hy := hv y (by simp [L.Fo.flat])
    refine ⟨⟨by simp only [L.Fo.ok, Bool.and_true, Bool.and_eq_true]; exact ho.1, fun z hz => hv z ?_⟩, ?_, row_of hk r (k + 1) y.name ho.2 hs.2 fun z hz => hv z ?_⟩
    · simp only [L.Fo.flat, List.mem_cons, List.mem_append] at hz ⊢
      rcases hz with hz | hz
      · exact Or.inl hz
      · exact Or.inr (Or.inl hz)
    · have := hs.1
      unfold L.mayStand at this
      rw [if_neg hk, if_neg hy.2, Bool.and_eq_true] at this
      exact this.1
    · simp only [L.Fo.flat, List.mem_cons, List.mem_append]
      exact Or.inr (Or.inr hz)

theorem Pl.row {x : L.Nd} {ks : L.Fo} (h : Pl x ks) (hk : x.kind = 6 ∨ x.kind = 7) : Rw x.kind ks ∧ x.n = ks.count := by
  obtain ⟨-, h2, h3, h4⟩ := h.num
  rw [many_row hk] at h2
  exact ⟨row_of (by omega) ks 0 ⟨#[]⟩ h4 h3 fun z hz => h.2 z (by simp [hz]), h2⟩

def hb (k : Int) : UInt8 := if k = 0 then 63 else if k = 1 then 105 else if k = 2 then 98 else if k = 3 then 115 else if k = 4 then 117 else if k = 5 then 40 else if k = 6 then 123 else 91

theorem hb_inj {j k : Int} (hj : 0 ≤ j ∧ j ≤ 7) (hk : 0 ≤ k ∧ k ≤ 7) (h : hb j = hb k) : j = k := by
  obtain rfl | rfl | rfl | rfl | rfl | rfl | rfl | rfl : j = 0 ∨ j = 1 ∨ j = 2 ∨ j = 3 ∨ j = 4 ∨ j = 5 ∨ j = 6 ∨ j = 7 := by omega
  all_goals
    obtain rfl | rfl | rfl | rfl | rfl | rfl | rfl | rfl : k = 0 ∨ k = 1 ∨ k = 2 ∨ k = 3 ∨ k = 4 ∨ k = 5 ∨ k = 6 ∨ k = 7 := by omega
    all_goals first
      | rfl
      | exact absurd h (by decide)

theorem Pl.head {x : L.Nd} {ks : L.Fo} (h : Pl x ks) : ∃ t, body (decide (x.kind = 5)) x ks = hb x.kind :: t := by
  have hk := h.kinds
  by_cases h5 : x.kind = 5
  · rw [h5]
    exact ⟨_, body_round x ks⟩
  · rw [show decide (x.kind = 5) = false by simpa using h5, body, L.opn]
    have : x.kind = 0 ∨ x.kind = 1 ∨ x.kind = 2 ∨ x.kind = 3 ∨ x.kind = 4 ∨ x.kind = 6 ∨ x.kind = 7 := by omega
    rcases this with h | h | h | h | h | h | h <;> exact ⟨_, by simp [L.first, hb, h]; rfl⟩

theorem sameL_append {a b c d : List L.Nd} (h1 : L.sameL a b = true) (h2 : L.sameL c d = true) : L.sameL (a ++ c) (b ++ d) = true := by
  induction a generalizing b with
  | nil => cases b with
    | nil => exact h2
    | cons y b => simp [L.sameL] at h1
  | cons x a ih => cases b with
    | nil => simp [L.sameL] at h1
    | cons y b =>
      simp only [L.sameL, Bool.and_eq_true, List.cons_append] at h1 ⊢
      exact ⟨h1.1, ih h1.2⟩

theorem Alike.node {x y : L.Nd} {ks ls : L.Fo} (h : Alike x ks y ls) (hn : x.name = y.name) : L.sameL (x :: ks.flat) (y :: ls.flat) = true := by
  rw [L.sameL, Bool.and_eq_true]
  exact ⟨(L.sameN_iff x y).2 ⟨h.1, hn, h.2.1⟩, h.2.2.1⟩

end Go.Proofs.YthbieinbpfjgkaaGreatDoor
end

section
/-
  Plain right types that are printed alike are alike. No machine here.
-/
namespace Go.Proofs.YthbieinbpfjgkaaGreatDoor
open Go.RowKit

theorem row_uniq {N : Nat} (ihB : ∀ (x : L.Nd) (ks : L.Fo) (y : L.Nd) (ls : L.Fo) (r1 r2 : List UInt8), ks.flat.length < N → Pl x ks → Pl y ls → noArr r1 → noArr r2 → body false x ks ++ r1 = body false y ls ++ r2 → Alike x ks y ls ∧ r1 = r2)
    (pk : Int) (c : UInt8) (hp : (pk = 6 ∧ c = 125) ∨ (pk = 7 ∧ c = 93)) : ∀ (f g : L.Fo) (k : Nat) (r1 r2 : List UInt8), f.flat.length < N + 1 → Rw pk f → Rw pk g → L.prs f pk k ++ (c :: r1) = L.prs g pk k ++ (c :: r2) →
    L.sameL f.flat g.flat = true ∧ f.count = g.count ∧ r1 = r2 := by
  have hpar : ∀ k z, L.par pk k z = false := fun k z => by
    unfold L.par
    rcases hp with ⟨h, -⟩ | ⟨h, -⟩ <;> simp [h]
  have first : ∀ (y : L.Nd) (ls r : L.Fo) (k : Nat) (s1 s2 : List UInt8), Rw pk (.cons y ls r) → c :: s1 = L.prs (.cons y ls r) pk k ++ s2 → False := by
    intro y ls r k s1 s2 hr h
    obtain ⟨⟨a, t, ht, h1, h2, -, -⟩, -⟩ := label_bytes hr.2.1
    rw [L.prs_cons, prT_body] at h
    have hl : L.lab y = a :: (t ++ [58, 32]) := by
      unfold L.lab
      rw [if_neg (by intro h0; have := congrArg List.length ht; simp at this; omega), ht]
      rfl
    rw [hl] at h
    by_cases hk : 0 < k
    · rw [if_pos hk] at h
      rcases hp with ⟨rfl, rfl⟩ | ⟨rfl, rfl⟩ <;> simp [L.betw] at h
    · rw [if_neg hk] at h
      simp only [List.nil_append, List.cons_append, List.cons.injEq] at h
      rcases hp with ⟨rfl, rfl⟩ | ⟨rfl, rfl⟩
      · exact h1 h.1.symm
      · exact h2 h.1.symm
  intro f
  induction f with
  | nil =>
    intro g k r1 r2 _ _ hg h
    cases g with
    | nil => exact ⟨rfl, rfl, by simpa [L.prs] using h⟩
    | cons y ls r => exact (first y ls r k r1 _ hg (by simpa only [L.prs, List.nil_append] using h)).elim
  | cons x ks r _ ih =>
    intro g k r1 r2 hn hf hg h
    cases g with
    | nil => exact (first x ks r k r2 _ hf (by simpa only [L.prs, List.nil_append] using h.symm)).elim
    | cons y ls s =>
      obtain ⟨hx, lx, hr⟩ := hf
      obtain ⟨hy, ly, hs⟩ := hg
      rw [L.prs_cons, L.prs_cons, hpar, hpar] at h
      simp only [List.append_assoc] at h
      have h := List.append_cancel_left h
      obtain ⟨⟨a, t, ht, -⟩, ha⟩ := label_bytes lx
      obtain ⟨⟨a2, t2, ht2, -⟩, hb⟩ := label_bytes ly
      have e1 : L.lab x = x.name.data.toList ++ [58, 32] := by
        unfold L.lab
        rw [if_neg (by intro h0; have := congrArg List.length ht; simp at this; omega)]
      have e2 : L.lab y = y.name.data.toList ++ [58, 32] := by
        unfold L.lab
        rw [if_neg (by intro h0; have := congrArg List.length ht2; simp at this; omega)]
      rw [prT_body, prT_body, e1, e2] at h
      simp only [List.append_assoc, List.cons_append, List.nil_append] at h
      obtain ⟨hname, h⟩ := cut58 ha hb h
      simp only [List.cons.injEq, true_and] at h
      have na : ∀ (u : L.Fo) (q : List UInt8), noArr (L.prs u pk (k + 1) ++ (c :: q)) := by
        intro u q t ht
        cases u with
        | nil =>
          simp only [L.prs, List.nil_append, List.cons.injEq] at ht
          rcases hp with ⟨-, rfl⟩ | ⟨-, rfl⟩ <;> exact absurd ht.1 (by decide)
        | cons z l u =>
          rw [L.prs_cons, if_pos (by omega)] at ht
          rcases hp with ⟨rfl, -⟩ | ⟨rfl, -⟩ <;> simp [L.betw] at ht
      simp only [L.Fo.flat, List.length_cons, List.length_append] at hn
      obtain ⟨hal, h⟩ := ihB x ks y ls _ _ (by omega) hx hy (na r r1) (na s r2) h
      obtain ⟨h1, h2, h3⟩ := ih s (k + 1) r1 r2 (by omega) hr hs h
      refine ⟨?_, by simp only [L.Fo.count, h2], h3⟩
      simp only [L.Fo.flat]
      exact sameL_append (a := x :: ks.flat) (b := y :: ls.flat) (hal.node (ByteArray.ext (Array.toList_inj.1 hname))) h1

theorem uniq (N : Nat) :
    (∀ (x : L.Nd) (ks : L.Fo) (y : L.Nd) (ls : L.Fo) (r1 r2 : List UInt8), ks.flat.length < N → Pl x ks → Pl y ls → body (decide (x.kind = 5)) x ks ++ r1 = body (decide (y.kind = 5)) y ls ++ r2 → Alike x ks y ls ∧ r1 = r2) ∧
    (∀ (x : L.Nd) (ks : L.Fo) (y : L.Nd) (ls : L.Fo) (r1 r2 : List UInt8), ks.flat.length < N → Pl x ks → Pl y ls → noArr r1 → noArr r2 → body false x ks ++ r1 = body false y ls ++ r2 → Alike x ks y ls ∧ r1 = r2) := by
  induction N with
  | zero => exact ⟨fun _ _ _ _ _ _ h => by omega, fun _ _ _ _ _ _ h => by omega⟩
  | succ N ih =>
    obtain ⟨ihA, ihB⟩ := ih
    have arr : ∀ (x : L.Nd) (ks : L.Fo) (y : L.Nd) (ls : L.Fo) (r1 r2 : List UInt8), ks.flat.length < N + 1 → Pl x ks → Pl y ls → x.kind = 5 → y.kind = 5 → noArr r1 → noArr r2 → body false x ks ++ r1 = body false y ls ++ r2 → Alike x ks y ls ∧ r1 = r2 := by
      intro x ks y ls r1 r2 hn hx hy kx ky n1 n2 h
      obtain ⟨a, ka, b, kb, rfl, pa, pb, na, nb, ex⟩ := hx.arrow kx
      obtain ⟨a2, la, b2, lb, rfl, pa2, pb2, na2, nb2, ey⟩ := hy.arrow ky
      rw [ex, ey] at h
      simp only [List.append_assoc] at h
      simp only [L.Fo.flat, List.length_cons, List.length_append, List.append_nil] at hn
      obtain ⟨h1, h⟩ := ihA a ka a2 la _ _ (by omega) pa pa2 h
      obtain ⟨h2, h3⟩ := ihB b kb b2 lb r1 r2 (by omega) pb pb2 n1 n2 (List.append_cancel_left h)
      refine ⟨⟨kx.trans ky.symm, Or.inl ?_, ?_, rfl⟩, h3⟩
      · rw [n_zero hx.num.1 (by omega), n_zero hy.num.1 (by omega)]
      · simp only [L.Fo.flat, List.append_nil]
        exact sameL_append (a := a :: ka.flat) (b := a2 :: la.flat) (h1.node (na.trans na2.symm)) (h2.node (nb.trans nb2.symm))
    have A : ∀ (x : L.Nd) (ks : L.Fo) (y : L.Nd) (ls : L.Fo) (r1 r2 : List UInt8), ks.flat.length < N + 1 → Pl x ks → Pl y ls → body (decide (x.kind = 5)) x ks ++ r1 = body (decide (y.kind = 5)) y ls ++ r2 → Alike x ks y ls ∧ r1 = r2 := by
      intro x ks y ls r1 r2 hn hx hy h
      have hk : x.kind = y.kind := by
        obtain ⟨t1, e1⟩ := hx.head
        obtain ⟨t2, e2⟩ := hy.head
        rw [e1, e2] at h
        simp only [List.cons_append, List.cons.injEq] at h
        exact hb_inj hx.kinds hy.kinds h.1
      by_cases h5 : x.kind = 5
      · have h5y : y.kind = 5 := hk ▸ h5
        rw [show decide (x.kind = 5) = true by simpa using h5, show decide (y.kind = 5) = true by simpa using h5y, body_round, body_round] at h
        simp only [List.cons_append, List.append_assoc, List.cons.injEq, true_and, List.nil_append] at h
        have nn : ∀ r : List UInt8, noArr (41 :: r) := fun r t h => by simp at h
        obtain ⟨h1, h2⟩ := arr x ks y ls _ _ hn hx hy h5 h5y (nn r1) (nn r2) h
        exact ⟨h1, by simpa using h2⟩
      · have h5y : y.kind ≠ 5 := hk ▸ h5
        rw [show decide (x.kind = 5) = false by simpa using h5, show decide (y.kind = 5) = false by simpa using h5y] at h
        have hkk := hx.kinds
        by_cases h67 : x.kind = 6 ∨ x.kind = 7
        · have h67y : y.kind = 6 ∨ y.kind = 7 := hk ▸ h67
          obtain ⟨wx, nx⟩ := hx.row h67
          obtain ⟨wy, ny⟩ := hy.row h67y
          rw [← hk] at wy
          have key : ∃ c, ((x.kind = 6 ∧ c = 125) ∨ (x.kind = 7 ∧ c = 93)) ∧ L.prs ks x.kind 0 ++ (c :: r1) = L.prs ls x.kind 0 ++ (c :: r2) := by
            unfold body L.opn L.cls at h
            rw [← hk] at h
            rcases h67 with h6 | h6
            · exact ⟨125, Or.inl ⟨h6, rfl⟩, by simpa [L.first, L.last, h6, ← hk] using h⟩
            · exact ⟨93, Or.inr ⟨h6, rfl⟩, by simpa [L.first, L.last, h6, ← hk] using h⟩
          obtain ⟨c, hc, h⟩ := key
          obtain ⟨h1, h2, h3⟩ := row_uniq ihB x.kind c hc ks ls 0 r1 r2 hn wx wy h
          exact ⟨⟨hk, Or.inl (by rw [nx, ny, h2]), h1, h2⟩, h3⟩
        · have hb1 : x.kind = 0 ∨ x.kind = 1 ∨ x.kind = 2 ∨ x.kind = 3 ∨ x.kind = 4 := by omega
          have hb2 : y.kind = 0 ∨ y.kind = 1 ∨ y.kind = 2 ∨ y.kind = 3 ∨ y.kind = 4 := by omega
          obtain ⟨rfl, ex⟩ := hx.base hb1
          obtain ⟨rfl, ey⟩ := hy.base hb2
          have ef : L.first x = L.first y := by
            rcases hb1 with h0 | h0 | h0 | h0 | h0 <;> (have h00 := hk ▸ h0; simp [L.first, h0, h00])
          rw [ex, ey, ef] at h
          refine ⟨⟨hk, ?_, rfl, rfl⟩, List.append_cancel_left h⟩
          by_cases h0 : x.kind = 0
          · exact Or.inr h0
          · exact Or.inl (by rw [n_zero hx.num.1 (by omega), n_zero hy.num.1 (by omega)])
    refine ⟨A, ?_⟩
    intro x ks y ls r1 r2 hn hx hy n1 n2 h
    by_cases h5 : x.kind = 5
    · by_cases h5y : y.kind = 5
      · exact arr x ks y ls r1 r2 hn hx hy h5 h5y n1 n2 h
      · obtain ⟨a, ka, b, kb, rfl, pa, -, -, -, ex⟩ := hx.arrow h5
        rw [ex, List.append_assoc, show false = decide (y.kind = 5) by simp [h5y]] at h
        simp only [L.Fo.flat, List.length_cons, List.length_append, List.append_nil] at hn
        obtain ⟨-, h2⟩ := ihA a ka y ls _ _ (by omega) pa hy h
        exact (n2 _ (by rw [← h2]; rfl)).elim
    · by_cases h5y : y.kind = 5
      · obtain ⟨a, ka, b, kb, rfl, pa, -, -, -, ey⟩ := hy.arrow h5y
        rw [ey, List.append_assoc, show false = decide (x.kind = 5) by simp [h5]] at h
        obtain ⟨-, h2⟩ := A x ks a ka _ _ hn hx pa h
        exact (n1 _ (by rw [h2]; rfl)).elim
      · refine A x ks y ls r1 r2 hn hx hy ?_
        rw [show decide (x.kind = 5) = false by simpa using h5, show decide (y.kind = 5) = false by simpa using h5y]
        exact h

/-- Plain right types that are printed alike are alike. -/
theorem print_uniq {x y : L.Nd} {ka kb : L.Fo} (h1 : Pl x ka) (h2 : Pl y kb) (b1 : L.bare x = true) (b2 : L.bare y = true) (h : L.prT false x ka = L.prT false y kb) : L.sameL (x :: ka.flat) (y :: kb.flat) = true := by
  have nx := bare_name b1
  have ny := bare_name b2
  have lx : L.lab x = [] := by unfold L.lab; rw [nx]; rfl
  have ly : L.lab y = [] := by unfold L.lab; rw [ny]; rfl
  rw [prT_body, prT_body, lx, ly, List.nil_append, List.nil_append] at h
  have nn : noArr [] := fun t h => by simp at h
  exact ((uniq (ka.flat.length + 1)).2 x ka y kb [] [] (by omega) h1 h2 nn nn (by rw [h])).1.node (nx.trans ny.symm)

end Go.Proofs.YthbieinbpfjgkaaGreatDoor
end
