/-
  Plain right types that are printed alike are alike: the trees' shapes, and the one way to read a print. No machine here.
-/
import Derived.Test.YtgghmhgbdknkaaaM4
namespace Go.Proofs.Ytgghmhgbdknkaaa
open Go.RowKit

theorem Pl.kinds {x : L.Nd} {ks : L.Fo} (h : Pl x ks) : 0 ≤ x.kind ∧ x.kind ≤ 7 := by
  have h1 := h.1
  simp only [L.Fo.ok, Bool.and_true, Bool.and_eq_true] at h1
  have h2 := (kind_of h1.1.1.1).1
  have h3 := h.2 x (by simp)
  omega

theorem Pl.num {x : L.Nd} {ks : L.Fo} (h : Pl x ks) : L.numbered x = true ∧ L.many x = ks.count ∧ L.Fo.stand x 0 ⟨#[]⟩ ks = true ∧ ks.ok = true := by
  have h1 := h.1
  simp only [L.Fo.ok, Bool.and_true, Bool.and_eq_true, decide_eq_true_eq] at h1
  exact ⟨h1.1.1.1, h1.1.1.2, h1.1.2, h1.2⟩

theorem Pl.base {x : L.Nd} {ks : L.Fo} (h : Pl x ks) (hk : x.kind = 0 ∨ x.kind = 1 ∨ x.kind = 2 ∨ x.kind = 3 ∨ x.kind = 4) : ks = .nil ∧ body false x ks = L.first x := by
  have h2 := h.num.2.1
  rw [many_small hk] at h2
  have : ks = .nil := by
    cases ks with
    | nil => rfl
    | cons y l r => simp [L.Fo.count] at h2; omega
  subst this
  refine ⟨rfl, ?_⟩
  rcases hk with hk | hk | hk | hk | hk <;> simp [body, L.opn, L.cls, L.prs, L.last, hk]

theorem Pl.kids {x y : L.Nd} {ks ls r : L.Fo} (h : Pl x ks) (he : ks = .cons y ls r) : Pl y ls := by
  subst he
  have h1 := h.num.2.2.2
  simp only [L.Fo.ok, Bool.and_eq_true] at h1
  refine ⟨by simp only [L.Fo.ok, Bool.and_true, Bool.and_eq_true]; exact h1.1, fun z hz => h.2 z ?_⟩
  simp only [L.Fo.flat, List.mem_cons, List.mem_append] at hz ⊢
  rcases hz with hz | hz
  · exact Or.inr (Or.inl hz)
  · exact Or.inr (Or.inr (Or.inl hz))

theorem Pl.arrow {x : L.Nd} {ks : L.Fo} (h : Pl x ks) (hk : x.kind = 5) : ∃ a ka b kb, ks = .cons a ka (.cons b kb .nil) ∧ Pl a ka ∧ Pl b kb ∧ a.name = ⟨#[]⟩ ∧ b.name = ⟨#[]⟩ ∧
    body false x ks = body (decide (a.kind = 5)) a ka ++ ([32, 45, 62, 32] ++ body false b kb) := by
  obtain ⟨-, h2, h3, h4⟩ := h.num
  rw [many_arrow hk] at h2
  cases ks with
  | nil => simp [L.Fo.count] at h2
  | cons a ka r =>
    cases r with
    | nil => simp [L.Fo.count] at h2
    | cons b kb r =>
      cases r with
      | cons c kc r => simp [L.Fo.count] at h2; omega
      | nil =>
        simp only [L.Fo.stand, L.mayStand, hk, if_true, Bool.and_true, Bool.and_eq_true] at h3
        have na := bare_name h3.1
        have nb := bare_name h3.2
        refine ⟨a, ka, b, kb, rfl, h.kids rfl, ⟨?_, fun z hz => h.2 z ?_⟩, na, nb, ?_⟩
        · simp only [L.Fo.ok, Bool.and_true, Bool.and_eq_true] at h4 ⊢
          exact h4.2
        · simp only [L.Fo.flat, List.mem_cons, List.mem_append, List.append_nil] at hz ⊢
          exact Or.inr (Or.inr (Or.inr hz))
        · have la : L.lab a = [] := by unfold L.lab; rw [na]; rfl
          have lb : L.lab b = [] := by unfold L.lab; rw [nb]; rfl
          have p0 : L.par 5 0 a = decide (a.kind = 5) := by simp [L.par]
          have p1 : L.par 5 1 b = false := rfl
          rw [body, hk, L.prs_cons, L.prs_cons, L.prs, prT_body, prT_body, la, lb, p0, p1]
          simp [L.opn, L.cls, L.first, L.last, L.betw, hk]

theorem body_round (x : L.Nd) (ks : L.Fo) : body true x ks = 40 :: (body false x ks ++ [41]) := by
  simp [body, L.opn, L.cls]

/-- The children of a record or a union. -/
def Rw (pk : Int) : L.Fo → Prop
  | .nil => True
  | .cons x ks r => Pl x ks ∧ L.isLabel pk x.name = true ∧ Rw pk r

theorem row_of {x : L.Nd} (hk : x.kind ≠ 5) : ∀ (f : L.Fo) (k : Nat) (b : ByteArray), f.ok = true → L.Fo.stand x k b f = true → (∀ z ∈ f.flat, z.kind ≠ 8 ∧ z.kind ≠ 9) → Rw x.kind f
  | .nil, _, _, _, _, _ => trivial
  | .cons y ls r, k, b, ho, hs, hv => by
    simp only [L.Fo.ok, Bool.and_eq_true] at ho
    simp only [L.Fo.stand, Bool.and_eq_true] at hs
    have hy := hv y (by simp [L.Fo.flat])
    refine ⟨⟨by simp only [L.Fo.ok, Bool.and_true, Bool.and_eq_true]; exact ho.1, fun z hz => hv z ?_⟩, ?_, row_of hk r (k + 1) y.name ho.2 hs.2 fun z hz => hv z ?_⟩
    · simp only [L.Fo.flat, List.mem_cons, List.mem_append] at hz ⊢
      rcases hz with hz | hz
      · exact Or.inl hz
      · exact Or.inr (Or.inl hz)
    · have := hs.1
      unfold L.mayStand at this
      rw [if_neg hk, if_neg hy.2, Bool.and_eq_true] at this
      exact this.1
    · simp only [L.Fo.flat, List.mem_cons, List.mem_append]
      exact Or.inr (Or.inr hz)

theorem Pl.row {x : L.Nd} {ks : L.Fo} (h : Pl x ks) (hk : x.kind = 6 ∨ x.kind = 7) : Rw x.kind ks ∧ x.n = ks.count := by
  obtain ⟨-, h2, h3, h4⟩ := h.num
  rw [many_row hk] at h2
  exact ⟨row_of (by omega) ks 0 ⟨#[]⟩ h4 h3 fun z hz => h.2 z (by simp [hz]), h2⟩

def hb (k : Int) : UInt8 := if k = 0 then 63 else if k = 1 then 105 else if k = 2 then 98 else if k = 3 then 115 else if k = 4 then 117 else if k = 5 then 40 else if k = 6 then 123 else 91

theorem hb_inj {j k : Int} (hj : 0 ≤ j ∧ j ≤ 7) (hk : 0 ≤ k ∧ k ≤ 7) (h : hb j = hb k) : j = k := by
  obtain rfl | rfl | rfl | rfl | rfl | rfl | rfl | rfl : j = 0 ∨ j = 1 ∨ j = 2 ∨ j = 3 ∨ j = 4 ∨ j = 5 ∨ j = 6 ∨ j = 7 := by omega
  all_goals
    obtain rfl | rfl | rfl | rfl | rfl | rfl | rfl | rfl : k = 0 ∨ k = 1 ∨ k = 2 ∨ k = 3 ∨ k = 4 ∨ k = 5 ∨ k = 6 ∨ k = 7 := by omega
    all_goals first
      | rfl
      | exact absurd h (by decide)

theorem Pl.head {x : L.Nd} {ks : L.Fo} (h : Pl x ks) : ∃ t, body (decide (x.kind = 5)) x ks = hb x.kind :: t := by
  have hk := h.kinds
  by_cases h5 : x.kind = 5
  · rw [h5]
    exact ⟨_, body_round x ks⟩
  · rw [show decide (x.kind = 5) = false by simpa using h5, body, L.opn]
    have : x.kind = 0 ∨ x.kind = 1 ∨ x.kind = 2 ∨ x.kind = 3 ∨ x.kind = 4 ∨ x.kind = 6 ∨ x.kind = 7 := by omega
    rcases this with h | h | h | h | h | h | h <;> exact ⟨_, by simp [L.first, hb, h]; rfl⟩

theorem sameL_append {a b c d : List L.Nd} (h1 : L.sameL a b = true) (h2 : L.sameL c d = true) : L.sameL (a ++ c) (b ++ d) = true := by
  induction a generalizing b with
  | nil => cases b with
    | nil => exact h2
    | cons y b => simp [L.sameL] at h1
  | cons x a ih => cases b with
    | nil => simp [L.sameL] at h1
    | cons y b =>
      simp only [L.sameL, Bool.and_eq_true, List.cons_append] at h1 ⊢
      exact ⟨h1.1, ih h1.2⟩

theorem Alike.node {x y : L.Nd} {ks ls : L.Fo} (h : Alike x ks y ls) (hn : x.name = y.name) : L.sameL (x :: ks.flat) (y :: ls.flat) = true := by
  rw [L.sameL, Bool.and_eq_true]
  exact ⟨(L.sameN_iff x y).2 ⟨h.1, hn, h.2.1⟩, h.2.2.1⟩

end Go.Proofs.Ytgghmhgbdknkaaa
