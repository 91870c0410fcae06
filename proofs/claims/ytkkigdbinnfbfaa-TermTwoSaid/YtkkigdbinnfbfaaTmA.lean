/-
  Types whose nodes are told otherwise, one by one, with as many children: they stay types; fresh variables; canonical numbers. No program.
-/
import Derived.Test.YtkkigdbinnfbfaaM1
import Derived.Test.YtkkigdbinnfbfaaM4
namespace Go.Proofs.Ytkkigdbinnfbfaa.L
open Go

/-- y may stand where x stands. -/
def Rel (x y : Nd) : Prop := x.name = y.name ∧ numbered y = true ∧ (x = y ∨ ((x.kind = 0 ∨ x.kind = 8 ∨ x.kind = 9) ∧ (y.kind = 0 ∨ y.kind = 8 ∨ y.kind = 9) ∧ (x.kind = 9 ↔ y.kind = 9)))
inductive Rels : List Nd → List Nd → Prop
  | nil : Rels [] []
  | cons {x y : Nd} {a b : List Nd} : Rel x y → Rels a b → Rels (x :: a) (y :: b)
theorem Rels.len {a b : List Nd} (h : Rels a b) : a.length = b.length := by
  induction h with
  | nil => rfl
  | cons _ _ ih => simp [ih]
theorem Rel.many {x y : Nd} (h : Rel x y) : L.many x = L.many y := by
  obtain ⟨-, -, rfl | ⟨h1, h2, -⟩⟩ := h
  · rfl
  · unfold L.many
    rw [if_neg (by omega), if_neg (by omega), if_neg (by omega), if_neg (by omega)]
theorem Rel.bare {x y : Nd} (h : Rel x y) : L.bare x = L.bare y := by
  obtain ⟨hn, -, rfl | ⟨h1, h2, h3⟩⟩ := h
  · rfl
  · unfold L.bare
    rw [hn]
    congr 1
    rw [Bool.eq_iff_iff]
    simp only [decide_eq_true_eq, ne_eq, h3]
theorem Rel.stand {p q x y : Nd} (hp : Rel p q) (h : Rel x y) (hm : 0 < L.many p) (k : Int) (b : ByteArray) : L.mayStand p k b x = L.mayStand q k b y := by
  have hpq : p = q := by
    obtain ⟨-, -, e | ⟨h1, -, -⟩⟩ := hp
    · exact e
    · unfold L.many at hm
      rw [if_neg (by omega), if_neg (by omega)] at hm
      omega
  subst hpq
  unfold L.mayStand
  rw [h.bare, h.1]
  have h9 : x.kind = 9 ↔ y.kind = 9 := by
    obtain ⟨-, -, rfl | ⟨-, -, h3⟩⟩ := h
    · exact Iff.rfl
    · exact h3
  by_cases e : x.kind = 9
  · rw [if_pos e, if_pos (h9.1 e)]
  · rw [if_neg e, if_neg (fun e2 => e (h9.2 e2))]
theorem kids_rel {V : List Nd → Option (List Nd)} (hV : ∀ a b, Rels a b → ∀ r, V a = some r → ∃ s, V b = some s ∧ Rels r s) {p q : Nd} (hp : Rel p q) :
    ∀ (c k : Nat) (bf : ByteArray) (a b : List Nd), c + k = (L.many p).toNat → Rels a b → ∀ r, kidsF V p c k bf a = some r → ∃ s, kidsF V q c k bf b = some s ∧ Rels r s
  | 0, _, _, a, b, _, h, r, e => by
    rw [kidsF] at e
    injection e with e
    subst e
    exact ⟨b, by rw [kidsF], h⟩
  | c + 1, k, bf, a, b, hc, h, r, e => by
    cases h with
    | nil => rw [kidsF] at e; cases e
    | @cons x y a b hxy h =>
      rw [kidsF] at e ⊢
      rw [hp.stand hxy (by omega) k bf] at e
      split at e
      · rename_i hs
        rw [if_pos hs]
        obtain ⟨r1, e1, e2⟩ := Option.bind_eq_some_iff.1 e
        obtain ⟨s1, f1, g1⟩ := hV _ _ (.cons hxy h) r1 e1
        rw [f1, ← hxy.1]
        exact kids_rel hV hp c (k + 1) x.name r1 s1 (by omega) g1 r e2
      · cases e
theorem visit_rel : ∀ (m : Nat) (a b : List Nd), Rels a b → ∀ r, visitF m a = some r → ∃ s, visitF m b = some s ∧ Rels r s
  | 0, a, b, _, r, e => by rw [visitF] at e; cases e
  | m + 1, a, b, h, r, e => by
    cases h with
    | nil => rw [visitF] at e; cases e
    | @cons x y a b hxy h =>
      rw [visitF] at e ⊢
      rw [if_pos hxy.2.1]
      split at e
      · rw [← hxy.many]
        exact kids_rel (visit_rel m) hxy _ 0 ⟨#[]⟩ a b (by omega) h r e
      · cases e
theorem right_rel {a b : List Nd} (h : Rels a b) (hr : rightL a = true) : rightL b = true := by
  have hl := h.len
  cases h with
  | nil => exact hr
  | @cons x y a b hxy h =>
    simp only [rightL, Bool.and_eq_true, decide_eq_true_eq] at hr ⊢
    obtain ⟨⟨h1, h2⟩, h3⟩ := hr
    obtain ⟨s, hs, hs2⟩ := visit_rel 100 _ _ (.cons hxy h) [] h3
    have : s = [] := by cases hs2; rfl
    subst this
    exact ⟨⟨by rw [← hl]; exact h1, by rw [← hxy.bare]; exact h2⟩, hs⟩
theorem Rel.refl {x : Nd} (h : numbered x = true) : Rel x x := ⟨rfl, h, Or.inl rfl⟩

/-! ### Fresh variables -/
def freshL : List Nd → Int → List Nd
  | [], _ => []
  | x :: r, n => if x.kind = 0 then ⟨8, x.name, n⟩ :: freshL r (n + 1) else x :: freshL r n
/-- How many ? there are. -/
def dyns (t : List Nd) : Nat := t.countP fun x => decide (x.kind = 0)
theorem fresh_len : ∀ (t : List Nd) (n : Int), (freshL t n).length = t.length
  | [], _ => rfl
  | x :: t, n => by
    rw [freshL]
    split <;> simp [fresh_len t]
theorem fresh_rels : ∀ (t : List Nd) (n : Int), 0 ≤ n → (∀ x ∈ t, numbered x = true) → Rels t (freshL t n)
  | [], _, _, _ => .nil
  | x :: t, n, h0, h => by
    rw [freshL]
    have hx := h x (by simp)
    split
    · rename_i e
      refine .cons ⟨rfl, ?_, Or.inr ⟨Or.inl e, Or.inr (Or.inl rfl), ?_⟩⟩ (fresh_rels t (n + 1) (by omega) fun y hy => h y (by simp [hy]))
      · unfold numbered
        simp only
        simpa using h0
      · simp only
        omega
    · exact .cons (Rel.refl hx) (fresh_rels t n h0 fun y hy => h y (by simp [hy]))
theorem fresh_kind : ∀ (t : List Nd) (n : Int), ∀ x ∈ freshL t n, x.kind ≠ 0
  | [], _, x, h => by cases h
  | y :: t, n, x, h => by
    rw [freshL] at h
    split at h
    · rcases List.mem_cons.1 h with rfl | h
      · simp
      · exact fresh_kind t _ x h
    · rename_i e
      rcases List.mem_cons.1 h with rfl | h
      · exact e
      · exact fresh_kind t _ x h
theorem fresh_static (t : List Nd) (n : Int) : staticL (freshL t n) = true := by
  simp only [staticL, Bool.not_eq_true', List.any_eq_false, dynN, decide_eq_true_eq]
  exact fresh_kind t n
theorem dyns_static (t : List Nd) : dyns t = 0 ↔ staticL t = true := by
  unfold dyns
  rw [List.countP_eq_zero]
  simp only [staticL, Bool.not_eq_true', List.any_eq_false, dynN, decide_eq_true_eq]
theorem fresh_at : ∀ (t : List Nd) (n : Int) (i : Nat) (h : i < t.length), (freshL t n)[i]? = some (if t[i].kind = 0 then ⟨8, t[i].name, n + dyns (t.take i)⟩ else t[i])
  | [], _, i, h => by simp at h
  | x :: t, n, 0, _ => by
    rw [freshL]
    split
    · rename_i e; simp [e, dyns]
    · rename_i e; simp [e]
  | x :: t, n, i + 1, h => by
    have hi : i < t.length := by simpa using h
    rw [freshL]
    split
    · rename_i e
      rw [List.getElem?_cons_succ, fresh_at t (n + 1) i hi]
      simp only [List.getElem_cons_succ, List.take_succ_cons, dyns, List.countP_cons, e, decide_true, if_true]
      congr 2
      congr 1
      push_cast
      omega
    · rename_i e
      rw [List.getElem?_cons_succ, fresh_at t n i hi]
      simp only [List.getElem_cons_succ, List.take_succ_cons, dyns, List.countP_cons, e, decide_false]
      simp
end Go.Proofs.Ytkkigdbinnfbfaa.L
