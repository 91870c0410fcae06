/-
  What a Var that is put for its own number changes: nothing. No program.
-/
import Derived.Test.YtkkigdbinnfbfaaTmW4
namespace Go.Proofs.Ytkkigdbinnfbfaa.L
open Go

/-- The tail n. -/
def tailN (n : Int) (x : Nd) : Bool := decide (x.kind = 9) && decide (x.n = n)
/-- Tails have no labels. -/
def Bare9 (f : Fo) : Prop := ∀ l ∈ f.tops1, ∀ y ∈ l, y.kind = 9 → y.name = ⟨#[]⟩
theorem bare9_tail {y : Nd} {ks r : Fo} (h : Bare9 (.cons y ks r)) : Bare9 r := fun l hl => h l (by simp [Fo.tops1, hl])
theorem bare9_head {y : Nd} {ks r : Fo} (h : Bare9 (.cons y ks r)) (h9 : y.kind = 9) : y.name = ⟨#[]⟩ := h [y] (by simp [Fo.tops1]) y (by simp) h9
theorem kids_many {x : Nd} {ks : Fo} (hm : many x = ks.count) (h5 : x.kind ≠ 5) (h67 : ¬(x.kind = 6 ∨ x.kind = 7)) : ks = .nil := by
  have h0 : many x = 0 := by unfold many; rw [if_neg h5, if_neg h67]
  exact ok_nil (by omega)
theorem open_cons (n : Int) (y : Nd) (ks r : Fo) (h : r ≠ .nil) : openB n (Fo.cons y ks r).tops1 = openB n r.tops1 := by
  cases r with
  | nil => exact absurd rfl h
  | cons z zs r => simp [openB, Fo.tops1, List.getLast?_cons_cons]
theorem open_one (n : Int) (y : Nd) (ks : Fo) : openB n (Fo.cons y ks .nil).tops1 = decide (y = ⟨9, ⟨#[]⟩, n⟩) := by simp [openB, Fo.tops1, hd0]
theorem rows_open (n : Int) : ∀ f : Fo, openB n f.rows = openB n f.tops1
  | .nil => rfl
  | .cons y ks r => by
    cases r with
    | nil => rw [open_one]; simp [openB, Fo.rows, hd0]
    | cons z zs r =>
      rw [open_cons n y ks _ (by simp), ← rows_open n (.cons z zs r)]
      simp [openB, Fo.rows, List.getLast?_cons_cons]
theorem tail_eq {n : Int} {y : Nd} (h : y.kind = 9 → y.name = ⟨#[]⟩) : decide (y = ⟨9, ⟨#[]⟩, n⟩) = tailN n y := by
  obtain ⟨k, s, m⟩ := y
  rw [Bool.eq_iff_iff]
  unfold tailN
  simp only [decide_eq_true_eq, Bool.and_eq_true, Nd.mk.injEq] at h ⊢
  exact ⟨fun ⟨a, _, b⟩ => ⟨a, b⟩, fun ⟨a, b⟩ => ⟨a, h a, b⟩⟩
theorem q1_open {n : Int} {y : Nd} {ks : Fo} (hm : many y = ks.count) : q1 n 8 y ks.tops1 = openB n ks.tops1 := by
  unfold q1
  by_cases h8 : y.kind = 8
  · have := kids_many hm (by omega) (by omega)
    subst this
    rfl
  · have : (y.kind != 8) = true := by simpa using h8
    rw [this, Bool.and_true]
theorem tail_any (n : Int) : ∀ f : Fo, f.ok = true → f.ends = true → Bare9 f → f.flat.any (tailN n) = (anyF (fun x ks => q1 n 8 x ks.tops1) f || openB n f.tops1)
  | .nil, _, _, _ => rfl
  | .cons y ks r, h, he, ht => by
    simp only [Fo.ok, Bool.and_eq_true, decide_eq_true_eq] at h
    obtain ⟨⟨⟨⟨hn, hm⟩, hs⟩, hk⟩, hr⟩ := h
    simp only [Fo.ends, Bool.and_eq_true, Bool.or_eq_true, Bool.not_eq_true', decide_eq_false_iff_not, decide_eq_true_eq] at he
    have ik := tail_any n ks hk (kids_ends hm hs) (stand_tailOk ks _ _ hs)
    have ir := tail_any n r hr he.2 (bare9_tail ht)
    have e1 : (Fo.cons y ks r).flat = y :: (ks.flat ++ r.flat) := by simp [Fo.flat]
    have e2 : anyF (fun x ks => q1 n 8 x ks.tops1) (.cons y ks r) = (anyF (fun x ks => q1 n 8 x ks.tops1) ks || (q1 n 8 y ks.tops1 || anyF (fun x ks => q1 n 8 x ks.tops1) r)) := rfl
    rw [e1, e2, List.any_cons, List.any_append, ik, ir, q1_open hm]
    by_cases hrn : r = .nil
    · subst hrn
      rw [open_one, tail_eq (bare9_head ht)]
      simp only [anyF, Fo.tops1, openB_nil, Bool.or_false]
      rw [Bool.or_comm]
    · have h9 : tailN n y = false := by
        unfold tailN
        rcases he.1 with h | h
        · rw [decide_eq_false h, Bool.false_and]
        · exact absurd (ok_nil h) hrn
      rw [open_cons n y ks r hrn, h9, Bool.false_or]
      simp only [Bool.or_assoc]
theorem any_kids {n : Int} {y : Nd} {ks r : Fo} (h : (Fo.cons y ks r).flat.any (tailN n) = false) : ks.flat.any (tailN n) = false ∧ r.flat.any (tailN n) = false := by
  have e1 : (Fo.cons y ks r).flat = y :: (ks.flat ++ r.flat) := by simp [Fo.flat]
  rw [e1, List.any_cons, List.any_append] at h
  simp only [Bool.or_eq_false_iff] at h
  exact h.2
/-- Without the tail n no row is open to it. -/
theorem open_none {n : Int} {f : Fo} (ho : f.ok = true) (he : f.ends = true) (ht : Bare9 f) (h : f.flat.any (tailN n) = false) : openB n f.tops1 = false := by
  rw [tail_any n f ho he ht, Bool.or_eq_false_iff] at h
  exact h.2
theorem none_asks (n : Int) (more : List (List Nd)) : ∀ f : Fo, f.ok = true → f.flat.any (tailN n) = false → anyF (fun _ ks => q2 n more ks.tops1) f = false ∧ anyF (fun _ ks => q3 n more ks.tops1) f = false
  | .nil, _, _ => ⟨rfl, rfl⟩
  | .cons y ks r, h, ha => by
    simp only [Fo.ok, Bool.and_eq_true, decide_eq_true_eq] at h
    obtain ⟨⟨⟨⟨hn, hm⟩, hs⟩, hk⟩, hr⟩ := h
    obtain ⟨a1, a2⟩ := any_kids ha
    obtain ⟨k1, k2⟩ := none_asks n more ks hk a1
    obtain ⟨r1, r2⟩ := none_asks n more r hr a2
    have ho := open_none hk (kids_ends hm hs) (stand_tailOk ks _ _ hs) a1
    have hb := many_of_numbered hn
    have hc : ¬ 50 < ks.tops1.length := by rw [tops1_len]; omega
    have he : extL n ks.tops1 more = ks.tops1 := by unfold extL; rw [ho]; rfl
    have e2 : q2 n more ks.tops1 = false := by unfold q2; rw [he]; exact ok_once hm hs
    have e3 : q3 n more ks.tops1 = false := by unfold q3; rw [he]; exact decide_eq_false hc
    simp only [anyF, k1, k2, r1, r2, e2, e3, Bool.or_false]
    trivial
theorem put_same (n : Int) (more : List (List Nd)) : ∀ f : Fo, f.ok = true → f.flat.any (tailN n) = false → putK n [⟨8, ⟨#[]⟩, n⟩] more f = f.rows
  | .nil, _, _ => rfl
  | .cons y ks r, h, ha => by
    simp only [Fo.ok, Bool.and_eq_true, decide_eq_true_eq] at h
    obtain ⟨⟨⟨⟨hn, hm⟩, hs⟩, hk⟩, hr⟩ := h
    obtain ⟨a1, a2⟩ := any_kids ha
    have ho := open_none hk (kids_ends hm hs) (stand_tailOk ks _ _ hs) a1
    have he : extL n ks.rows more = ks.rows := by unfold extL; rw [rows_open, ho]; rfl
    rw [putK_cons, put_same n more ks hk a1, put_same n more r hr a2, Fo.rows]
    congr 1
    unfold putJ
    rw [he]
    by_cases h8 : y.kind = 8 ∧ y.n = n
    · rw [if_pos h8]
      have := kids_many hm (by omega) (by omega)
      subst this
      obtain ⟨k, s, m⟩ := y
      obtain ⟨rfl, rfl⟩ := h8
      rfl
    · rw [if_neg h8, rows_flat]
      obtain ⟨k, s, m⟩ := y
      simp
theorem kids_of_root {x : Nd} {ks : Fo} (h : (Fo.cons x ks .nil).ok = true) : ks.ok = true ∧ ks.ends = true ∧ Bare9 ks ∧ many x = ks.count := by
  simp only [Fo.ok, Bool.and_eq_true, decide_eq_true_eq] at h
  obtain ⟨⟨⟨⟨hn, hm⟩, hs⟩, hk⟩, hr⟩ := h
  exact ⟨hk, kids_ends hm hs, stand_tailOk ks _ _ hs, hm⟩
theorem root_bare9 {x : Nd} {ks : Fo} (h9 : x.kind ≠ 9) : Bare9 (.cons x ks .nil) := by
  intro l hl y hy e
  simp only [Fo.tops1, List.mem_singleton] at hl
  subst hl
  simp only [List.mem_singleton] at hy
  subst hy
  exact absurd e h9
/-- What Put tells, where a Var is put for its own number. -/
theorem self_res {n : Int} (h0 : 0 ≤ n) {x : Nd} {ks : Fo} (hT : FewT x ks) : putRes n ⟨8, ⟨#[]⟩, n⟩ .nil (.cons x ks .nil) = if (x :: ks.flat).any (tailN n) = true then ([], 1) else (x :: ks.flat, 0) := by
  have hfl : (Fo.cons x ks .nil).flat = x :: ks.flat := by simp [Fo.flat]
  have h1 := tail_any n (.cons x ks .nil) hT.ok (by simp [Fo.ends, Fo.count]) (root_bare9 hT.k9)
  rw [open_one, tail_eq (fun e => absurd e hT.k9), show tailN n x = false from by unfold tailN; rw [decide_eq_false hT.k9]; rfl, Bool.or_false, hfl] at h1
  unfold putRes
  rw [if_neg (by omega)]
  simp only
  rw [← h1]
  cases ha : (x :: ks.flat).any (tailN n) with
  | true => rfl
  | false =>
    have ha2 : (Fo.cons x ks .nil).flat.any (tailN n) = false := by rw [hfl]; exact ha
    obtain ⟨e2, e3⟩ := none_asks n (Fo.rows .nil) (.cons x ks .nil) hT.ok ha2
    have e4 := put_same n (Fo.rows .nil) (.cons x ks .nil) hT.ok ha2
    rw [e2, e3]
    have e5 : (putK n (⟨8, ⟨#[]⟩, n⟩ :: Fo.nil.flat) (Fo.rows .nil) (.cons x ks .nil)).flatten = x :: ks.flat := by
      rw [show (⟨8, ⟨#[]⟩, n⟩ :: Fo.nil.flat : List Nd) = [⟨8, ⟨#[]⟩, n⟩] from rfl, e4, rows_flat, hfl]
    rw [e5, if_neg (by simp [codeE]), if_neg (by have := hT.len; omega), if_pos hT.right]
    rfl
/-- What Put tells, where a type is put for a Var alone. -/
theorem alone_res {n : Int} (h0 : 0 ≤ n) {x : Nd} {ks : Fo} (hT : FewT x ks) : putRes n x ks (.cons ⟨8, ⟨#[]⟩, n⟩ .nil .nil) = (x :: ks.flat, 0) := by
  have hx : x.name = ⟨#[]⟩ := by
    have := hT.b
    simp only [bare, Bool.and_eq_true, decide_eq_true_eq] at this
    exact empty_of this.1
  unfold putRes
  rw [if_neg (by omega)]
  have e1 : anyF (fun x' ks' => q1 n x.kind x' ks'.tops1) (.cons ⟨8, ⟨#[]⟩, n⟩ .nil .nil) = false := by simp [anyF, q1, Fo.tops1, openB_nil]
  have e2 : anyF (fun _ ks' => q2 n ks.rows ks'.tops1) (.cons ⟨8, ⟨#[]⟩, n⟩ .nil .nil) = false := by simp [anyF, q2, Fo.tops1, extL_nil, nameL, twiceF]
  have e3 : anyF (fun _ ks' => q3 n ks.rows ks'.tops1) (.cons ⟨8, ⟨#[]⟩, n⟩ .nil .nil) = false := by simp [anyF, q3, Fo.tops1, extL_nil]
  rw [e1, e2, e3]
  have e5 : (putK n (x :: ks.flat) ks.rows (.cons ⟨8, ⟨#[]⟩, n⟩ .nil .nil)).flatten = x :: ks.flat := by
    rw [putK_cons, putK_nil]
    unfold putJ
    rw [if_pos ⟨rfl, rfl⟩]
    obtain ⟨k, s, m⟩ := x
    simp only at hx
    subst hx
    simp [setName]
  rw [e5, if_neg (by simp [codeE]), if_neg (by have := hT.len; omega), if_pos hT.right]
end Go.Proofs.Ytkkigdbinnfbfaa.L
