/-
  A type that is filled: its nodes, where its trees end. No program.
-/
import Derived.Test.YtmcdggjcpfkchaaAgE
import Derived.Test.YtmcdggjcpfkchaaM4
namespace Go.Proofs.Ytmcdggjcpfkchaa.L
open Go

theorem stand_named (x : Nd) (s : ByteArray) : ∀ (f : Fo) (k : Nat) (b : ByteArray), Fo.stand ⟨x.kind, s, x.n⟩ k b f = Fo.stand x k b f
  | .nil, _, _ => rfl
  | .cons y ks r, k, b => by
    rw [Fo.stand, Fo.stand, stand_named x s r]
    rfl
theorem ok_named (x : Nd) (s : ByteArray) (ks r : Fo) : (Fo.cons ⟨x.kind, s, x.n⟩ ks r).ok = (Fo.cons x ks r).ok := by
  rw [Fo.ok, Fo.ok, stand_named x s ks]
  rfl
theorem eat_set {u : List Nd} (h : rightL u = true) (s : ByteArray) (rest : List Nd) : eat 1 (setName u s ++ rest) = u.length := by
  obtain ⟨x, ks, rfl, hn, hb, hok, hd⟩ := (rightL_iff u).1 h
  have := eat_tree (x := ⟨x.kind, s, x.n⟩) (ks := ks) (by rw [ok_named]; exact hok) rest
  rw [setName, List.cons_append, this]
  simp
theorem numbered_right {u : List Nd} (h : rightL u = true) : ∀ z ∈ u, numbered z = true := by
  obtain ⟨x, ks, hl, hn, hb, hok, hd⟩ := (rightL_iff u).1 h
  intro z hz
  have := numbered_flat _ hok z
  simp only [Fo.flat, List.append_nil] at this
  exact this (by rw [← hl]; exact hz)
theorem setName_mem {u : List Nd} {s : ByteArray} {z : Nd} (h : z ∈ setName u s) : ∃ y ∈ u, z.kind = y.kind ∧ z.n = y.n := by
  cases u with
  | nil => cases h
  | cons x r =>
    rw [setName] at h
    rcases List.mem_cons.1 h with rfl | h
    · exact ⟨x, by simp, rfl, rfl⟩
    · exact ⟨z, by simp [h], rfl, rfl⟩
theorem numbered_same {x y : Nd} (h1 : x.kind = y.kind) (h2 : x.n = y.n) : numbered x = numbered y := by
  unfold numbered
  rw [h1, h2]
theorem fill_mem {cs : List Ch} {t : List Nd} {z : Nd} (h : z ∈ fillL cs t) : ∃ y : Nd, (y ∈ t ∨ ∃ c ∈ cs, y ∈ c.t) ∧ z.kind = y.kind ∧ z.n = y.n := by
  obtain ⟨x, hx, hz⟩ := List.mem_flatMap.1 h
  unfold fillN at hz
  split at hz
  · rename_i u hu
    split at hu
    · obtain ⟨c, hc, -, rfl⟩ := fnd_mem hu
      obtain ⟨y, hy, h1, h2⟩ := setName_mem hz
      exact ⟨y, Or.inr ⟨c, hc, hy⟩, h1, h2⟩
    · cases hu
  · rw [List.mem_singleton] at hz
    subst hz
    exact ⟨z, Or.inl hx, rfl, rfl⟩
theorem numbered_fill {cs : List Ch} {t : List Nd} (hc : ∀ c ∈ cs, rightL c.t = true) (ht : ∀ z ∈ t, numbered z = true) : ∀ z ∈ fillL cs t, numbered z = true := by
  intro z hz
  obtain ⟨y, hy, h1, h2⟩ := fill_mem hz
  rw [numbered_same h1 h2]
  rcases hy with hy | ⟨c, hc2, hy⟩
  · exact ht y hy
  · exact numbered_right (hc c hc2) y hy
theorem n_pos {x : Nd} (h : numbered x = true) : 0 ≤ x.n := by
  unfold numbered at h
  repeat' split at h
  all_goals simp at h
  all_goals omega
/-- Is a node filled by one of the first j choices? -/
def flF (cs : List Ch) (x : Nd) (j : Nat) : Bool := decide (x.kind = 0) && (cs.take j).any fun c => decide (x.n = c.site)
theorem flF_zero (cs : List Ch) (x : Nd) : flF cs x 0 = false := by simp [flF]
theorem flF_step {cs : List Ch} {x : Nd} {j : Nat} (h : j < cs.length) : flF cs x (j + 1) = (flF cs x j || (decide (x.kind = 0) && decide (x.n = cs[j].site))) := by
  unfold flF
  rw [List.take_succ_eq_append_getElem h, List.any_append]
  cases decide (x.kind = 0) <;> simp
theorem fnd_any (cs : List Ch) (n : Int) : (fnd cs n).isSome = cs.any fun c => decide (n = c.site) := by
  unfold fnd
  rw [Option.isSome_map]
  rw [Bool.eq_iff_iff, List.find?_isSome, List.any_eq_true]
  simp only [decide_eq_true_eq]
  exact ⟨fun ⟨c, h1, h2⟩ => ⟨c, h1, h2.symm⟩, fun ⟨c, h1, h2⟩ => ⟨c, h1, h2.symm⟩⟩
/-- What the filled places are. -/
theorem flF_end (cs : List Ch) (x : Nd) : (flF cs x cs.length = true ∧ ∃ c ∈ cs, fillN cs x = setName c.t x.name) ∨ (flF cs x cs.length = false ∧ fillN cs x = [x]) := by
  unfold flF fillN
  rw [List.take_length, ← fnd_any]
  by_cases h0 : x.kind = 0
  · rw [if_pos h0]
    cases h : fnd cs x.n with
    | none => right; simp
    | some u =>
      obtain ⟨c, hc, -, rfl⟩ := fnd_mem h
      left; exact ⟨by simp [h0], c, hc, rfl⟩
  · right
    simp [h0]
/-- A filled type, parted at a node. -/
theorem fill_part (cs : List Ch) {t : List Nd} {k : Nat} (hk : k < t.length) : fillL cs t = fillL cs (t.take k) ++ (fillN cs t[k] ++ fillL cs (t.drop (k + 1))) := by
  unfold fillL
  conv => lhs; rw [← List.take_append_drop k t, List.flatMap_append, List.drop_eq_getElem_cons hk, List.flatMap_cons]
theorem head_fill {cs : List Ch} (h : ∀ c ∈ cs, c.t ≠ []) (x : Nd) : ∃ y r, fillN cs x = y :: r ∧ y.name = x.name := by
  rcases flF_end cs x with ⟨-, c, hc, e⟩ | ⟨-, e⟩
  · cases hu : c.t with
    | nil => exact absurd hu (h c hc)
    | cons y r => rw [e, hu, setName]; exact ⟨_, _, rfl, rfl⟩
  · exact ⟨x, [], e, rfl⟩
end Go.Proofs.Ytmcdggjcpfkchaa.L
namespace Go.Proofs.Ytmcdggjcpfkchaa
/-- What few choices are. -/
theorem few_asg {cs : List L.Ch} {most : Nat} (h : L.fewC most cs = true) (hm : most ≤ 60) (hw : ∀ c ∈ cs, c.site ≤ 9223372036854775807) : Asg cs ∧ (∀ c ∈ cs, L.rightL c.t = true) ∧ cs.length ≤ most := by
  simp only [L.fewC, Bool.and_eq_true, decide_eq_true_eq, List.all_eq_true] at h
  obtain ⟨h1, h2, h3⟩ := h
  have hr : ∀ c ∈ cs, L.rightL c.t = true := fun c hc => (good_parts (h2 c hc)).2.2.1
  refine ⟨⟨L.asg_up h3, fun c hc e => ?_, fun c hc => by have := (good_parts (h2 c hc)).1; omega, by omega, hw⟩, hr, h1⟩
  have := hr c hc
  rw [e] at this
  cases this
end Go.Proofs.Ytmcdggjcpfkchaa
