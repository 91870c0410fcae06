/-
  What the type of a function of two right types is: right, if it is not too deep, and its children, its parts, its print, and whether it is static or plain. No machine here.
-/
import Derived.Test.YtimlblbmfckeiaaDoorTyPl
import Derived.Test.YtimlblbmfckeiaaDoorTyC
import Derived.Test.YtimlblbmfckeiaaDoorTyP
import Derived.Test.YtimlblbmfckeiaaDoorTyRR
namespace Go.Proofs.YtimlblbmfckeiaaDoor
open Go.RowKit

def arr (la lb : List L.Nd) : List L.Nd := ⟨5, ⟨#[]⟩, 0⟩ :: (la ++ lb)
def arrK (x : L.Nd) (ka : L.Fo) (y : L.Nd) (kb : L.Fo) : L.Fo := .cons x ka (.cons y kb .nil)

theorem deep_le : ∀ f : L.Fo, f.deep ≤ f.flat.length
  | .nil => by simp [L.Fo.deep]
  | .cons x ks r => by
    have h1 := deep_le ks
    have h2 := deep_le r
    simp only [L.Fo.deep, L.Fo.flat, List.length_cons, List.length_append]
    omega

theorem bare_name {x : L.Nd} (h : L.bare x = true) : x.name = ⟨#[]⟩ := by
  simp only [L.bare, Bool.and_eq_true, decide_eq_true_eq] at h
  exact ByteArray.ext (Array.eq_empty_of_size_eq_zero h.1)

theorem arr_flat (x : L.Nd) (ka : L.Fo) (y : L.Nd) (kb : L.Fo) : (arrK x ka y kb).flat = (x :: ka.flat) ++ (y :: kb.flat) := by
  simp [arrK, L.Fo.flat]

theorem arr_ok {x y : L.Nd} {ka kb : L.Fo} (h1 : (L.Fo.cons x ka .nil).ok = true) (h2 : (L.Fo.cons y kb .nil).ok = true) (b1 : L.bare x = true) (b2 : L.bare y = true) :
    (L.Fo.cons ⟨5, ⟨#[]⟩, 0⟩ (arrK x ka y kb) .nil).ok = true := by
  have hn : L.numbered ⟨5, ⟨#[]⟩, 0⟩ = true := by decide
  have hm : L.many ⟨5, ⟨#[]⟩, 0⟩ = 2 := by decide
  simp only [L.Fo.ok, Bool.and_true, Bool.and_eq_true] at h1 h2
  simp only [L.Fo.ok, arrK, L.Fo.count, L.Fo.stand, L.mayStand, hn, hm, b1, b2, h1, h2, Bool.and_true, Bool.and_self, Bool.true_and, if_true]
  simp

theorem arr_right {x y : L.Nd} {ka kb : L.Fo} (h1 : (L.Fo.cons x ka .nil).ok = true) (h2 : (L.Fo.cons y kb .nil).ok = true) (b1 : L.bare x = true) (b2 : L.bare y = true) (n1 : (x :: ka.flat).length ≤ 60) (n2 : (y :: kb.flat).length ≤ 60) :
    L.rightL (arr (x :: ka.flat) (y :: kb.flat)) = true := by
  refine (L.rightL_iff _).2 ⟨⟨5, ⟨#[]⟩, 0⟩, arrK x ka y kb, by rw [arr_flat]; rfl, by simp only [arr, List.length_cons, List.length_append] at *; omega, by decide, arr_ok h1 h2 b1 b2, ?_⟩
  have d1 := deep_le ka
  have d2 := deep_le kb
  simp only [arrK, L.Fo.deep, List.length_cons] at *
  omega

theorem arr_print {x y : L.Nd} {ka kb : L.Fo} (b1 : L.bare x = true) :
    L.prT false ⟨5, ⟨#[]⟩, 0⟩ (arrK x ka y kb) = (if x.kind = 5 then [40] ++ L.prT false x ka ++ [41] else L.prT false x ka) ++ ([32, 45, 62, 32] ++ L.prT false y kb) := by
  have e0 : L.lab ⟨5, ⟨#[]⟩, 0⟩ = [] := by decide
  have e1 : L.lab x = [] := by unfold L.lab; rw [bare_name b1]; rfl
  rw [L.prT, e0, arrK, L.prs_cons, L.prs_cons, L.prs]
  have p1 : L.par 5 1 y = false := rfl
  by_cases h : x.kind = 5
  · have p0 : L.par 5 0 x = true := by simp [L.par, h]
    rw [p0, p1, if_pos h]
    simp [L.prT, L.opn, L.cls, e1, L.first, L.betw, L.last]
  · have p0 : L.par 5 0 x = false := by simp [L.par, h]
    rw [p0, p1, if_neg h]
    simp [L.opn, L.cls, L.first, L.betw, L.last]

theorem setName_bare {x : L.Nd} (r : List L.Nd) (b : L.bare x = true) : L.setName (x :: r) ⟨#[]⟩ = x :: r := by
  have := bare_name b
  obtain ⟨k, s, n⟩ := x
  simp only at this
  subst this
  rfl

theorem arr_drop1 (la lb : List L.Nd) : (arr la lb).drop 1 = la ++ lb := rfl
theorem arr_drop2 (la lb : List L.Nd) : (arr la lb).drop (1 + la.length) = lb := by
  rw [arr, Nat.add_comm, List.drop_succ_cons, List.drop_left]

theorem arr_kids {x y : L.Nd} {ka kb : L.Fo} (h1 : (L.Fo.cons x ka .nil).ok = true) :
    L.kidsL (arr (x :: ka.flat) (y :: kb.flat)) 2 1 = [1, 1 + (x :: ka.flat).length] := by
  have e1 : L.eat 1 ((arr (x :: ka.flat) (y :: kb.flat)).drop 1) = (x :: ka.flat).length := by
    rw [arr_drop1, List.cons_append, L.eat_tree h1, List.length_cons]
  rw [L.kidsL, if_pos (by simp [arr]), e1, L.kidsL, if_pos (by simp [arr]; omega), L.kidsL]

theorem arr_part1 {x : L.Nd} {ka : L.Fo} (lb : List L.Nd) (h1 : (L.Fo.cons x ka .nil).ok = true) (b1 : L.bare x = true) : L.partL (arr (x :: ka.flat) lb) 1 = x :: ka.flat := by
  rw [L.partL, arr_drop1, List.cons_append, L.eat_tree h1, ← List.cons_append, List.take_left' (by simp), setName_bare _ b1]
theorem arr_part2 {y : L.Nd} {kb : L.Fo} (la : List L.Nd) (h2 : (L.Fo.cons y kb .nil).ok = true) (b2 : L.bare y = true) : L.partL (arr la (y :: kb.flat)) (1 + la.length) = y :: kb.flat := by
  have := L.eat_tree h2 []
  rw [List.append_nil] at this
  rw [L.partL, arr_drop2, this, List.take_of_length_le (by simp), setName_bare _ b2]

theorem arr_static (la lb : List L.Nd) : L.staticL (arr la lb) = (L.staticL la && L.staticL lb) := by
  simp [L.staticL, arr, L.dynN, List.any_append, Bool.not_or]
theorem arr_plain (la lb : List L.Nd) : L.plainL (arr la lb) = (L.plainL la && L.plainL lb) := by
  simp [L.plainL, arr, L.varN, List.any_append, Bool.not_or]

end Go.Proofs.YtimlblbmfckeiaaDoor
