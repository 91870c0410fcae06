/-
  More of what the laws of layer 7 share: meets with a ?, meets of three. Conditions: those that each lemma names.
-/
import Derived.Test.YtpndbgdimkpfjaaPvZ
import Derived.Test.YtpndbgdimkpfjaaM1
namespace Go.Proofs.Ytpndbgdimkpfjaa.L
open Go
/-- The outermost node. -/
def hd : Fo → Nd
  | .nil => default
  | .cons x _ _ => x
end Go.Proofs.Ytpndbgdimkpfjaa.L
namespace Go.Proofs.Ytpndbgdimkpfjaa
open Go.RowKit Go.Sort

theorem rd_nil7 (w : World) : Rd w w.heap.size (.slice none 0 0) [] := (Own.nil w.heap.size w).rd

theorem bare_e {x : L.Nd} (h : L.bare x = true) : x.name = ⟨#[]⟩ := by
  simp only [L.bare, Bool.and_eq_true, decide_eq_true_eq] at h
  exact ByteArray.ext (Array.size_eq_zero_iff.1 h.1)

theorem root_dyn {F : L.Fo} (h : L.root F) : L.agF F dF = true ∧ L.meF F dF = F := by
  obtain ⟨x, ks, rfl, hb⟩ := h
  have e := bare_e hb
  constructor
  · simp [L.agF, dF, n0, e]
  · simp [L.meF, dF, n0]

theorem root_be {F : L.Fo} (h : L.root F) : L.beF F dF = true ∧ L.beF dF F = decide ((L.hd F).kind = 0) := by
  obtain ⟨x, ks, rfl, hb⟩ := h
  have e := bare_e hb
  constructor
  · simp [L.beF, dF, n0, e]
  · rw [Bool.eq_iff_iff]
    simp only [L.beF, dF, n0, e, L.hd, Bool.and_eq_true, Bool.or_eq_true, decide_eq_true_eq, and_true, true_and]
    constructor
    · rintro (h | h)
      · exact decide_eq_true h
      · exact decide_eq_true h.1.symm
    · exact fun h => Or.inl (of_decide_eq_true h)

theorem root_head {l : List L.Nd} {F : L.Fo} (t : Ty l F) (h : 0 < l.length) : L.hd F = l[0] := by
  have hf := t.flat
  cases F with
  | nil => exact absurd rfl t.ne
  | cons x ks r =>
    subst hf
    rfl

theorem three_same {la lc : List L.Nd} {F G H : L.Fo} (ta : Ty la F) (tc : Ty lc H) (ra : L.root F) (rc : L.root H) (h1 : L.agF F G = true) (h2 : L.agF G H = true) (h3 : L.agF (L.meF F G) H = true) (h4 : L.agF F (L.meF G H) = true)
    (tp : Ty (L.meF F G).flat (L.meF F G)) (tq : Ty (L.meF G H).flat (L.meF G H)) (rp : L.root (L.meF F G)) (rq : L.root (L.meF G H)) : L.sameL (L.meF (L.meF F G) H).flat (L.meF F (L.meF G H)).flat = true := by
  have := L.me_three h1 h2 h3 h4
  rw [← L.be_same (L.me_ok tp.ok tc.ok tp.plain tc.plain h3) (L.me_ok ta.ok tq.ok ta.plain tq.plain h4) (L.me_plain tp.plain tc.plain) (L.me_plain ta.plain tq.plain) (by rw [L.root_count (L.me_root rp rc), L.root_count (L.me_root ra rq)]), this.1, this.2]
  rfl

end Go.Proofs.Ytpndbgdimkpfjaa
