/-
  What Put tells of two types that are put in any order. No program but its contract's words.
-/
import Derived.Test.YtkkigdbinnfbfaaTmT
namespace Go.Proofs.Ytkkigdbinnfbfaa.L
open Go

theorem putK_flat (n : Int) (u : Nd) (uk f : Fo) : (putK n (u :: uk.flat) uk.rows f).flatten = (Fo.pt n u uk f).flat := by rw [pt_rows, rows_flat]
/-- What Put tells, where nothing is wrong with the rows. -/
theorem res_of_bad {n : Int} (h0 : 0 ≤ n) {u : Nd} {uk f : Fo} (hb : anyF (bad n u.kind uk.rows) f = false) :
    putRes n u uk f = if 10000 < (Fo.pt n u uk f).flat.length then ([], 4) else if rightL (Fo.pt n u uk f).flat = true then ((Fo.pt n u uk f).flat, 0) else ([], 4) := by
  have hc : codeE (anyF (fun x ks => q1 n u.kind x ks.tops1) f) (anyF (fun _ ks => q2 n uk.rows ks.tops1) f) (anyF (fun _ ks => q3 n uk.rows ks.tops1) f) = 0 := by
    rw [code_zero, ← bad_iff]; exact hb
  unfold putRes
  rw [if_neg (by omega), hc, if_neg (by decide), putK_flat]
/-- Where Put tells a type: it is that of the tree. -/
theorem put_get {n : Int} {x : Nd} {ks : Fo} (hT : FewT x ks) {u : Nd} {uk : Fo} (hU : FewT u uk) {a : List Nd} (h : putRes n u uk (.cons x ks .nil) = (a, 0)) :
    0 ≤ n ∧ anyF (bad n u.kind uk.rows) (.cons x ks .nil) = false ∧ ∃ xa ka, Fo.pt n u uk (.cons x ks .nil) = .cons xa ka .nil ∧ a = xa :: ka.flat ∧ (Fo.cons xa ka .nil).ok = true ∧ bare xa = true ∧ a.length ≤ 10000 := by
  have h0 : 0 ≤ n := by
    by_cases g : n < 0
    · unfold putRes at h
      rw [if_pos g] at h
      cases h
    · omega
  have hb : anyF (bad n u.kind uk.rows) (.cons x ks .nil) = false := by
    rw [bad_iff, ← code_zero]
    unfold putRes at h
    rw [if_neg (by omega)] at h
    generalize codeE _ _ _ = c at h ⊢
    by_cases g : c = 0
    · exact g
    · rw [if_pos g] at h
      exact (Prod.mk.inj h).2
  refine ⟨h0, hb, ?_⟩
  rw [res_of_bad h0 hb] at h
  obtain ⟨xa, ka, hp⟩ : ∃ xa ka, Fo.pt n u uk (.cons x ks .nil) = .cons xa ka .nil := by
    by_cases hv : x.kind = 8 ∧ x.n = n
    · exact ⟨_, _, pt_var u uk hv _ _⟩
    · exact ⟨_, _, pt_else u uk hv _ _⟩
  have hUm : many u = uk.count ∧ uk.cnt := by
    have := cnt_ok _ hU.ok
    exact ⟨this.1, this.2.1⟩
  have hcn := pt_cnt (n := n) hU.k9 hUm.1 hUm.2 _ hT.ok
  have hfl : (Fo.cons xa ka Fo.nil).flat = xa :: ka.flat := by simp [Fo.flat]
  rw [hp] at h hcn
  rw [hfl] at h
  split at h
  · cases h
  · split at h
    · rename_i hr
      obtain ⟨y, l, he, hl, hbr, hok, -⟩ := (rightL_iff _).1 hr
      have hu := flat_uniq (.cons xa ka .nil) (.cons y l .nil) [] [] hcn (cnt_ok _ hok) rfl (by rw [hfl, he]; simp [Fo.flat])
      have h1 := hu.1
      simp only [Fo.cons.injEq, and_true] at h1
      obtain ⟨rfl, rfl⟩ := h1
      have ha := (Prod.mk.inj h).1
      exact ⟨xa, ka, hp, ha.symm, hok, hbr, by rw [← ha]; exact hl⟩
    · cases h
/-- Two types put for two numbers, in either order. -/
theorem two_res {n0 n1 : Int} (hne : n0 ≠ n1) {x : Nd} {ks : Fo} (hT : FewT x ks) {y0 : Nd} {k0 : Fo} (hU0 : FewT y0 k0) {y1 : Nd} {k1 : Fo} (hU1 : FewT y1 k1)
    (v0 : (y0 :: k0.flat).any (vr n1) = false) (v1 : (y1 :: k1.flat).any (vr n0) = false) {xa : Nd} {ka : Fo} {xb : Nd} {kb : Fo}
    (p0 : 0 ≤ n0) (p1 : 0 ≤ n1) (b0 : anyF (bad n0 y0.kind k0.rows) (.cons x ks .nil) = false) (b1 : anyF (bad n1 y1.kind k1.rows) (.cons x ks .nil) = false)
    (ea : Fo.pt n0 y0 k0 (.cons x ks .nil) = .cons xa ka .nil) (eb : Fo.pt n1 y1 k1 (.cons x ks .nil) = .cons xb kb .nil) :
    putRes n1 y1 k1 (.cons xa ka .nil) = putRes n0 y0 k0 (.cons xb kb .nil) := by
  have fl : ∀ (y : Nd) (k : Fo), (Fo.cons y k .nil).flat = y :: k.flat := fun y k => by simp [Fo.flat]
  have fresh : ∀ {y : Nd} {k : Fo} (n m : Int) (u : Nd) (uk : Fo), FewT y k → (y :: k.flat).any (vr n) = false → ¬(y.kind = 8 ∧ y.n = n) ∧ Fo.pt n u uk k = k ∧ Fo.topn n k = false ∧ anyF (bad n m uk.rows) k = false ∧ ∀ nm, bad n m uk.rows ⟨y.kind, nm, y.n⟩ k = false := fun {y k} n m u uk hU hv => by
    have hok := hU.ok
    have hbn := bad_none n m uk.rows (.cons y k .nil) hok (by rw [fl]; exact hv)
    simp only [anyF, Bool.or_eq_false_iff] at hbn
    simp only [List.any_cons, Bool.or_eq_false_iff] at hv
    simp only [Fo.ok, Bool.and_eq_true] at hok
    refine ⟨fun g => by simp [vr, varN, g.1, g.2] at hv, pt_none n u uk k hok.1.2 hv.2, topn_none k hv.2, hbn.1, fun nm => hbn.2.1⟩
  obtain ⟨a1, a2, a3, a4, a5⟩ := fresh n1 y1.kind y1 k1 hU0 v0
  obtain ⟨c1, c2, c3, c4, c5⟩ := fresh n0 y0.kind y0 k0 hU1 v1
  have e1 := bad_pt hne hU0.k9 a3 y1.kind k1.rows a4 a5 _ hT.ok b0 b1
  have e0 := bad_pt (fun e => hne e.symm) hU1.k9 c3 y0.kind k0.rows c4 c5 _ hT.ok b1 b0
  have key := pt_two hne hU0.k9 hU1.k9 a1 c1 a2 c2 a3 c3 _ hT.ok (by simp [Fo.ends, Fo.count])
  rw [ea] at e1
  rw [eb] at e0
  rw [res_of_bad p1 e1, res_of_bad p0 e0, ← ea, ← eb, key]
end Go.Proofs.Ytkkigdbinnfbfaa.L
namespace Go.Proofs.Ytkkigdbinnfbfaa
/-- What was put may come in again. -/
theorem put_in {n : Int} {x : L.Nd} {ks : L.Fo} (hT : L.FewT x ks) (hn : ∀ y ∈ x :: ks.flat, InN y) {u : L.Nd} {uk : L.Fo} (hU : L.FewT u uk) (hm : ∀ y ∈ u :: uk.flat, InN y) {xa : L.Nd} {ka : L.Fo} (e : L.Fo.pt n u uk (.cons x ks .nil) = .cons xa ka .nil) (ho : (L.Fo.cons xa ka .nil).ok = true) (hb : L.bare xa = true) (hl : (xa :: ka.flat).length ≤ 10000) : TyIn xa ka := by
  have fl : ∀ (y : L.Nd) (k : L.Fo), (L.Fo.cons y k .nil).flat = y :: k.flat := fun y k => by simp [L.Fo.flat]
  have hP : (L.putK n (u :: uk.flat) uk.rows (.cons x ks .nil)).flatten = xa :: ka.flat := by rw [L.putK_flat, e, fl]
  refine ⟨ho, ?_, hl, ?_, ?_⟩
  · simp only [L.bare, Bool.and_eq_true, decide_eq_true_eq] at hb
    exact hb.2
  · intro z hz
    rw [← hP] at hz
    obtain ⟨l, h1, h2⟩ := List.mem_flatten.1 hz
    exact L.putK_short (n := n) hU.sh (fun l hl z hz => hU.sh z (List.mem_cons_of_mem _ (L.rows_mem hl hz))) (.cons x ks .nil) (by rw [fl]; exact hT.sh) l h1 z h2
  · intro z hz
    have h1 := L.pt_num (n := n) (M := 9223372036854775807) (u := u) (uk := uk) (hm u (by simp)).1 (fun z hz => (hm z (by simp [hz])).1) (.cons x ks .nil) hT.ok (by rw [fl]; exact fun z hz => (hn z hz).1) z (by rw [e, fl]; exact hz)
    have h2 := L.numbered_flat _ ho z (by rw [fl]; exact hz)
    unfold L.numbered at h2
    rcases h1 with g | g | g | g
    · simp [g] at h2; omega
    · simp [g] at h2; omega
    · simp [g] at h2; omega
    · exact g
end Go.Proofs.Ytkkigdbinnfbfaa
