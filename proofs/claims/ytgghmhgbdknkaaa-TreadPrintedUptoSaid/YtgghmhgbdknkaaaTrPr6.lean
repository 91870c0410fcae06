/-
  Plain lists: Of of the tokens of a plain type that is printed. No machine here; no conditions but those that each lemma names.
-/
import Derived.Test.YtgghmhgbdknkaaaTrPr5
import Derived.Test.YtgghmhgbdknkaaaMR4
namespace Go.Proofs.Ytgghmhgbdknkaaa
open Go

theorem at_map {r : List X.L.Tok} {K : List PK} (h : r.map (fun t => (t.kind, t.text)) = K) : At (r.map tkOf) 0 K := fun i hi => by
  subst h
  have hi2 : i < r.length := by simpa using hi
  refine ⟨tkOf r[i], ?_, ?_, ?_⟩
  · rw [Nat.zero_add, List.getElem?_map, List.getElem?_eq_getElem hi2]
    rfl
  · simp [tkOf]
  · simp [tkOf]

theorem print_of {x : L.Nd} {ks : L.Fo} (h : Pl x ks) (hb : L.bare x = true) (hn : NoKey ks.flat) (hd : ks.deep + 1 ≤ 100) (hl : ks.flat.length + 1 ≤ 200) :
    ∃ r, X.L.toksL (L.prT false x ks) = .ok r ∧ ((∃ u ss, ofF (r.map tkOf) = .ok u ss ∧ L.sameL (x :: ks.flat) u.flat = true ∧ ss.length = zer (x :: ks.flat)) ∨ (ofF (r.map tkOf) = .bad 4 ∧ 60 < ks.flat.length + 1)) := by
  obtain ⟨r, h1, h2⟩ := print_toks h hb hn
  refine ⟨r, h1, ?_⟩
  have ha := at_map h2
  have hlen : (r.map tkOf).length = (bodyK false x ks).length + 1 := by
    have := congrArg List.length h2
    simpa using this
  have hz := ha.right
  generalize r.map tkOf = l at *
  have hna : T.isSign l (0 + (bodyK false x ks).length) T.kArrow = false := by
    rw [hz.sign]
    simp
  have hk0 : (tokAt l (0 + (bodyK false x ks).length)).kind = 0 := by rw [hz.tok.1]; rfl
  rcases reads_all l (ks.flat.length + 1) 99 x ks (by omega) h hn ⟨0, 1, []⟩ ha.left hna with ⟨u, s', g1, g2, g3, g4, g5⟩ | ⟨⟨p, g1⟩, g2⟩
  · left
    have hfl := L.sameL_len g2.2.2.1
    have hR : T.readF l 0 1 1 = .ok u s'.pl s'.sites := readF_of (by decide) (Nat.zero_min _) (by decide) g1 ⟨by
      show u.2.flat.length + 1 ≤ 10000
      omega, by
      show u.2.deep + 1 ≤ 100
      rw [g3.2]
      exact hd⟩
    refine ⟨u, s'.sites, ?_, ?_, by simpa using g5⟩
    · unfold ofF
      rw [hR]
      dsimp only
      rw [if_pos ⟨by rw [g4, hlen]; simp, by rw [g4]; exact hk0⟩]
    · exact Alike.node g2 ((bare_name hb).trans g3.1.symm)
  · right
    have hR : T.readF l 0 1 1 = .bad p 4 := by
      unfold T.readF
      rw [if_neg (by decide)]
      have e : min (0 : Int).toNat l.length = 0 := Nat.zero_min _
      rw [e]
      dsimp only
      rw [show 100 - (1 : Int).toNat = 99 from rfl, g1]
    exact ⟨by unfold ofF; rw [hR], by omega⟩

theorem zer_static (l : List L.Nd) : decide ((zer l : Int) = 0) = L.staticL l := by
  unfold zer L.staticL
  rw [Bool.eq_iff_iff]
  simp only [decide_eq_true_eq, Bool.not_eq_true', List.any_eq_false, L.dynN]
  constructor
  · intro h z hz h0
    have : 0 < l.countP fun z => decide (z.kind = 0) := List.countP_pos_iff.2 ⟨z, hz, by simpa using h0⟩
    omega
  · intro h
    have : l.countP (fun z => decide (z.kind = 0)) = 0 := List.countP_eq_zero.2 fun z hz => by simpa using h z hz
    omega

end Go.Proofs.Ytgghmhgbdknkaaa
