/-
  The reference's Arrow, the second one of which may be none. Conditions: at most 20000 and 3000000 nodes.
-/
import Derived.Test.YtgghmhgbdknkaaaGreatTzE0
import Derived.Test.YtgghmhgbdknkaaaGreatMR2
namespace Go.Proofs.YtgghmhgbdknkaaaGreat
open Go.RowKit

set_option maxHeartbeats 1000000 in
set_option maxRecDepth 100000 in
theorem refArrow_nil (a b : List L.Nd) (va vb : Value) (w : World) (ha : Rd w w.heap.size va a) (hb : Rd w w.heap.size vb b) (hal : a.length ≤ 20000) (hbl : b.length ≤ 3000000) :
    Calls Tryz.prog 26 #[va, vb] w fun e w' => ∃ v', e = .returned v' ∧ Own w.heap.size v' (⟨5, ⟨#[]⟩, 0⟩ :: (a ++ b)) w' ∧ Below w.heap.size w w' := by
  have HA := hid ha
  have HB := hid hb
  obtain ⟨A1, c1, rfl, -⟩ := ha
  obtain ⟨A2, c2, rfl, -⟩ := hb
  have hb0 := below_new (w := w) (.cells #[.int .i64 5, .string ⟨#[]⟩, .int .i64 0] 54)
  have hO0 : Own w.heap.size (.slice (some ⟨w.heap.size, 0, none⟩) 1 1) [⟨5, ⟨#[]⟩, 0⟩] (w.alloc (.cells #[.int .i64 5, .string ⟨#[]⟩, .int .i64 0] 54)) := lit_own w w.heap.size (Nat.le_refl _) 5 0 ⟨#[]⟩
  have HA1 := hid ((HA.out.below hb0).mono hb0.size)
  have HO0 := hid hO0
  clear hO0
  go_enter Tryz.func26, Tryz.ntmps26
  go_wp2_with (at_builtin; refine wpList_app2 rfl _ _ rfl rfl w.heap.size _ _ [⟨5, ⟨#[]⟩, 0⟩] a rfl HO0.out rfl HA1.out (by simp; omega) (by simp) ?_)
  intro v1 w1 ho1 hg1
  have hB1 : Below w.heap.size w w1 := hb0.grown hg1 hb0.size (fun k hk => (World.ownsRow.lt HO0.out k hk).1)
  have HO1 := hid ho1
  have HB1 := hid ((HB.out.below hB1).mono hB1.size)
  clear ho1 hg1 hb0
  go_wp2_with (at_builtin; refine wpList_app2 rfl _ _ rfl rfl w.heap.size _ _ _ b rfl HO1.out rfl HB1.out (by simp; omega) hB1.size ?_)
  intro v2 w2 ho2 hg2
  have hB2 : Below w.heap.size w w2 := hB1.grown hg2 hB1.size (fun k hk => (World.ownsRow.lt HO1.out k hk).1)
  go_wp2
  go_ret
  exact ⟨_, rfl, by simpa using ho2, hB2⟩

theorem WPost.below {M : Nat} {r : T.R T.Tr} {w0 w w' : World} {e : Ending} (h : WPost M r w0 e w) (hb : Below w.heap.size w w') : WPost M r w0 e w' := by
  rcases h with ⟨h1, ⟨p, er, v, ns, site, A, n, c, h2, h3, h4, h5⟩ | ⟨t, s', v, A, n, c, h2, h3, h4, h5⟩⟩
  · exact ⟨h1.trans (hb.mono h1.size), Or.inl ⟨p, er, v, ns, site, A, n, c, h2, h3, h4.below hb, h5⟩⟩
  · exact ⟨h1.trans (hb.mono h1.size), Or.inr ⟨t, s', v, A, n, c, h2, h3, h4.below hb, h5.below hb⟩⟩

end Go.Proofs.YtgghmhgbdknkaaaGreat
