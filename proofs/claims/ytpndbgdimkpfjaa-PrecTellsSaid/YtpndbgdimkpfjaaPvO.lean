/-
  The reference's Agree, Below and Meet as the law asks them. Conditions: slices that read as good types of at most 60 nodes.
-/
import Derived.Test.YtpndbgdimkpfjaaPvE
namespace Go.Proofs.Ytpndbgdimkpfjaa
open Go.RowKit Go.Sort

theorem refag {F G : L.Fo} (h : Gd 60 F) (g : Gd 60 G) (va vb : Value) (w : World) (ha : Rd w w.heap.size va F.flat) (hb : Rd w w.heap.size vb G.flat) :
    Calls Try.prog 16 #[va, vb] w fun e w' => e = .returned (.bool (L.agF F G)) ∧ Below w.heap.size w w' := by
  have := refagree_any (n := 60) (by omega) 61 F G (by have := h.len; omega) h g va vb w ha hb
  rw [L.wk_ag] at this
  exact this
theorem refbe {F G : L.Fo} (h : Gd 60 F) (g : Gd 60 G) (va vb : Value) (w : World) (ha : Rd w w.heap.size va F.flat) (hb : Rd w w.heap.size vb G.flat) :
    Calls Try.prog 18 #[va, vb] w fun e w' => e = .returned (.bool (L.beF F G)) ∧ Below w.heap.size w w' := by
  have := refbelow_any (n := 60) (by omega) 61 F G (by have := h.len; omega) h g va vb w ha hb
  rw [L.wk_be] at this
  exact this

set_option maxHeartbeats 1000000 in
set_option maxRecDepth 100000 in
theorem refmt_no {F G : L.Fo} (h : Gd 60 F) (g : Gd 60 G) (hg : L.agF F G = false) (va vb : Value) (w : World) (ha : Rd w w.heap.size va F.flat) (hb : Rd w w.heap.size vb G.flat) :
    Calls Try.prog 14 #[va, vb] w fun e w' => e = .returned (.tuple #[.slice none 0 0, .int .i64 9]) ∧ Below w.heap.size w w' := by
  have AG := hid (refag h g va vb w ha hb)
  rw [hg] at AG
  obtain ⟨A, cap, rfl, -⟩ := ha
  obtain ⟨A2, cap2, rfl, -⟩ := hb
  clear hg
  go_enter Try.func14, Try.ntmps14
  go_wp2_with fail
  refine (AG.out).mono ?_
  rintro e w1 ⟨rfl, h1⟩
  go_wp2
  refine bodyPost_ret (v := .tuple #[.slice none 0 0, .int .i64 9]) (by simp [results, Try.results14, go_sem]) rfl ?_
  exact ⟨rfl, h1⟩

set_option maxHeartbeats 1000000 in
set_option maxRecDepth 100000 in
theorem refmt_yes {F G : L.Fo} (h : Gd 60 F) (g : Gd 60 G) (hg : L.agF F G = true) (va vb : Value) (w : World) (ha : Rd w w.heap.size va F.flat) (hb : Rd w w.heap.size vb G.flat) :
    Calls Try.prog 14 #[va, vb] w fun e w' => ∃ v, e = .returned (.tuple #[v, .int .i64 0]) ∧ Own w.heap.size v (L.meF F G).flat w' ∧ Below w.heap.size w w' := by
  have AG := hid (refag h g va vb w ha hb)
  rw [hg] at AG
  have ME := hid (fun W (hW : Below w.heap.size w W) => refmeet_any (n := 60) (by omega) 61 F G (by have := h.len; omega) h g hg va vb W ((ha.below hW).mono hW.size) ((hb.below hW).mono hW.size))
  obtain ⟨A, cap, rfl, -⟩ := ha
  obtain ⟨A2, cap2, rfl, -⟩ := hb
  clear hg
  go_enter Try.func14, Try.ntmps14
  go_wp2_with fail
  refine (AG.out).mono ?_
  rintro e w1 ⟨rfl, h1⟩
  have H1 := hid h1
  clear h1
  go_wp2_with fail
  refine (ME.out _ H1.out).mono ?_
  rintro e w2 ⟨v, rfl, o2, h2⟩
  have HO := hid (o2.more H1.out.size)
  have H2 := hid (H1.out.trans (h2.mono H1.out.size))
  obtain ⟨A3, c3, rfl, -⟩ := o2.rd
  clear o2 h2
  go_wp2
  refine bodyPost_ret (v := .tuple #[.slice A3 (L.meF F G).flat.length c3, .int .i64 0]) (by simp [results, Try.results14, go_sem]) rfl ?_
  exact ⟨_, rfl, HO.out, H2.out⟩

end Go.Proofs.Ytpndbgdimkpfjaa
