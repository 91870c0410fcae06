/-
  Types of functions: what they say hangs on their two sides; arrays of two types that come in. No conditions but those that each lemma names.
-/
import Derived.Test.YtpndbgdimkpfjaaPvG
import Derived.Test.YtpndbgdimkpfjaaPvLq
namespace Go.Proofs.Ytpndbgdimkpfjaa
open Go.ChangeShapes Go.WideShapes Go.ChangeAt Go.RowKit Go.Deep Go.Sort

def arrF (F G : L.Fo) : L.Fo := .cons ⟨5, ⟨#[]⟩, 0⟩ (F.app G) .nil

theorem arr_flat7 (F G : L.Fo) : (arrF F G).flat = ⟨5, ⟨#[]⟩, 0⟩ :: (F.flat ++ G.flat) := by
  simp [arrF, L.Fo.flat, L.app_flat]

theorem bareN_of {x : L.Nd} (h : L.bare x = true) : L.bareN x = x := by
  obtain ⟨k, s, n⟩ := x
  have := bare_e h
  simp only at this
  subst this
  rfl

theorem gd_arr {F G : L.Fo} (h : Gd 60 F) (g : Gd 60 G) : Gd 121 (arrF F G) := by
  have h1 := deep_le F
  have g1 := deep_le G
  have h2 := h.len
  have g2 := g.len
  obtain ⟨x, ka, rfl, bx⟩ := h.root
  obtain ⟨y, kb, rfl, by_⟩ := g.root
  have ox := h.ok
  have oy := g.ok
  refine ⟨?_, ?_, ⟨_, _, rfl, by decide⟩, ?_, ?_, ?_⟩
  · refine L.ok_cons.2 ⟨by decide, by simp [L.many, L.Fo.app, L.Fo.count], ?_, ?_, rfl⟩
    · simp [L.Fo.app, L.Fo.stand, L.mayStand, bx, by_]
    · rw [L.app_ok, ox, oy]; rfl
  · refine L.plain_cons.2 ⟨by decide, ?_, rfl⟩
    rw [L.app_plain, h.plain, g.plain]; rfl
  · simp only [arrF, L.Fo.app, L.Fo.deep] at h1 g1 ⊢
    omega
  · rw [arr_flat7]
    simp only [List.length_cons, List.length_append]
    omega
  · intro z hz
    rw [arr_flat7] at hz
    simp only [List.mem_cons, List.mem_append] at hz
    rcases hz with rfl | hz | hz
    · exact Nat.zero_le _
    · exact h.names z hz
    · exact g.names z hz

theorem arr_ag {F G F' G' : L.Fo} (h : L.root F) (g : L.root G) (h' : L.root F') (g' : L.root G') : L.agF (arrF F G) (arrF F' G') = (L.agF F F' && L.agF G G') := by
  obtain ⟨x, ka, rfl, -⟩ := h
  obtain ⟨y, kb, rfl, -⟩ := g
  obtain ⟨x', ka', rfl, -⟩ := h'
  obtain ⟨y', kb', rfl, -⟩ := g'
  simp [arrF, L.Fo.app, L.agF]
theorem arr_be {F G F' G' : L.Fo} (h : L.root F) (g : L.root G) (h' : L.root F') (g' : L.root G') : L.beF (arrF F G) (arrF F' G') = (L.beF F F' && L.beF G G') := by
  obtain ⟨x, ka, rfl, -⟩ := h
  obtain ⟨y, kb, rfl, -⟩ := g
  obtain ⟨x', ka', rfl, -⟩ := h'
  obtain ⟨y', kb', rfl, -⟩ := g'
  simp [arrF, L.Fo.app, L.beF]
theorem arr_me {F G F' G' : L.Fo} (h : L.root F) (g : L.root G) (h' : L.root F') (g' : L.root G') : L.meF (arrF F G) (arrF F' G') = arrF (L.meF F F') (L.meF G G') := by
  obtain ⟨x, ka, rfl, -⟩ := h
  obtain ⟨y, kb, rfl, -⟩ := g
  obtain ⟨x', ka', rfl, -⟩ := h'
  obtain ⟨y', kb', rfl, -⟩ := g'
  simp only [arrF, L.Fo.app, L.meF]
  rw [if_neg (by decide), if_neg (by decide)]
  split <;> split <;> (try split) <;> (try split) <;> rfl
theorem arr_call {F G : L.Fo} (h : L.root F) (g : L.root G) : L.callF (arrF F G) = some (F, G) := by
  obtain ⟨x, ka, rfl, bx⟩ := h
  obtain ⟨y, kb, rfl, by_⟩ := g
  simp [arrF, L.Fo.app, L.callF, L.trees, L.tree, bareN_of bx, bareN_of by_]

theorem plain4s (g : Nat) (va vb vc vd : Value) (la lb lc ld : List L.Nd) (w : World) (hg : g = w.heap.size) (ha : Rd w w.heap.size va la) (hb : Rd w w.heap.size vb lb) (hc : Rd w w.heap.size vc lc) (hd : Rd w w.heap.size vd ld) :
    Calls Try.prog 11 #[.slice (some ⟨g, 0, none⟩) 4 4] (w.alloc (.cells #[va, vb, vc, vd] 23)) fun e w' => e = .returned (.bool (allG [(va, la), (vb, lb), (vc, lc), (vd, ld)])) ∧ Below w.heap.size w w' := by
  subst hg
  exact plain4 va vb vc vd la lb lc ld w ha hb hc hd
theorem all4 {v1 v2 v3 v4 : Value} {l1 l2 l3 l4 : List L.Nd} (h : allG [(v1, l1), (v2, l2), (v3, l3), (v4, l4)] = true) : L.good 60 l1 = true ∧ L.good 60 l2 = true ∧ L.good 60 l3 = true ∧ L.good 60 l4 = true := by
  simpa [allG, Bool.and_assoc] using h
theorem me_ne {F G : L.Fo} (h : Gd 60 F) (g : Gd 60 G) : (L.meF F G).flat ≠ [] := by
  obtain ⟨x, ks, e, -⟩ := L.me_root h.root g.root
  rw [e]
  simp [L.Fo.flat]
theorem me_20 {F G : L.Fo} (h : Gd 60 F) (g : Gd 60 G) : (L.meF F G).flat.length ≤ 20000 := by
  have := L.me_len F G
  have := h.len
  have := g.len
  omega

theorem arr_of7 {P : Program} {w : World} {r : Reach} {base : Nat} {t e : TypeId} {n : Nat} {v : Value} (ht : P.underlying t = some (.array n e)) (h : Value.okWide P w r base t v) : ∃ cs : Array Value, v = .agg cs := by
  simp only [Value.okWide, ht] at h
  obtain ⟨cs, h1, -⟩ := h
  exact ⟨cs, h1⟩

set_option maxRecDepth 100000 in
theorem two_of_trod {H : Type} {enc : TypeId × Value → H} {W : World} {fuel : Nat} {v1 : Value} {cs1 : Array Value} {x : DataW H × List MemPlace} (hv1 : v1 = .agg cs1) (hf1 : DataW.trod enc Try.prog W 0 (fun _ => true) true fuel 43 v1.cells.toList = some x) :
    ∃ va vb la lb, v1 = .agg #[va, vb] ∧ Rd W W.heap.size va la ∧ Rd W W.heap.size vb lb := by
  obtain ⟨xs, m, -, -, hcl, hxl, hx⟩ := DataW.trod_array Try.underlying43 hf1
  have c1 : Try.prog.cellsOf 23 = 1 := by kernel_rfl
  have c2 : Try.prog.cellsOf 43 = 2 := by kernel_rfl
  rw [c2] at hcl
  subst hv1
  obtain ⟨cl⟩ := cs1
  have hcl2 : cl.length = 2 := by simpa [Value.cells] using hcl
  match cl, hcl2 with
  | [x0, x1], _ =>
    have g0 := hx 0 (by omega)
    have g1 := hx 1 (by omega)
    rw [c1, List.getElem?_eq_getElem (by omega : 0 < xs.length)] at g0
    rw [c1, List.getElem?_eq_getElem (by omega : 1 < xs.length)] at g1
    obtain ⟨v0, l0, h0, r0, -⟩ := rd_of_trod g0
    obtain ⟨v1, l1, h1, r1, -⟩ := rd_of_trod g1
    simp [Value.cells] at h0 h1
    subst h0 h1
    exact ⟨x0, x1, l0, l1, rfl, r0, r1⟩

end Go.Proofs.Ytpndbgdimkpfjaa
