/-
  The walks of assign's isSite, of the closure that fills a type, and of Type. Conditions: at most 60 choices, whose sites rise, of at most 60 nodes; a type of at most 5000 nodes.
-/
import Derived.Test.YtmcdggjcpfkchaaAgC
import Derived.Maps.AppendAt
namespace Go.Proofs.Ytmcdggjcpfkchaa
open Go.RowKit Go.Maps

/-- A cell of a row of nodes turns: the label of the first node of what was put behind. -/
theorem cells_named (l T : List L.Nd) (h : T ≠ []) (s : ByteArray) : (cellsN (l ++ T)).set (l.length * 3 + 1) (.string s) = cellsN (l ++ L.setName T s) := by
  rw [cellsN_append, cellsN_append, cellsN_setName h, List.set_append_right _ _ (by rw [cellsN_len]; omega), cellsN_len]
  congr 2
  omega
theorem Own.slice {B : Nat} {v : Value} {l : List L.Nd} {w : World} (h : Own B v l w) (hn : l ≠ []) : ∃ g cap, v = .slice (some ⟨g, 0, none⟩) l.length cap ∧ ∀ j u, (cellsN l)[j]? = some u → w.cell? ((⟨g, 0, none⟩ : Addr).add j) = some u := by
  rcases h.rd.src with ⟨_, hz⟩ | ⟨a, cap, hv, hs⟩
  · exact absurd hz hn
  · rcases h.2 with ⟨hv2, _⟩ | ⟨g, cap2, cur, hv2, _⟩
    · rw [hv] at hv2; cases hv2
    · rw [hv] at hv2
      simp only [Value.slice.injEq, Option.some.injEq, true_and] at hv2
      obtain ⟨rfl, rfl⟩ := hv2
      exact ⟨g, cap, hv, hs⟩
theorem own_named {B : Nat} {v : Value} {l T : List L.Nd} {w : World} (h : Own B v (l ++ T) w) (hT : T ≠ []) (s : ByteArray) :
    ∃ g cap, v = .slice (some ⟨g, 0, none⟩) (l.length + T.length) cap ∧ B ≤ g ∧ g < w.heap.size ∧ (∃ u, w.cell? ⟨g, l.length * 3 + 1, none⟩ = some u) ∧ w.frozen? ⟨g, l.length * 3 + 1, none⟩ = false ∧
      Own B v (l ++ L.setName T s) (w.setCell ⟨g, l.length * 3 + 1, none⟩ (.string s)) := by
  have hT0 : 0 < T.length := List.length_pos_iff.2 hT
  have hne : l ++ T ≠ [] := by intro h0; exact hT (List.append_eq_nil_iff.1 h0).2
  obtain ⟨g, cap, hv, -⟩ := h.slice hne
  have hlt := h.lt g (by rw [hv]; rfl)
  have ho := h
  unfold Own at ho
  rw [hv] at ho
  obtain ⟨hst, -⟩ := World.ownsRow.stored ho (l.length * 3 + 1) (.string s)
  have e : (l ++ L.setName T s).length = (l ++ T).length := by rw [List.length_append, L.setName_length, List.length_append]
  refine ⟨g, cap, by rw [hv, List.length_append], hlt.1, hlt.2, ?_, World.ownsRow.frozenAt ho _, ?_⟩
  · have h1 := World.ownsRow.cellAt ho (l.length * 3 + 1) (by rw [List.length_append]; omega)
    have h2 := (cellsN_get (l ++ T) l.length (by rw [List.length_append]; omega)).2.1
    exact ⟨_, h1.trans h2⟩
  · unfold Own
    rw [← cells_named l T hT s, e, hv]
    exact hst
theorem row_succ {W : World} {base : Nat} {e : TypeId} {size : Nat} {v : Value} {k : Nat} {xs : List Value} (h : W.ownsRow base e size v (k + 1) xs) : ∃ g cap, v = .slice (some ⟨g, 0, none⟩) (k + 1) cap := by
  rcases h.2 with ⟨_, h0⟩ | ⟨g, cap, cur, rfl, _⟩
  · omega
  · exact ⟨g, cap, rfl⟩
theorem nd_one (k n : Int) (s : ByteArray) : ∀ u ∈ [Value.int .i64 k, .string s, .int .i64 n], u.oneCell' = true := by
  intro u hu
  simp only [List.mem_cons, List.not_mem_nil, or_false] at hu
  rcases hu with rfl | rfl | rfl <;> rfl
theorem cells_new3 (w : World) (a b c : Value) (t : TypeId) : ∀ j u, [a, b, c][j]? = some u → (w.alloc (.cells #[a, b, c] t)).cell? ((⟨w.heap.size, 0, none⟩ : Addr).add j) = some u := by
  intro j u h
  have e : ((⟨w.heap.size, 0, none⟩ : Addr).add j) = ⟨w.heap.size, j, none⟩ := by
    simp [Addr.add]
    intro h; exact h.symm
  rw [e]
  refine (heap_cell (heap_alloc_new w _) j).trans ?_
  simpa using h

theorem isSite_any (k n : Int) (s : ByteArray) (w : World) : Calls Try.prog 50 #[.agg #[.int .i64 k, .string s, .int .i64 n]] w fun e w' => e = .returned (.bool (decide (k = 0) && decide (0 < n))) ∧ Below w.heap.size w w' := by
  by_cases h0 : k = 0
  · subst h0
    by_cases hn : 0 < n
    · go_enter Try.func50, Try.ntmps50
      go_wp2
      go_ret
      exact ⟨ret_bool (by simp [hn]), below_new _⟩
    · go_enter Try.func50, Try.ntmps50
      go_wp2
      go_ret
      exact ⟨ret_bool (by simp [hn]), below_new _⟩
  · go_enter Try.func50, Try.ntmps50
    go_wp2
    go_ret
    exact ⟨ret_bool (by simp [h0]), below_new _⟩

/-- What a number may be: within an int64. -/
def Wf (t : List L.Nd) : Prop := ∀ x ∈ t, -9223372036854775808 ≤ x.n ∧ x.n ≤ 9223372036854775807
def FillPost (cs : List L.Ch) (t : List L.Nd) (w : World) (e : Ending) (w' : World) : Prop := ∃ v', e = .returned v' ∧ Own w.heap.size v' (L.fillL cs t) w' ∧ Below w.heap.size w w'

set_option maxHeartbeats 8000000 in
set_option maxRecDepth 100000 in
theorem fill1_any (cs : List L.Ch) (hu : L.Up 0 cs) (hne : ∀ c ∈ cs, c.t ≠ []) (hl60 : ∀ c ∈ cs, c.t.length ≤ 60) (t : List L.Nd) (ht : t.length ≤ 5000) (hwf : Wf t) (v : Value) (bp : Nat) (w : World) (hx : Rd w w.heap.size v t) (hf : FillC w w.heap.size bp cs) :
    Calls Try.prog 49 #[v, .pointer (some ⟨bp, 0, none⟩)] w (FillPost cs t w) := by
  obtain ⟨i0, hi0, hz0, hz1, hz2⟩ := info_parts infoNode
  have HX := hid hx
  have HF := hid hf
  have HU := hid hu
  have HNE := hid hne
  have H60 := hid hl60
  have HWF := hid hwf
  have hbp0 : bp < w.heap.size := by obtain ⟨bm, D, -, h2, -⟩ := hf; exact h2
  obtain ⟨A, cap, rfl, h1, h2, h3, hcx⟩ := hx
  unfold maxLen at h2
  have HCX := hid hcx
  clear hcx h3 hne hl60 hu hf hwf
  go_enter Try.func49, Try.ntmps49
  go_wp2_with fail
  go_loopw [4, 11] (fun vo vi wr => ∃ (k m c : Nat) (G : Option Addr), vo = .slice G m c ∧ vi = .int .i64 k ∧ k ≤ t.length ∧ m = (L.fillL cs (t.take k)).length ∧ Hid (Own w.heap.size (.slice G m c) (L.fillL cs (t.take k)) wr) ∧ Below w.heap.size w wr) (fun _ vi _ => t.length - (intOf vi).toNat)
  case atStart => exact ⟨0, 0, 0, none, rfl, rfl, by omega, by simp [L.fillL], hid (Own.nil _ _), Below.refl _ _⟩
  case round =>
    obtain ⟨k, m, c, G, rfl, rfl, hk, rfl, hO, hbel⟩ := hrel
    obtain ⟨wo, hwo⟩ : ∃ wo : World, wo = wr := ⟨_, rfl⟩
    subst hwo
    have hsz := hbel.size
    by_cases hlt : k < t.length
    · have hkz : (k : Int) < (t.length : Int) := by omega
      obtain ⟨b, o, rfl, hb, hcx⟩ := HCX.out (by rintro rfl; simp at hlt)
      obtain ⟨x0, x1, x2⟩ := hcx k hlt
      have x0 := (hbel.cell (p := ⟨b, o + k * 3, none⟩) hb).trans x0
      have x1 := (hbel.cell (p := ⟨b, o + k * 3 + 1, none⟩) hb).trans x1
      have x2 := (hbel.cell (p := ⟨b, o + k * 3 + 2, none⟩) hb).trans x2
      have hwf := HWF.out t[k] (List.getElem_mem hlt)
      have hfl := L.fillL_take cs hlt
      have hlen := L.fillL_len H60.out (t.take k)
      have hF60 := L.fillN_len H60.out t[k]
      rw [List.length_take] at hlen
      obtain ⟨bm, D, hbx, hbp, hbm, hown, hT⟩ := HF.out.low hbel
      generalize t[k] = X at *
      obtain ⟨xk, xs, xn⟩ := X
      simp only at x0 x1 x2 hwf
      obtain ⟨v1, p1, e1, e2, e3⟩ := hT xn
      have hwfx : (Lit.int .i64 xn).wf = true := WalkArith.wf_i64 (by omega)
      have HB := hid hbel
      obtain ⟨F, hFe⟩ : ∃ F, L.fillL cs (t.take k) = F := ⟨_, rfl⟩
      rw [hFe] at hfl hlen hO ⊢
      have HO := hid hO.out
      have HFL := hid hfl
      have hm5 : F.length ≤ 300000 := by omega
      have hSI := hid (isSite_any xk xn xs)
      have HE1 := hid e1
      clear hcx hT hbel hFe hfl hO
      have hlw : bp < wo.heap.size := by omega
      have hbpn : ¬ bp = wo.heap.size := by omega
      by_cases hin : xk = 0 ∧ ∃ u, L.fnd cs xn = some u
      · obtain ⟨rfl, u, hfu⟩ := hin
        have hru := e2 u hfu
        obtain ⟨c1, hc1, hcs, hct⟩ := L.fnd_mem hfu
        have hpos : 0 < xn := by have := HU.out.1 c1 hc1; omega
        have hue : u ≠ [] := hct ▸ HNE.out c1 hc1
        have hu60 : u.length ≤ 60 := hct ▸ H60.out c1 hc1
        have hul : 0 < u.length := List.length_pos_iff.2 hue
        have hulz : (0 : Int) < (u.length : Int) := by omega
        have HFN := hid (show L.fillN cs ⟨0, xs, xn⟩ = L.setName u xs from by simp [L.fillN, hfu])
        have HRU := hid hru
        have HUE := hid hue
        obtain ⟨Au, cu, rfl, -⟩ := hru
        have hsiv : (decide ((0 : Int) = 0) && decide (0 < xn)) = true := by simp [hpos]
        clear hfu e2 e3 hct hcs hc1
        go_wp2_with (at_lookup; refine wpList_lookupS _ rfl _ _ rfl bm 60 D rfl (hown.alloc _) xn rfl hwfx ?_; intro v ps hv; obtain rfl := encS_inj hv HE1.out; clear hv)
        refine (hSI.out _).mono ?_
        rintro e w1 ⟨rfl, h0⟩
        rw [hsiv]
        have HB1 := hid ((HB.out.alloc hsz (.cells #[.int .i64 0, .string xs, .int .i64 xn] 29)).trans (h0.mono (by simp; omega)))
        have HO1 := hid ((HO.out.alloc (.cells #[.int .i64 0, .string xs, .int .i64 xn] 29)).below h0)
        have y1 : w1.cell? ⟨wo.heap.size, 1, none⟩ = some (.string xs) := (h0.cell (p := ⟨wo.heap.size, 1, none⟩) (by simp)).trans ((heap_cell (heap_alloc_new wo _) 1).trans rfl)
        have HR1 := hid ((HRU.out.low (HB1.out.mono (Nat.le_refl _) |> fun _ => (Below.refl w.heap.size wo).alloc hsz (.cells #[.int .i64 0, .string xs, .int .i64 xn] 29))).low (h0.mono (by simp; omega)))
        have hs1 : wo.heap.size < w1.heap.size := by have := h0.size; simp at this; omega
        clear h0 x0 x1 x2 hbx hown hsiv
        have hB1 := HB1.out.size
        go_wp2_with (
          at_builtin
          refine wpList_app2 rfl _ _ rfl rfl w.heap.size _ _ F u rfl HO1.out rfl (HR1.out.mono hB1) (by omega) hB1 ?_
          intro v' w2 hown2 hgrow2
          obtain ⟨g, cap2, rfl, hg1, hg2, ⟨u0, hcell⟩, hfz, hown3⟩ := own_named hown2 HUE.out xs
          have y2 : w2.cell? ⟨wo.heap.size, 1, none⟩ = some (.string xs) := by
            rw [World.cell?_of_block (a := ⟨wo.heap.size, 1, none⟩) (hgrow2.block wo.heap.size hs1 (fun h => by have := (HO.out.lt _ h.symm).2; omega))]
            exact y1
          have HB2 := hid ((HB1.out.grown hgrow2 hB1 (fun q hq => (HO1.out.lt q hq).1)).setCell (p := ⟨g, F.length * 3 + 1, none⟩) hg1 (.string xs))
          have HO3 := hid hown3
          clear hown2 hgrow2 hown3 y1)
        go_roundw
        case rel => exact ⟨k + 1, _, cap2, some ⟨g, 0, none⟩, rfl, by go_num, by omega, by rw [HFL.out, HFN.out, List.length_append, L.setName_length], hid (by rw [HFL.out, HFN.out]; exact HO3.out), HB2.out⟩
        case measure => simp [intOf]; omega
      · have HFN := hid (show L.fillN cs ⟨xk, xs, xn⟩ = [⟨xk, xs, xn⟩] from by
          unfold L.fillN
          by_cases h0 : xk = 0
          · cases hfc : L.fnd cs xn with
            | none => simp
            | some u => exact absurd ⟨h0, u, hfc⟩ hin
          · simp [h0])
        obtain ⟨b0, hb0⟩ : ∃ b0, (decide (xk = 0) && decide (0 < xn)) = b0 := ⟨_, rfl⟩
        have hsl : b0 = true → v1 = .slice none 0 0 := fun h => by
          rw [← hb0, Bool.and_eq_true, decide_eq_true_eq] at h
          refine e3 ?_
          cases hfc : L.fnd cs xn with
          | none => rfl
          | some u => exact absurd ⟨h.1, u, hfc⟩ hin
        obtain ⟨Av, nv, cv, rfl⟩ : ∃ A n c, v1 = .slice A n c := by
          cases hfc : L.fnd cs xn with
          | none => exact ⟨_, _, _, e3 hfc⟩
          | some u => obtain ⟨A1, c1, h, -⟩ := e2 u hfc; exact ⟨_, _, _, h⟩
        have HSL := hid (show ∀ q, b0 = q → q = true → (Value.slice Av nv cv) = .slice none 0 0 from fun q h1 h2 => hsl (h1.trans h2))
        clear hin e2 e3 hsl
        go_wp2_with (at_lookup; refine wpList_lookupS _ rfl _ _ rfl bm 60 D rfl (hown.alloc _) xn rfl hwfx ?_; intro v ps hv; obtain rfl := encS_inj hv HE1.out; clear hv)
        refine (hSI.out _).mono ?_
        rintro e w1 ⟨rfl, h0⟩
        rw [hb0]
        have HB1 := hid ((HB.out.alloc hsz (.cells #[.int .i64 xk, .string xs, .int .i64 xn] 29)).trans (h0.mono (by simp; omega)))
        have HO1 := hid ((HO.out.alloc (.cells #[.int .i64 xk, .string xs, .int .i64 xn] 29)).below h0)
        have hnew := fun j => (h0.cell (p := ⟨wo.heap.size, j, none⟩) (by simp)).trans (heap_cell (heap_alloc_new wo (.cells #[.int .i64 xk, .string xs, .int .i64 xn] 29)) j)
        have y0 : w1.cell? ⟨wo.heap.size, 0, none⟩ = some (.int .i64 xk) := (hnew 0).trans rfl
        have y1 : w1.cell? ⟨wo.heap.size, 1, none⟩ = some (.string xs) := (hnew 1).trans rfl
        have y2 : w1.cell? ⟨wo.heap.size, 2, none⟩ = some (.int .i64 xn) := (hnew 2).trans rfl
        have hs1 : wo.heap.size < w1.heap.size := by have := h0.size; simp at this; omega
        clear h0 x0 x1 x2 hbx hown hb0 hnew
        have hB1 := HB1.out.size
        have HN1 := hid (nd_one xk xn xs)
        cases b0 with
        | true =>
          have e := HSL.out true rfl rfl
          simp only [Value.slice.injEq] at e
          obtain ⟨rfl, rfl, rfl⟩ := e
          clear HSL HE1
          go_wp2_with (
            at_builtin
            refine wpList_append_own_at _ rfl _ _ 25 rfl w.heap.size 29 i0 (.agg #[.int .i64 0, .string ⟨#[]⟩, .int .i64 0]) 3 32 Try.underlying25 hi0 hz0 hz1 hz2 rfl (by decide) _ _ _ rfl (HO1.out.alloc _) ⟨w1.heap.size, 0, none⟩ 1 1 [.int .i64 xk, .string xs, .int .i64 xn] rfl rfl (cells_new3 _ _ _ _ _) HN1.out (by unfold maxLen; omega) (by omega) (by simp; omega) ?_
            intro v' w2 hown2 hgrow2 hnil2 hloc2
            obtain ⟨g, cap2, rfl⟩ := row_succ hown2
            have HB2 := hid ((HB1.out.alloc hB1 (.cells #[.int .i64 xk, .string xs, .int .i64 xn] 29)).grown hgrow2 (by simp; omega) (fun q hq => (HO1.out.lt q hq).1))
            have HO3 := hid (Own.append (l := F) (r := [⟨xk, xs, xn⟩]) hown2)
            clear hown2 hgrow2 hnil2 hloc2)
          go_roundw
          case rel => exact ⟨k + 1, _, cap2, some ⟨g, 0, none⟩, rfl, by go_num, by omega, by rw [HFL.out, HFN.out, List.length_append]; rfl, hid (by rw [HFL.out, HFN.out]; exact HO3.out), HB2.out⟩
          case measure => simp [intOf]; omega
        | false =>
          clear HSL HE1
          go_wp2_with (
            at_builtin
            refine wpList_append_own_at _ rfl _ _ 25 rfl w.heap.size 29 i0 (.agg #[.int .i64 0, .string ⟨#[]⟩, .int .i64 0]) 3 32 Try.underlying25 hi0 hz0 hz1 hz2 rfl (by decide) _ _ _ rfl (HO1.out.alloc _) ⟨w1.heap.size, 0, none⟩ 1 1 [.int .i64 xk, .string xs, .int .i64 xn] rfl rfl (cells_new3 _ _ _ _ _) HN1.out (by unfold maxLen; omega) (by omega) (by simp; omega) ?_
            intro v' w2 hown2 hgrow2 hnil2 hloc2
            obtain ⟨g, cap2, rfl⟩ := row_succ hown2
            have HB2 := hid ((HB1.out.alloc hB1 (.cells #[.int .i64 xk, .string xs, .int .i64 xn] 29)).grown hgrow2 (by simp; omega) (fun q hq => (HO1.out.lt q hq).1))
            have HO3 := hid (Own.append (l := F) (r := [⟨xk, xs, xn⟩]) hown2)
            clear hown2 hgrow2 hnil2 hloc2)
          go_roundw
          case rel => exact ⟨k + 1, _, cap2, some ⟨g, 0, none⟩, rfl, by go_num, by omega, by rw [HFL.out, HFN.out, List.length_append]; rfl, hid (by rw [HFL.out, HFN.out]; exact HO3.out), HB2.out⟩
          case measure => simp [intOf]; omega
    · have hkz : ¬ (k : Int) < (t.length : Int) := by omega
      have e : k = t.length := by omega
      subst e
      have HO := hid hO.out
      rw [List.take_length] at HO
      have HB := hid hbel
      clear hO hbel
      go_wp2_with fail
      go_ret
      exact ⟨_, rfl, HO.out, HB.out⟩

end Go.Proofs.Ytmcdggjcpfkchaa
