/-
  Choices: what an assignment is; slices of choices that come in; the walks of assign's mayFill and Right. Conditions: labels of at most 2000000 bytes.
-/
import Derived.Test.YtmcdggjcpfkchaaM1
import Derived.Test.YtmcdggjcpfkchaaM4
namespace Go.Proofs.Ytmcdggjcpfkchaa.L
open Go
/-- A choice: its site, its type. -/
structure Ch where
  site : Int
  t : List Nd
/-- May a site be given this type? -/
def fillB (t : List Nd) : Bool := rightL t && plainL t && staticL t
/-- Are these choices an assignment, the site ahead of them being b? -/
def asgF : Int → List Ch → Bool
  | _, [] => true
  | b, c :: r => decide (b < c.site) && (fillB c.t && asgF c.site r)
theorem asgF_drop {b : Int} {cs : List Ch} {k : Nat} (h : k < cs.length) : asgF b (cs.drop k) = (decide (b < cs[k].site) && (fillB cs[k].t && asgF cs[k].site (cs.drop (k + 1)))) := by
  rw [List.drop_eq_getElem_cons h, asgF]
end Go.Proofs.Ytmcdggjcpfkchaa.L
namespace Go.Proofs.Ytmcdggjcpfkchaa
open Go.RowKit

theorem heap_cell {w : World} {b : Nat} {cs : Array Value} {t : TypeId} (h : w.heap[b]? = some (.cells cs t (0, 0))) (i : Nat) : w.cell? ⟨b, i, none⟩ = cs[i]? := cell_of_row w b i cs t (0, 0) h
/-- A slice that reads as choices. -/
def RdC (w : World) (B : Nat) (v : Value) (cs : List L.Ch) : Prop :=
  ∃ A cap, v = .slice A cs.length cap ∧ cs.length ≤ cap ∧ cap ≤ maxLen ∧ (cs ≠ [] → ∃ b o, A = some ⟨b, o, none⟩ ∧ b < B ∧ ∀ (i : Nat) (h : i < cs.length), ∃ vt,
    w.cell? ⟨b, o + i * 2, none⟩ = some (.int .i64 cs[i].site) ∧ w.cell? ⟨b, o + i * 2 + 1, none⟩ = some vt ∧ Rd w B vt cs[i].t)
theorem RdC.below {w w' : World} {B : Nat} {v : Value} {cs : List L.Ch} (h : RdC w B v cs) (hb : Below B w w') : RdC w' B v cs := by
  obtain ⟨A, cap, hv, h1, h2, hc⟩ := h
  refine ⟨A, cap, hv, h1, h2, fun hne => ?_⟩
  obtain ⟨b, o, hA, hlt, hc⟩ := hc hne
  refine ⟨b, o, hA, hlt, fun i hi => ?_⟩
  obtain ⟨vt, x0, x1, hr⟩ := hc i hi
  exact ⟨vt, (hb.cell (p := ⟨b, o + i * 2, none⟩) hlt).trans x0, (hb.cell (p := ⟨b, o + i * 2 + 1, none⟩) hlt).trans x1, hr.low hb⟩
theorem RdC.mono {w : World} {B B' : Nat} {v : Value} {cs : List L.Ch} (h : RdC w B v cs) (hb : B ≤ B') : RdC w B' v cs := by
  obtain ⟨A, cap, hv, h1, h2, hc⟩ := h
  refine ⟨A, cap, hv, h1, h2, fun hne => ?_⟩
  obtain ⟨b, o, hA, hlt, hc⟩ := hc hne
  refine ⟨b, o, hA, by omega, fun i hi => ?_⟩
  obtain ⟨vt, x0, x1, hr⟩ := hc i hi
  exact ⟨vt, x0, x1, hr.mono hb⟩
theorem RdC.at_ {w w' : World} {B : Nat} {v : Value} {cs : List L.Ch} (h : RdC w B v cs) (hb : Below B w w') {k : Nat} (hk : k < cs.length) : ∃ b o cap A c, v = .slice (some ⟨b, o, none⟩) cs.length cap ∧ b < B ∧
    w'.cell? ⟨b, o + k * 2, none⟩ = some (.int .i64 cs[k].site) ∧ w'.cell? ⟨b, o + k * 2 + 1, none⟩ = some (.slice A cs[k].t.length c) ∧ Rd w' B (.slice A cs[k].t.length c) cs[k].t := by
  obtain ⟨A, cap, hv, -, -, hc⟩ := h
  obtain ⟨b, o, hA, hlt, hc⟩ := hc (by rintro rfl; simp at hk)
  obtain ⟨vt, x0, x1, hr⟩ := hc k hk
  obtain ⟨At, ct, rfl, -⟩ := id hr
  subst hA
  exact ⟨b, o, cap, At, ct, hv, hlt, (hb.cell (p := ⟨b, o + k * 2, none⟩) hlt).trans x0, (hb.cell (p := ⟨b, o + k * 2 + 1, none⟩) hlt).trans x1, hr.low hb⟩
/-- No label of any choice's type is too long. -/
def NmC (cs : List L.Ch) : Prop := ∀ c ∈ cs, ∀ x ∈ c.t, x.name.size ≤ 9223372036854775807

set_option maxHeartbeats 2000000 in
set_option maxRecDepth 100000 in
theorem mayFill_any (l : List L.Nd) (hnm : ∀ x ∈ l, x.name.size ≤ 9223372036854775807) (v : Value) (w : World) (hx : Rd w w.heap.size v l) :
    Calls Try.prog 23 #[v] w fun e w' => e = .returned (.bool (L.fillB l)) ∧ Below w.heap.size w w' := by
  have H1 := hid (right_any l hnm v w hx)
  have HX := hid hx
  obtain ⟨A, cap, rfl, -⟩ := hx
  go_enter Try.func23, Try.ntmps23
  go_wp2_with fail
  refine (H1.out).mono ?_
  rintro e w1 ⟨rfl, h1⟩
  have HB1 := hid h1
  have H2 := hid (plain_any l _ w1 ((HX.out.below h1).size))
  clear h1 H1
  obtain ⟨b1, hb1⟩ : ∃ b, L.rightL l = b := ⟨_, rfl⟩
  have V1 := hid hb1
  rw [hb1]
  clear hb1
  cases b1 with
  | false =>
    go_wp2_with fail
    go_ret
    exact ⟨ret_bool (by simp [L.fillB, V1.out]), HB1.out⟩
  | true =>
    go_wp2_with fail
    refine (H2.out).mono ?_
    rintro e w2 ⟨rfl, h2⟩
    have HB2 := hid (HB1.out.trans (h2.mono HB1.out.size))
    have H3 := hid (static_any l _ w2 ((HX.out.below HB2.out).size))
    clear h2 H2
    obtain ⟨b2, hb2⟩ : ∃ b, L.plainL l = b := ⟨_, rfl⟩
    have V2 := hid hb2
    rw [hb2]
    clear hb2
    cases b2 with
    | false =>
      go_wp2_with fail
      go_ret
      exact ⟨ret_bool (by simp [L.fillB, V1.out, V2.out]), HB2.out⟩
    | true =>
      go_wp2_with fail
      refine (H3.out).mono ?_
      rintro e w3 ⟨rfl, h3⟩
      have HB3 := hid (HB2.out.trans (h3.mono HB2.out.size))
      clear h3 H3
      go_wp2_with fail
      go_ret
      exact ⟨ret_bool (by simp [L.fillB, V1.out, V2.out]), HB3.out⟩

set_option maxHeartbeats 4000000 in
set_option maxRecDepth 100000 in
theorem asg_any (cs : List L.Ch) (hnm : NmC cs) (v : Value) (w : World) (hx : RdC w w.heap.size v cs) :
    Calls Try.prog 8 #[v] w fun e w' => e = .returned (.bool (L.asgF 0 cs)) ∧ Below w.heap.size w w' := by
  have HX := hid hx
  have HN := hid hnm
  obtain ⟨A, cap, rfl, h1, h2, -⟩ := hx
  unfold maxLen at h2
  clear hnm
  go_enter Try.func8, Try.ntmps8
  go_wp2_with fail
  go_loopw [3, 8] (fun vb vi wr => ∃ (k : Nat) (b : Int), vb = .int .i64 b ∧ vi = .int .i64 k ∧ k ≤ cs.length ∧ Hid (L.asgF b (cs.drop k) = L.asgF 0 cs) ∧ Below w.heap.size w wr) (fun _ vi _ => cs.length - (intOf vi).toNat)
  case atStart => exact ⟨0, 0, rfl, rfl, by omega, hid rfl, Below.refl _ _⟩
  case round =>
    obtain ⟨k, bf, rfl, rfl, hk, hE, hbel⟩ := hrel
    obtain ⟨wo, hwo⟩ : ∃ wo : World, wo = wr := ⟨_, rfl⟩
    subst hwo
    have hsz := hbel.size
    by_cases hlt : k < cs.length
    · have hkz : (k : Int) < (cs.length : Int) := by omega
      obtain ⟨b, o, c', At, ct, hv, hbb, x0, x1, hr⟩ := HX.out.at_ hbel hlt
      simp only [Value.slice.injEq, true_and] at hv
      obtain ⟨rfl, rfl⟩ := hv
      have hst := hE.out
      rw [L.asgF_drop hlt] at hst
      have hnm := HN.out cs[k] (List.getElem_mem hlt)
      obtain ⟨s, hs⟩ : ∃ s, cs[k].site = s := ⟨_, rfl⟩
      obtain ⟨t, ht⟩ : ∃ t, cs[k].t = t := ⟨_, rfl⟩
      rw [hs] at x0 hst
      rw [ht] at x1 hr hst hnm
      have HB := hid hbel
      have HR := hid ((hr.size).alloc (.cells #[.int .i64 s, .slice At t.length ct] 27)).size
      have HM := hid (mayFill_any t hnm _ _ HR.out)
      obtain ⟨nt, hnt⟩ : ∃ nt, t.length = nt := ⟨_, rfl⟩
      rw [hnt] at x1 HM
      clear hE hs ht hr hbel hnm HR hnt
      by_cases hlo : bf < s
      · have hlo2 : ¬ s ≤ bf := by omega
        rw [decide_eq_true hlo, Bool.true_and] at hst
        have HST := hid hst
        clear hst
        go_wp2_with fail
        refine (HM.out).mono ?_
        rintro e w1 ⟨rfl, h0⟩
        have HB1 := hid ((HB.out.alloc hsz (.cells #[.int .i64 s, .slice At nt ct] 27)).trans (h0.mono (by simp; omega)))
        have y0 : w1.cell? ⟨wo.heap.size, 0, none⟩ = some (.int .i64 s) := (h0.cell (p := ⟨wo.heap.size, 0, none⟩) (by simp)).trans ((heap_cell (heap_alloc_new wo _) 0).trans rfl)
        clear h0 HM HB x0 x1
        obtain ⟨b1, hb1⟩ : ∃ b, L.fillB t = b := ⟨_, rfl⟩
        rw [hb1] at HST ⊢
        clear hb1
        cases b1 with
        | false =>
          have HV := hid (show L.asgF 0 cs = false from by rw [← HST.out]; rfl)
          go_wp2_with fail
          go_ret
          exact ⟨ret_bool HV.out.symm, HB1.out⟩
        | true =>
          have HV := hid (show L.asgF s (cs.drop (k + 1)) = L.asgF 0 cs from by rw [← HST.out]; rfl)
          clear HST
          go_wp2_with fail
          go_roundw
          case rel => exact ⟨k + 1, s, rfl, by go_num, by omega, HV, HB1.out⟩
          case measure => simp [intOf]; omega
      · have hlo2 : s ≤ bf := by omega
        have HV := hid (show L.asgF 0 cs = false from by rw [← hst, decide_eq_false hlo]; rfl)
        have HB1 := hid (HB.out.alloc hsz (.cells #[.int .i64 s, .slice At nt ct] 27))
        clear hst HB HM
        go_wp2_with fail
        go_ret
        exact ⟨ret_bool HV.out.symm, HB1.out⟩
    · have hkz : ¬ (k : Int) < (cs.length : Int) := by omega
      have HV := hid (show L.asgF 0 cs = true from by rw [← hE.out, List.drop_eq_nil_of_le (by omega)]; rfl)
      have HB := hid hbel
      clear hE hbel
      go_wp2_with fail
      go_ret
      exact ⟨ret_bool HV.out.symm, HB.out⟩

end Go.Proofs.Ytmcdggjcpfkchaa
