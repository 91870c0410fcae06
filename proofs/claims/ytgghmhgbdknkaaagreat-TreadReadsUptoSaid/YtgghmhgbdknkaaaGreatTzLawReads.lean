/-
  TreadReads is true for all tokens, of which there are at most 1048576 values and letters in all, and all places, sites and levels: what is read is as the reference's Read tells. No conditions but that.
-/
import Derived.Test.YtgghmhgbdknkaaaGreatRows
import Derived.Test.YtgghmhgbdknkaaaGreatTzK
import Derived.Test.YtgghmhgbdknkaaaGreatTzH
import Derived.Test.YtgghmhgbdknkaaaGreatTrPa
import Derived.ProofKit
import Derived.OpenShut
import Derived.JoinedCond
namespace Go.Proofs.YtgghmhgbdknkaaaGreat.treadReads
open Go.ChangeShapes Go.WideShapes Go.ChangeAt Go.RowKit

theorem own : ownKnob Tryz.prog.godebug = none := by kernel_rfl

abbrev Post (w : World) (e : Ending) (w' : World) : Prop := e = .returned (.bool true) ∧ Below w.heap.size w w'

set_option maxHeartbeats 1000000 in
set_option maxRecDepth 100000 in
theorem reads_big (A : Option Addr) (n cap : Nat) (hn : n ≤ maxLen) (a b c : Int) (h : 300 < n ∨ 1000000 < b ∨ 1000000 < c) (w : World) :
    Calls Tryz.prog 3 #[.slice A n cap, .agg #[.int .i64 a, .int .i64 b, .int .i64 c]] w (Post w) := by
  unfold maxLen at hn
  have HA := hid (fun w => alive_any w)
  by_cases h1 : 300 < n
  · have hz : (300 : Int) < (n : Int) := by omega
    clear h
    go_enter Tryz.func3, Tryz.ntmps3
    go_wp2_with fail
    refine (HA.out _).mono ?_
    rintro e w1 ⟨rfl, h1⟩
    go_wp2
    go_ret
    exact ⟨rfl, (below_new _).trans (h1.mono (by simp))⟩
  · have hz : (n : Int) ≤ (300 : Int) := by omega
    by_cases h2 : 1000000 < b
    · clear h
      go_enter Tryz.func3, Tryz.ntmps3
      go_wp2_with fail
      refine (HA.out _).mono ?_
      rintro e w1 ⟨rfl, h1⟩
      go_wp2
      go_ret
      exact ⟨rfl, (below_new _).trans (h1.mono (by simp))⟩
    · have h3 : 1000000 < c := by omega
      clear h
      go_enter Tryz.func3, Tryz.ntmps3
      go_wp2_with fail
      refine (HA.out _).mono ?_
      rintro e w1 ⟨rfl, h1⟩
      go_wp2
      go_ret
      exact ⟨rfl, (below_new _).trans (h1.mono (by simp))⟩

set_option maxHeartbeats 4000000 in
set_option maxRecDepth 100000 in
theorem reads_walk (l : List T.Tk) (hts : ∀ p, (tokAt l p).text.size ≤ 2000000) (hll : l.length ≤ 300) (vl : Value) (a b c : Int) (hb : b ≤ 1000000) (hc : c ≤ 1000000) (w : World) (hx : RdK w w.heap.size vl l) :
    Calls Tryz.prog 3 #[vl, .agg #[.int .i64 a, .int .i64 b, .int .i64 c]] w (Post w) := by
  have HA := hid (fun w => alive_any w)
  have HX := hid hx
  have HB0 := hid (below_new (w := w) (.cells #[.int .i64 a, .int .i64 b, .int .i64 c] 23))
  have HM0 := hid (heap_alloc_new w (.cells #[.int .i64 a, .int .i64 b, .int .i64 c] 23))
  have HX1 := hid (HX.out.below HB0.out)
  have HR1 := hid (read_any l hts vl a b c (by omega) _ HX1.out)
  have HR2 := hid (fun w2 (hb : Below _ (w.alloc (.cells #[.int .i64 a, .int .i64 b, .int .i64 c] 23)) w2) => zread_any hts (by omega) vl a b c (by omega) w2 (HX1.out.below hb))
  have HERR := hid (fun q e h => readF_err (l := l) (p := a) (site := b) (lv := c) (q := q) (e := e) h)
  have HOK := hid (fun t n ss h => readF_ok (l := l) (p := a) (site := b) (lv := c) (t := t) (n := n) (ss := ss) h)
  obtain ⟨Al, capl, rfl, -⟩ := id hx
  have hz : (l.length : Int) ≤ (300 : Int) := by omega
  have HSL : Hid (∀ t n ss, T.readF l a b c = .ok t n ss → ss.length ≤ 1000000 ∧ n ≤ l.length) := hid fun t n ss h => by
    obtain ⟨h0, -, s1, -, h3, h4, hg⟩ := HOK.out t n ss h
    obtain ⟨new, g1, g2, g3⟩ := hg.went
    have hle := hg.le
    rw [h4, g1, h3]
    simp only [List.nil_append] at g1 ⊢
    exact ⟨by omega, hle⟩
  clear hx hts HOK
  generalize T.readF l a b c = o at *
  go_enter Tryz.func3, Tryz.ntmps3
  go_wp2_with fail
  refine (HR1.out).mono ?_
  rintro e w8 ⟨hb8, he1⟩
  have HB8 := hid hb8
  have hM8 := (hb8.block _ (heap_lt HM0.out)).trans HM0.out
  have k0 : ∀ j, w8.cell? ⟨w.heap.size, j, none⟩ = #[Value.int .i64 a, .int .i64 b, .int .i64 c][j]? := fun j => Lib.cell_of_heap hM8 j
  have hk8 : w.heap.size < w8.heap.size := heap_lt hM8
  clear hb8 hM8
  cases o with
  | bad q e1 =>
    have he0 := HERR.out q e1 rfl
    unfold OutV at he1
    subst he1
    go_wp2_with fail
    refine (HR2.out _ HB8.out).mono ?_
    rintro e w9 ⟨hb9, he2⟩
    unfold OutZV at he2
    subst he2
    have HB9 := hid (up HB8.out hb9 (Nat.le_refl _))
    clear hb9 he0
    go_wp2_with fail
    refine (HA.out _).mono ?_
    rintro e w10 ⟨rfl, hb10⟩
    have HB10 := hid (up HB9.out hb10 (Nat.le_refl _))
    have HONE := hid (one_any [] [] (.slice none 0 0) (.slice none 0 0) w10 (Own.nil w10.heap.size w10).rd (Own.nil w10.heap.size w10).rd)
    rw [decide_eq_true rfl] at HONE
    clear hb10
    go_wp2_with fail
    refine (HONE.out).mono ?_
    rintro e w11 ⟨rfl, hb11⟩
    have HB11 := hid (up HB10.out hb11 (Nat.le_refl _))
    have HSI := hid (sites_any [] (.slice none 0 0) (.slice none 0 0) (by simp) w11 (RdSt.nil w11).rd (RdSt.nil w11).rd)
    clear hb11
    go_wp2_with fail
    refine (HSI.out).mono ?_
    rintro e w12 ⟨rfl, hb12⟩
    have HB12b := hid (up HB11.out hb12 (Nat.le_refl _))
    clear hb12
    go_wp2
    go_ret
    exact ⟨ret_bool (by simp), HB0.out.trans (HB12b.out.mono HB0.out.size)⟩
  | ok t n ss =>
    obtain ⟨v1, s1v, rfl, ho1, hsi1⟩ := he1
    have HO1 := hid ho1
    have HSI1 := hid hsi1
    obtain ⟨hsl, hnl⟩ := HSL.out t n ss rfl
    clear ho1 hsi1
    go_wp2_with fail
    refine (HR2.out _ HB8.out).mono ?_
    rintro e w9 ⟨hb9, he2⟩
    obtain ⟨v2, s2v, rfl, ho2, hsi2⟩ := he2
    have HB9 := hid (up HB8.out hb9 (Nat.le_refl _))
    have HO1b := hid (HO1.out.below hb9)
    have HSI1b := hid (HSI1.out.below hb9)
    have HO2 := hid ho2
    have HSI2 := hid hsi2
    clear hb9 ho2 hsi2
    go_wp2_with fail
    refine (HA.out _).mono ?_
    rintro e w10 ⟨rfl, hb10⟩
    have HB10 := hid (up HB9.out hb10 (Nat.le_refl _))
    have HONE := hid (one_any t.flat t.flat v1 v2 w10 (HO1b.out.below hb10).rd (HO2.out.below hb10).rd)
    rw [decide_eq_true rfl] at HONE
    have HSI1c := hid (HSI1b.out.below hb10)
    have HSI2c := hid (HSI2.out.below hb10)
    clear hb10
    go_wp2_with fail
    refine (HONE.out).mono ?_
    rintro e w11 ⟨rfl, hb11⟩
    have HB11 := hid (up HB10.out hb11 (Nat.le_refl _))
    have HSI := hid (sites_any ss s1v s2v hsl w11 (HSI1c.out.below hb11).rd (HSI2c.out.below hb11).rd)
    clear hb11
    go_wp2_with fail
    refine (HSI.out).mono ?_
    rintro e w12 ⟨rfl, hb12⟩
    have HB12b := hid (up HB11.out hb12 (Nat.le_refl _))
    clear hb12
    go_wp2
    go_ret
    exact ⟨ret_bool (by simp), HB0.out.trans (HB12b.out.mono HB0.out.size)⟩

theorem text_at {l : List T.Tk} (h : ∀ t ∈ l, t.text.size ≤ 2000000) (p : Nat) : (tokAt l p).text.size ≤ 2000000 := by
  rcases Nat.lt_or_ge p l.length with hp | hp
  · have e : tokAt l p = l[p] := by simp [tokAt, List.getD, hp]
    rw [e]
    exact h _ (List.getElem_mem hp)
  · have e : tokAt l p = ⟨0, ⟨#[]⟩, 0, 0⟩ := by simp [tokAt, List.getD, List.getElem?_eq_none hp]
    rw [e]
    decide

theorem reads_all (A : Option Addr) (cap : Nat) (l : List T.Tk) (hlm : l.length ≤ maxLen) {W : World}
    (hR0 : l ≠ [] → ∃ b o, A = some ⟨b, o, none⟩ ∧ b < W.heap.size ∧ ∀ (i : Nat) (h : i < l.length), W.cell? ⟨b, o + i * 4, none⟩ = some (.int .i64 l[i].kind) ∧ W.cell? ⟨b, o + i * 4 + 1, none⟩ = some (.string l[i].text) ∧ W.cell? ⟨b, o + i * 4 + 2, none⟩ = some (.int .i64 l[i].fr) ∧ W.cell? ⟨b, o + i * 4 + 3, none⟩ = some (.int .i64 l[i].to))
    (htx : ∀ t ∈ l, t.text.size ≤ 2000000) (a b c : Int) :
    Calls Tryz.prog 3 #[.slice A l.length cap, .agg #[.int .i64 a, .int .i64 b, .int .i64 c]] W (Post W) := by
  by_cases hbig : 300 < l.length ∨ 1000000 < b ∨ 1000000 < c
  · exact reads_big A l.length cap hlm a b c hbig W
  · exact reads_walk l (text_at htx) (by omega) _ a b c (by omega) (by omega) W ⟨A, cap, rfl, by omega, hR0⟩

theorem arr_of {P : Program} {w : World} {r : Reach} {base : Nat} {t e : TypeId} {n : Nat} {v : Value} (ht : P.underlying t = some (.array n e)) (h : Value.okWide P w r base t v) : ∃ cs : Array Value, v = .agg cs := by
  simp only [Value.okWide, ht] at h
  obtain ⟨cs, h1, -⟩ := h
  exact ⟨cs, h1⟩

set_option maxRecDepth 100000 in
theorem reads_contract (H : Type) (enc : TypeId × Value → H) (W : World) (base : Nat) (args : Array Value) (ds gs : List (DataW H)) (before : List MemPlace)
    (hval0 : ∀ (j : Nat) t v, Tryz.f3.params[j]? = some t → args[j]? = some v → Value.okWide Tryz.prog W .any base t v)
    (hW : DataW.Whole enc Tryz.prog Tryz.f3.params.toList Rows.treadReadsSpec.vars false W args.toList ds gs before) (hk : Rows.uptoSmall H (ds ++ gs) = true) :
    Calls Tryz.prog 3 args W fun e W' => ∃ v, e = .returned v ∧ Rows.treadReadsSpec.post enc Tryz.prog Tryz.f3 false true false false W args v W' := by
  have hlts := hW.lt
  have hval : ∀ (j : Nat) t v, Tryz.f3.params[j]? = some t → args[j]? = some v → Value.okWide Tryz.prog W .any base t v := hval0
  have hW' := hW
  obtain ⟨p, q, hA0, hV, rfl, hfz, hnd⟩ := hW
  have hA : DataW.TrodAll enc Tryz.prog W 0 (fun _ => true) true Tryz.f3.params.toList args.toList ds p := hA0
  rw [Tryz.params3] at hA hval
  obtain ⟨v0, vs0, d0, ds0, p0, q0, hargs, rfl, rfl, h0, r0⟩ := trodAll_cons hA
  obtain ⟨v1, vs1, d1, ds1, p1, q1, hargs1, rfl, rfl, h1, r1⟩ := trodAll_cons r0
  obtain ⟨hn, rfl, rfl⟩ := trodAll_nil r1
  obtain rfl : args = #[v0, v1] := by cases args; simp_all
  obtain ⟨rfl, rfl⟩ := trodVars_none hV
  obtain ⟨sa0, sl0, sc0, hsv0⟩ := okWide_slice Tryz.underlying22 (hval 0 22 v0 rfl rfl)
  obtain ⟨cs1, hv1⟩ := arr_of Tryz.underlying23 (hval 1 23 v1 rfl rfl)
  obtain ⟨fuel0, hf0⟩ := h0
  obtain ⟨fuel1, hf1⟩ := h1
  obtain ⟨A, cap, l, hu0, hlm, hR0, hT0⟩ := toks_of_trod hf0
  obtain rfl : v0 = .slice A l.length cap := by
    rw [hsv0] at hu0
    rw [hsv0]
    simpa [Value.cells] using hu0
  have hint := ints_of_trod hv1 hf1
  obtain ⟨a, b, c, rfl⟩ := hint
  have htx : ∀ t ∈ l, t.text.size ≤ 2000000 := fun t ht => by
    have h1 := hT0 t ht
    have h2 := small_le hk
    have h3 := bulk_part (show d0 ∈ [d0, d1] ++ [] by simp)
    simp only at h1
    omega
  clear hA0 hval0
  simp only [List.append_nil] at hW' hlts
  refine (reads_all A cap l hlm hR0 htx a b c).mono fun e W' ⟨he, hB⟩ => ?_
  subst he
  refine ⟨_, rfl, _, _, _, [], (p0 ++ (p1 ++ [])), [], by simpa using hW', ?_, ?_, ?_, hB.frame _, fun h => by cases h⟩
  · exact trodAll_cons_mk (shut_bool Tryz.underlying4 _) trodAll_mk0
  · exact (trodAll_cons_mk (Below.trod (by kernel_rfl) (by kernel_rfl) (of_decide_eq_true (by kernel_rfl)) ⟨fuel0, hf0⟩ hB (fun x hx => hlts x (by simp [hx]))) (trodAll_cons_mk (Below.trod (by kernel_rfl) (by kernel_rfl) (of_decide_eq_true (by kernel_rfl)) ⟨fuel1, hf1⟩ hB (fun x hx => hlts x (by simp [hx]))) trodAll_mk0))
  · rfl

set_option maxRecDepth 100000 in
theorem reads_lifted (os : Os) (started : os.Started) (H : Type) (enc : TypeId × Value → H) (F : Stop.Interp) :
    ReturnsInHanded {} Tryz.checked os 3 .any ((Rows.OpenSpec.upto Rows.treadReadsSpec).pre6 enc Tryz.prog Tryz.f3 Rows.treadReadsUptoRow.domain false) (((Rows.OpenSpec.upto Rows.treadReadsSpec).at F).post enc Tryz.prog Tryz.f3 false true false false) := by
  refine returnsInHanded_of_cond (C := Tryz.checked) (s := Rows.OpenSpec.upto Rows.treadReadsSpec) (k := Rows.uptoSmall) rfl own started (by kernel_rfl) Tryz.func3
    (OpenSpec.witness (enc := enc) (C := Tryz.checked) (s := Rows.OpenSpec.upto Rows.treadReadsSpec) (k := Rows.uptoSmall) rfl false ⟨#[], #[.slice none 0 0, .agg #[.int .i64 0, .int .i64 0, .int .i64 0]], []⟩ 8 (by kernel_rfl) (by kernel_rfl) (by kernel_rfl)
      (x := ([.nil, .agg [.lit (.int .i64 0), .lit (.int .i64 0), .lit (.int .i64 0)]], [], [])) (by kernel_rfl) rfl (by kernel_rfl)) ?_
  intro W base args ds gs before hval hW _ hk _
  exact reads_contract H enc W base args ds gs before hval hW hk

/-- TreadReads: the given statement, of the second form. -/
theorem reads_holds : Rows.TreadReadsUptoSaid :=
  OpenClaim.holds_of_cond 3 Tryz.f3 rfl rfl rfl rfl rfl rfl rfl ⟨rfl, rfl, rfl, rfl, rfl⟩ rfl rfl rfl rfl rfl (by kernel_rfl) Tryz.func3 (by kernel_rfl)
    (of_decide_eq_true (by kernel_rfl)) (by unfold Func.isWrapper; first | (rw [if_pos (by decide +kernel)]; kernel_rfl) | (rw [if_neg (by decide +kernel)]; exact ⟨rfl, rfl⟩))
    (fun os started H enc _ F => reads_lifted os started H enc F)

end Go.Proofs.YtgghmhgbdknkaaaGreat.treadReads
