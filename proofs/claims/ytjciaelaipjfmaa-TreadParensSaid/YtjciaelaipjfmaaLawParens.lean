/-
  TreadParens is true for every text: a type in brackets is the type, with the same sites, unless that is too deep. No conditions.
-/
import Derived.Test.YtjciaelaipjfmaaRows
import Derived.Test.YtjciaelaipjfmaaMPa
import Derived.ProofKit
import Derived.OpenShut
namespace Go.Proofs.Ytjciaelaipjfmaa.treadParens
open Go.ChangeShapes Go.WideShapes Go.ChangeAt Go.RowKit
open Go.ChangeMaps (open_string shut_string)

theorem own : ownKnob Try.prog.godebug = none := by kernel_rfl

abbrev Post (w : World) (e : Ending) (w' : World) : Prop := e = .returned (.bool true) ∧ Below w.heap.size w w'

set_option maxHeartbeats 1000000 in
set_option maxRecDepth 100000 in
theorem parens_big (s : ByteArray) (w0 : s.size ≤ maxLen) (h : 2998 < s.size) (w : World) :
    Calls Try.prog 5 #[.string s] w (Post w) := by
  unfold maxLen at w0
  have HA := hid (fun w => alive_any w)
  go_enter Try.func5, Try.ntmps5
  go_wp2_with fail
  refine (HA.out _).mono ?_
  rintro e w1 ⟨rfl, h1⟩
  go_wp2
  go_ret
  exact ⟨rfl, h1⟩

/-- What the reference's Tokens tells, as rows that are read; c is its error. -/
def TokV (r : Except Nat (List X.L.Tok)) (w : World) (e : Ending) (w' : World) : Prop :=
  ∃ (v : Value) (p c : Int), e = .returned (.tuple #[v, .int .i64 p, .int .i64 c]) ∧ Below w.heap.size w w' ∧ ((c = 0 ∧ ∃ l, r = .ok l ∧ OwnTk w.heap.size v (l.map tkOf) w') ∨ ((c != 0) = true ∧ ∃ q, r = .error q))

theorem tokens_v (s : ByteArray) (hs : s.size ≤ 100000) (w : World) : Calls Try.prog 11 #[.string s] w (TokV (X.L.toksL s.data.toList) w) := by
  refine (X.refTokens_any s hs w).mono ?_
  rintro e w' ⟨h1, hb⟩
  cases hr : X.L.toksL s.data.toList with
  | ok l =>
    rw [hr] at h1
    obtain ⟨v, he, ho⟩ := h1
    exact ⟨v, 0, 0, he, hb, Or.inl ⟨rfl, l, rfl, own_tk ho⟩⟩
  | error p =>
    rw [hr] at h1
    exact ⟨.slice none 0 0, p, 2, h1, hb, Or.inr ⟨rfl, p, rfl⟩⟩

set_option maxHeartbeats 4000000 in
set_option maxRecDepth 100000 in
theorem parens_walk (s : ByteArray) (h2 : s.size ≤ 2998) (w : World) :
    Calls Try.prog 5 #[.string s] w (Post w) := by
  obtain ⟨i0, hi, hz0, hz1, hz2⟩ := info_parts infoTokD
  have HA := hid (fun w => alive_any w)
  have HTS := hid (fun w => tokens_v s (by omega) w)
  have HFS := hid (fun r h => tok_facts (s := s) (r := r) h)
  go_enter Try.func5, Try.ntmps5
  go_wp2_with fail
  refine (HTS.out _).mono ?_
  rintro e w2 ⟨vl, pl, cl, rfl, hb2, hl⟩
  have HB2 := hid hb2
  clear hb2
  rcases hl with ⟨rfl, Lx, hL, hoL⟩ | ⟨hcl, -⟩
  case inr =>
    go_wp2_with fail
    refine (HA.out _).mono ?_
    rintro e w3 ⟨rfl, hb3⟩
    have HB3 := hid (up HB2.out hb3 (Nat.le_refl _))
    clear hb3
    go_wp2
    go_ret
    exact ⟨rfl, HB3.out⟩
  have hfl := HFS.out Lx hL
  have HFL := hid hfl
  have hll : (Lx.map tkOf).length ≤ 2999 := by have := hfl.len; omega
  have hl0 : 0 < (Lx.map tkOf).length := hfl.pos
  clear hL hfl HFS HTS
  generalize Lx.map tkOf = l at *
  have HRL := hid (hoL.rd (by omega))
  obtain ⟨gl, cl, rfl, hbl, hcap⟩ : ∃ g c, vl = .slice (some ⟨g, 0, none⟩) l.length c ∧ g < w2.heap.size ∧ l.length ≤ c := by
    rcases hoL.2 with ⟨_, hz⟩ | ⟨g, cap, cur, hv, _, hh, hnc, _⟩
    · omega
    · exact ⟨g, cap, hv, heap_lt hh, hnc⟩
  have HSL : Hid (∀ w3, Below w2.heap.size w2 w3 → ∀ j u, (cellsTk (l.take (l.length - 1)))[j]? = some u → w3.cell? ((⟨gl, 0, none⟩ : Addr).add j) = some u) := hid fun w3 hb j u hu => by
    rw [addr_at, hb.cell (p := ⟨gl, 0 + j, none⟩) hbl, Nat.zero_add]
    have hj : j < (cellsTk (l.take (l.length - 1))).length := (List.getElem?_eq_some_iff.1 hu).1
    rw [cellsTk_len, List.length_take] at hj
    rw [World.ownsRow.cellAt hoL j (by omega)]
    have e : cellsTk l = cellsTk (l.take (l.length - 1)) ++ cellsTk (l.drop (l.length - 1)) := by rw [← cellsTk_app, List.take_append_drop]
    rw [e, List.getElem?_append_left (by rw [cellsTk_len, List.length_take]; omega)]
    exact hu
  have HML : Hid ((l.take (l.length - 1)).length = l.length - 1) := hid (by rw [List.length_take]; omega)
  have HPO : Hid (cellsTk [parO] = [.int .i64 5, .string ⟨#[40]⟩, .int .i64 0, .int .i64 0]) := hid rfl
  have HPC : Hid (cellsTk [parC, parE] = [.int .i64 5, .string ⟨#[41]⟩, .int .i64 0, .int .i64 0, .int .i64 0, .string ⟨#[]⟩, .int .i64 0, .int .i64 0]) := hid rfl
  have HPT : Hid (parT l = [parO] ++ l.take (l.length - 1) ++ [parC, parE]) := hid rfl
  have HPL : Hid ((parT l).length = l.length + 2) := hid (parT_len hl0)
  have HPX : Hid (∀ p, (tokAt (parT l) p).text.size ≤ 2000000) := hid (by
    obtain ⟨p0, pm, pc, pe⟩ := parT_at hl0
    intro p
    rcases (by omega : p = 0 ∨ (1 ≤ p ∧ p - 1 < l.length - 1) ∨ p = l.length ∨ p = l.length + 1 ∨ l.length + 2 ≤ p) with h | h | h | h | h
    · rw [h, tokAt_some p0]; decide
    · have h1 := pm (p - 1) h.2
      rw [show p - 1 + 1 = p by omega] at h1
      have h3 : p - 1 < l.length := by omega
      rw [List.getElem?_eq_getElem h3] at h1
      have h4 := HFL.out.text (p - 1)
      have e : tokAt l (p - 1) = l[p - 1] := by simp [tokAt, List.getD, h3]
      rw [tokAt_some h1, ← e]
      omega
    · rw [h, tokAt_some pc]; decide
    · rw [h, tokAt_some pe]; decide
    · rw [tokAt_none (List.getElem?_eq_none (by rw [parT_len hl0]; omega))]; decide)
  generalize hPT : parT l = m at *
  have hm0 : (w2.alloc (.cells #[.int .i64 5, .string ⟨#[40]⟩, .int .i64 0, .int .i64 0] 44)).ownsRow w2.heap.size 44 4 (.slice (some ⟨w2.heap.size, 0, none⟩) 1 1) 1 (cellsTk [parO]) := World.ownsRow_lit w2 #[.int .i64 5, .string ⟨#[40]⟩, .int .i64 0, .int .i64 0] 1 (Nat.le_refl _) (by decide) rfl
  have HB3 := hid (below_new (w := w2) (.cells #[.int .i64 5, .string ⟨#[40]⟩, .int .i64 0, .int .i64 0] 44))
  have HPTE := hid hPT
  have hn1 : ((l.length - 1 : Nat) : Int) = (l.length : Int) - 1 := by omega
  have hsl1 : 0 ≤ (l.length : Int) - 1 := by omega
  have hsl2 : (l.length : Int) - 1 ≤ (cl : Int) := by omega
  clear hPT hoL
  go_wp2_with (at_builtin; refine wpList_append_own _ rfl _ _ 29 rfl w2.heap.size 44 i0 (.agg #[.int .i64 0, .string ⟨#[]⟩, .int .i64 0, .int .i64 0]) 4 40 Try.underlying29 hi hz0 hz1 hz2 rfl (by decide) _ _ _ rfl hm0 ⟨gl, 0, none⟩ (l.length - 1) cl (cellsTk (l.take (l.length - 1))) rfl ?c0 ?c1 ?c2 ?c3 ?c4 ?c5 ?_)
  case c0 => rw [cellsTk_len, HML.out]
  case c1 => exact HSL.out _ HB3.out
  case c2 => exact cellsTk_one _
  case c3 => unfold maxLen; omega
  case c4 => omega
  case c5 => simp
  intro v4 w4 hown hgrow _
  have HB4 := hid (HB3.out.grown hgrow HB3.out.size (fun k hk => (World.ownsRow.lt hm0 k hk).1))
  have hm4 : OwnTk w2.heap.size v4 ([parO] ++ l.take (l.length - 1)) w4 := OwnTk.app (by rw [HML.out]; exact hown)
  obtain ⟨n4, hn4⟩ : ∃ n4, n4 = ([parO] ++ l.take (l.length - 1)).length := ⟨_, rfl⟩
  have hn4l : n4 ≤ 3001 := by rw [hn4, List.length_append, HML.out]; simp only [List.length_cons, List.length_nil]; omega
  have HN4 := hid hn4
  have hm5 : w4.ownsRow w2.heap.size 44 4 v4 n4 (cellsTk ([parO] ++ l.take (l.length - 1))) := by rw [hn4]; exact hm4
  obtain ⟨A4, c4, rfl⟩ := row_slice hm5
  have hm6 := row_below hm5 (below_new (.cells #[.int .i64 5, .string ⟨#[41]⟩, .int .i64 0, .int .i64 0, .int .i64 0, .string ⟨#[]⟩, .int .i64 0, .int .i64 0] 44))
  have HB6 := hid (HB4.out.trans ((below_new (w := w4) (.cells #[.int .i64 5, .string ⟨#[41]⟩, .int .i64 0, .int .i64 0, .int .i64 0, .string ⟨#[]⟩, .int .i64 0, .int .i64 0] 44)).mono HB4.out.size))
  have hlt4 : ∀ k, (Value.slice A4 n4 c4).ownBlock = some k → w2.heap.size ≤ k ∧ k < (w4.alloc (.cells #[.int .i64 5, .string ⟨#[41]⟩, .int .i64 0, .int .i64 0, .int .i64 0, .string ⟨#[]⟩, .int .i64 0, .int .i64 0] 44)).heap.size := World.ownsRow.lt hm6
  have HLT4 := hid hlt4
  clear hown hgrow hm4 hm5 hn4 hlt4 hm0
  go_wp2_with (at_builtin; refine wpList_append_own _ rfl _ _ 29 rfl w2.heap.size 44 i0 (.agg #[.int .i64 0, .string ⟨#[]⟩, .int .i64 0, .int .i64 0]) 4 40 Try.underlying29 hi hz0 hz1 hz2 rfl (by decide) _ _ _ rfl hm6 ⟨w4.heap.size, 0, none⟩ 2 2 (cellsTk [parC, parE]) rfl rfl ?c1 ?c2 ?c3 ?c4 ?c5 ?_)
  case c1 => rw [HPC.out]; exact lit_cells w4 _ _ [.int .i64 5, .string ⟨#[41]⟩, .int .i64 0, .int .i64 0, .int .i64 0, .string ⟨#[]⟩, .int .i64 0, .int .i64 0] rfl
  case c2 => exact cellsTk_one _
  case c3 => unfold maxLen; omega
  case c4 => omega
  case c5 => exact HB6.out.size
  intro v7 w7 hown hgrow _
  have HB7 := hid (HB6.out.grown hgrow HB6.out.size (fun k hk => (HLT4.out k hk).1))
  have hm7 : OwnTk w2.heap.size v7 m w7 := by
    rw [HPT.out]
    exact OwnTk.app (by rw [← HN4.out]; exact hown)
  have HRM := hid (hm7.rd (by rw [HPL.out]; omega))
  have HRL7 := hid (((HRL.out.low HB7.out).mono HB7.out.size))
  have HLT : Hid (∀ p, (tokAt l p).text.size ≤ 2000000) := hid (fun p => by have := HFL.out.text p; omega)
  have HOF1 := hid (of_any l HLT.out _ w7 HRL7.out)
  have HOF2 := hid (fun w8 (hb : Below w7.heap.size w7 w8) => of_any m HPX.out v7 w8 ((HRM.out.low hb).mono hb.size))
  have HPAR := hid (fun t ss h => ofF_par (l := l) HFL.out (t := t) (ss := ss) h)
  have HERR := hid (fun e h => ofF_err (l := l) (e := e) h)
  have HSSL := hid (fun t ss h => ofF_sites (l := l) (t := t) (ss := ss) h)
  rw [HPTE.out] at HPAR
  clear hown hgrow hm6 hm7
  generalize ofF l = o1 at *
  generalize ofF m = o2 at *
  go_wp2_with fail
  refine (HOF1.out).mono ?_
  rintro e w8 ⟨hb8, he1⟩
  have HB8 := hid hb8
  have HB28 := hid (up HB7.out hb8 (Nat.le_refl _))
  clear hb8
  cases o1 with
  | bad e1 =>
    have he0 := HERR.out e1 rfl
    have hne : (e1 != 0) = true := by simp; omega
    unfold OfV at he1
    subst he1
    go_wp2_with fail
    refine (HOF2.out _ HB8.out).mono ?_
    rintro e w9 ⟨hb9, he2⟩
    obtain ⟨r0, r1, r2, rfl⟩ : ∃ r0 r1 r2, e = .returned (.tuple #[r0, r1, .int .i64 r2]) := by
      cases o2 with
      | bad e2 => exact ⟨_, _, _, he2⟩
      | ok t ss => obtain ⟨v, vs, h, -⟩ := he2; exact ⟨_, _, _, h⟩
    have HB9 := hid (up HB28.out hb9 (Nat.le_refl _))
    clear hb9 he2 he0
    go_wp2_with fail
    refine (HA.out _).mono ?_
    rintro e w10 ⟨rfl, hb10⟩
    have HB10 := hid (up HB9.out hb10 (Nat.le_refl _))
    clear hb10
    go_wp2
    go_ret
    exact ⟨rfl, HB2.out.trans (HB10.out.mono HB2.out.size)⟩
  | ok t ss =>
    obtain ⟨v1, s1v, rfl, ho1, hsi1⟩ := he1
    have HO1 := hid ho1
    have HSI1 := hid hsi1
    have hsl : ss.length ≤ 1000000 := by have := HSSL.out t ss rfl; omega
    clear ho1 hsi1
    rcases HPAR.out t ss rfl with h | h
    · subst h
      go_wp2_with fail
      refine (HOF2.out _ HB8.out).mono ?_
      rintro e w9 ⟨hb9, he2⟩
      obtain ⟨v2, s2v, rfl, ho2, hsi2⟩ := he2
      have HB9 := hid (up HB28.out hb9 (Nat.le_refl _))
      have HO1b := hid (HO1.out.below hb9)
      have HSI1b := hid (HSI1.out.below hb9)
      have HO2 := hid ho2
      have HSI2 := hid hsi2
      clear hb9 ho2 hsi2
      go_wp2_with fail
      refine (HA.out _).mono ?_
      rintro e w10 ⟨rfl, hb10⟩
      have HB10 := hid (up HB9.out hb10 (Nat.le_refl _))
      have HONE := hid (one_any t.flat t.flat v1 v2 w10 (HO1b.out.below hb10).rd (HO2.out.below hb10).rd)
      rw [decide_eq_true rfl] at HONE
      have HSI1c := hid (HSI1b.out.below hb10)
      have HSI2c := hid (HSI2.out.below hb10)
      clear hb10
      go_wp2_with fail
      refine (HONE.out).mono ?_
      rintro e w11 ⟨rfl, hb11⟩
      have HB11 := hid (up HB10.out hb11 (Nat.le_refl _))
      have HSI := hid (sites_any ss s1v s2v hsl w11 (HSI1c.out.below hb11).rd (HSI2c.out.below hb11).rd)
      clear hb11
      go_wp2_with fail
      refine (HSI.out).mono ?_
      rintro e w12 ⟨rfl, hb12⟩
      have HB12b := hid (up HB11.out hb12 (Nat.le_refl _))
      clear hb12
      go_wp2
      go_ret
      exact ⟨ret_bool (by simp), HB2.out.trans (HB12b.out.mono HB2.out.size)⟩
    · subst h
      go_wp2_with fail
      refine (HOF2.out _ HB8.out).mono ?_
      rintro e w9 ⟨hb9, rfl⟩
      have HB9 := hid (up HB28.out hb9 (Nat.le_refl _))
      clear hb9
      go_wp2_with fail
      refine (HA.out _).mono ?_
      rintro e w10 ⟨rfl, hb10⟩
      have HB10 := hid (up HB9.out hb10 (Nat.le_refl _))
      clear hb10
      go_wp2
      go_ret
      exact ⟨rfl, HB2.out.trans (HB10.out.mono HB2.out.size)⟩

theorem parens_true (s : ByteArray) (w0 : s.size ≤ maxLen) (w : World) :
    Calls Try.prog 5 #[.string s] w (Post w) := by
  by_cases h : 2998 < s.size
  · exact parens_big s w0 h w
  · exact parens_walk s (by omega) w

set_option maxRecDepth 100000 in
theorem parens_lifted (os : Os) (started : os.Started) (H : Type) (enc : TypeId × Value → H) :
    ReturnsInHanded {} Try.checked os 5 .any (Rows.treadParensSpec.pre6 enc Try.prog Try.f5 Rows.treadParensRow.domain false) (Rows.treadParensSpec.post enc Try.prog Try.f5 false true false false) := by
  refine returnsInHanded_of_change (C := Try.checked) own started (by kernel_rfl) Try.func5
    (ChangeSpec.witness6 (enc := enc) (C := Try.checked) false ⟨#[], #[.string ⟨#[]⟩], []⟩ 8 (by kernel_rfl) (by kernel_rfl) (by kernel_rfl) (by kernel_rfl)) ?_
  intro W base args ds gs before hval0 hW hcnd _
  have hval : ∀ (j : Nat) t v, Try.f5.params[j]? = some t → args[j]? = some v → Value.okWide Try.prog W .any base t v := hval0
  have hW' := hW
  obtain ⟨p, q, hA0, hV, rfl, hfz, hnd⟩ := hW
  have hA : DataW.TrodAll enc Try.prog W 0 (fun _ => true) true Try.f5.params.toList args.toList ds p := hA0
  rw [Try.params5] at hA hval
  obtain ⟨v0, vs0, d0, ds0, p0, q0, hargs, rfl, rfl, h0, r0⟩ := trodAll_cons hA
  obtain ⟨hn, rfl, rfl⟩ := trodAll_nil r0
  obtain rfl : args = #[v0] := by cases args; simp_all
  obtain ⟨rfl, rfl⟩ := trodVars_none hV
  obtain ⟨a0, rfl, rfl, rfl, w0⟩ := open_string Try.underlying9 (hval 0 9 v0 rfl rfl) h0
  clear hA0 hval0
  simp only [List.append_nil] at hW'
  refine (parens_true a0 w0 W).mono fun e W' ⟨he, hB⟩ => ?_
  subst he
  refine ⟨_, rfl, _, _, _, [], [], [], hW', ?_, ?_, ?_, hB.frame _, fun h => by cases h⟩
  · exact trodAll_cons_mk (shut_bool Try.underlying4 _) trodAll_mk0
  · exact (trodAll_cons_mk (shut_string Try.underlying9 w0) trodAll_mk0)
  · rfl

/-- TreadParens: the given statement. -/
theorem parens_holds : Rows.TreadParensSaid :=
  OpenClaim.holds_of_wide 5 Try.f5 rfl rfl rfl rfl rfl rfl rfl ⟨rfl, rfl, rfl, rfl, rfl⟩ rfl rfl rfl rfl rfl (by kernel_rfl) Try.func5 (by kernel_rfl)
    (of_decide_eq_true (by kernel_rfl)) (by unfold Func.isWrapper; first | (rw [if_pos (by decide +kernel)]; kernel_rfl) | (rw [if_neg (by decide +kernel)]; exact ⟨rfl, rfl⟩))
    (fun os started H enc _ => parens_lifted os started H enc)

end Go.Proofs.Ytjciaelaipjfmaa.treadParens
