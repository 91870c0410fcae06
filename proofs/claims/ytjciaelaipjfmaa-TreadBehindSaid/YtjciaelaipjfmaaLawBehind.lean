/-
  TreadBehind is true for every two texts and every site: what is read hangs on nothing ahead of it, nor on what stands behind the End. No conditions.
-/
import Derived.Test.YtjciaelaipjfmaaRows
import Derived.Test.YtjciaelaipjfmaaMR4
import Derived.ProofKit
import Derived.OpenShut
namespace Go.Proofs.Ytjciaelaipjfmaa.treadBehind
open Go.ChangeShapes Go.WideShapes Go.ChangeAt Go.RowKit
open Go.ChangeMaps (open_string shut_string)

theorem own : ownKnob Try.prog.godebug = none := by kernel_rfl

abbrev Post (w : World) (e : Ending) (w' : World) : Prop := e = .returned (.bool true) ∧ Below w.heap.size w w'

set_option maxHeartbeats 1000000 in
set_option maxRecDepth 100000 in
theorem behind_big (a s : ByteArray) (site : Int) (w0 : a.size ≤ maxLen) (w1 : s.size ≤ maxLen) (h : 1000 < a.size ∨ 1000 < s.size ∨ site < 1 ∨ 1000000 < site) (w : World) :
    Calls Try.prog 6 #[.string a, .string s, .int .i64 site] w (Post w) := by
  unfold maxLen at w0 w1
  have HA := hid (fun w => alive_any w)
  by_cases h1 : 1000 < a.size
  · go_enter Try.func6, Try.ntmps6
    go_wp2_with fail
    refine (HA.out _).mono ?_
    rintro e w1 ⟨rfl, h1⟩
    go_wp2
    go_ret
    exact ⟨rfl, h1⟩
  by_cases h2 : 1000 < s.size
  · go_enter Try.func6, Try.ntmps6
    go_wp2_with fail
    refine (HA.out _).mono ?_
    rintro e w1 ⟨rfl, h1⟩
    go_wp2
    go_ret
    exact ⟨rfl, h1⟩
  by_cases h3 : site < 1
  · go_enter Try.func6, Try.ntmps6
    go_wp2_with fail
    refine (HA.out _).mono ?_
    rintro e w1 ⟨rfl, h1⟩
    go_wp2
    go_ret
    exact ⟨rfl, h1⟩
  have h4 : 1000000 < site := by omega
  go_enter Try.func6, Try.ntmps6
  go_wp2_with fail
  refine (HA.out _).mono ?_
  rintro e w1 ⟨rfl, h1⟩
  go_wp2
  go_ret
  exact ⟨rfl, h1⟩

/-- What the reference's Tokens tells, as rows that are read; c is its error. -/
def TokV (r : Except Nat (List X.L.Tok)) (w : World) (e : Ending) (w' : World) : Prop :=
  ∃ (v : Value) (p c : Int), e = .returned (.tuple #[v, .int .i64 p, .int .i64 c]) ∧ Below w.heap.size w w' ∧ ((c = 0 ∧ ∃ l, r = .ok l ∧ OwnTk w.heap.size v (l.map tkOf) w') ∨ ((c != 0) = true ∧ ∃ q, r = .error q))

theorem tokens_v (s : ByteArray) (hs : s.size ≤ 100000) (w : World) : Calls Try.prog 11 #[.string s] w (TokV (X.L.toksL s.data.toList) w) := by
  refine (X.refTokens_any s hs w).mono ?_
  rintro e w' ⟨h1, hb⟩
  cases hr : X.L.toksL s.data.toList with
  | ok l =>
    rw [hr] at h1
    obtain ⟨v, he, ho⟩ := h1
    exact ⟨v, 0, 0, he, hb, Or.inl ⟨rfl, l, rfl, own_tk ho⟩⟩
  | error p =>
    rw [hr] at h1
    exact ⟨.slice none 0 0, p, 2, h1, hb, Or.inr ⟨rfl, p, rfl⟩⟩

set_option maxHeartbeats 4000000 in
set_option maxRecDepth 100000 in
theorem behind_walk (a s : ByteArray) (site : Int) (h1 : a.size ≤ 1000) (h2 : s.size ≤ 1000) (h3 : 1 ≤ site) (h4 : site ≤ 1000000) (w : World) :
    Calls Try.prog 6 #[.string a, .string s, .int .i64 site] w (Post w) := by
  obtain ⟨i0, hi, hz0, hz1, hz2⟩ := info_parts infoTokD
  have HA := hid (fun w => alive_any w)
  have HTA := hid (fun w => tokens_v a (by omega) w)
  have HTS := hid (fun w => tokens_v s (by omega) w)
  have HFA := hid (fun r h => tok_facts (s := a) (r := r) h)
  have HFS := hid (fun r h => tok_facts (s := s) (r := r) h)
  go_enter Try.func6, Try.ntmps6
  go_wp2_with fail
  refine (HTA.out _).mono ?_
  rintro e w1 ⟨vk, pk, ck, rfl, hb1, hk⟩
  have HB1 := hid hb1
  clear hb1
  go_wp2_with fail
  refine (HTS.out _).mono ?_
  rintro e w2 ⟨vl, pl, cl, rfl, hb2, hl⟩
  have HB2 := hid (up HB1.out hb2 (Nat.le_refl _))
  have HB12 := hid hb2
  clear hb2
  rcases hk with ⟨rfl, K, hK, hoK⟩ | ⟨hck, -⟩
  case inr =>
    go_wp2_with fail
    refine (HA.out _).mono ?_
    rintro e w3 ⟨rfl, hb3⟩
    have HB3 := hid (up HB2.out hb3 (Nat.le_refl _))
    clear hb3 hl
    go_wp2
    go_ret
    exact ⟨rfl, HB3.out⟩
  rcases hl with ⟨rfl, Lx, hL, hoL⟩ | ⟨hcl, -⟩
  case inr =>
    clear hK hoK
    go_wp2_with fail
    refine (HA.out _).mono ?_
    rintro e w3 ⟨rfl, hb3⟩
    have HB3 := hid (up HB2.out hb3 (Nat.le_refl _))
    clear hb3
    go_wp2
    go_ret
    exact ⟨rfl, HB3.out⟩
  have hfk := HFA.out K hK
  have hfl := HFS.out Lx hL
  have HFK := hid hfk
  have HFL := hid hfl
  have hkl : (K.map tkOf).length ≤ 1001 := by have := hfk.len; omega
  have hll : (Lx.map tkOf).length ≤ 1001 := by have := hfl.len; omega
  have hk0 : 0 < (K.map tkOf).length := hfk.pos
  have hl0 : 0 < (Lx.map tkOf).length := hfl.pos
  have hrk := ((hoK.below HB12.out).rd (by omega))
  have hrl := (hoL.rd (by omega))
  clear hK hL hfk hfl HFA HFS HTA HTS hoK hoL
  generalize K.map tkOf = k at *
  generalize Lx.map tkOf = l at *
  have HRK := hid hrk
  have HRL := hid hrl
  obtain ⟨bk, ok, ck, rfl, hbk, hsk⟩ := hrk.src (by rintro rfl; simp at hk0)
  obtain ⟨bl, ol, cl, rfl, hbl, hsl⟩ := hrl.src (by rintro rfl; simp at hl0)
  have hm0 : ((w2.alloc (.cells #[] 44)).ownsRow w2.heap.size 44 4 (.slice (some ⟨w2.heap.size, 0, none⟩) 0 0) 0 (cellsTk [])) := World.ownsRow_lit w2 #[] 0 (Nat.le_refl _) (by decide) rfl
  have HB3 := hid (below_new (w := w2) (.cells #[] 44))
  have HSK : Hid (∀ w3, Below w2.heap.size w2 w3 → ∀ j u, (cellsTk k)[j]? = some u → w3.cell? ((⟨bk, ok, none⟩ : Addr).add j) = some u) := hid fun w3 hb j u hu => by
    rw [← hsk j u hu, addr_at]
    exact hb.cell (p := ⟨bk, ok + j, none⟩) hbk
  have HSL : Hid (∀ w3, Below w2.heap.size w2 w3 → ∀ j u, (cellsTk l)[j]? = some u → w3.cell? ((⟨bl, ol, none⟩ : Addr).add j) = some u) := hid fun w3 hb j u hu => by
    rw [← hsl j u hu, addr_at]
    exact hb.cell (p := ⟨bl, ol + j, none⟩) hbl
  clear hsk hsl hrk hrl
  go_wp2_with (at_builtin; refine wpList_append_own _ rfl _ _ 29 rfl w2.heap.size 44 i0 (.agg #[.int .i64 0, .string ⟨#[]⟩, .int .i64 0, .int .i64 0]) 4 40 Try.underlying29 hi hz0 hz1 hz2 rfl (by decide) _ _ _ rfl hm0 ⟨bk, ok, none⟩ k.length ck (cellsTk k) rfl (cellsTk_len k) ?c1 ?c2 ?c3 ?c4 ?c5 ?_)
  case c1 => exact HSK.out _ HB3.out
  case c2 => exact cellsTk_one k
  case c3 => unfold maxLen; omega
  case c4 => omega
  case c5 => simp
  intro v4 w4 hown hgrow _
  have HB4 := hid (HB3.out.grown hgrow HB3.out.size (fun k hk => (World.ownsRow.lt hm0 k hk).1))
  have hm4 : OwnTk w2.heap.size v4 k w4 := hown
  obtain ⟨A4, c4, rfl⟩ := row_slice hm4
  have hm4' : w4.ownsRow w2.heap.size 44 4 (.slice A4 k.length c4) k.length (cellsTk k) := hm4
  clear hown hgrow hm0
  go_wp2_with (at_builtin; refine wpList_append_own _ rfl _ _ 29 rfl w2.heap.size 44 i0 (.agg #[.int .i64 0, .string ⟨#[]⟩, .int .i64 0, .int .i64 0]) 4 40 Try.underlying29 hi hz0 hz1 hz2 rfl (by decide) _ _ _ rfl hm4' ⟨bl, ol, none⟩ l.length cl (cellsTk l) rfl (cellsTk_len l) ?c1 ?c2 ?c3 ?c4 ?c5 ?_)
  case c1 => exact HSL.out _ HB4.out
  case c2 => exact cellsTk_one l
  case c3 => unfold maxLen; omega
  case c4 => omega
  case c5 => exact HB4.out.size
  intro v5 w5 hown hgrow _
  have HB5 := hid (HB4.out.grown hgrow HB4.out.size (fun k hk => (World.ownsRow.lt hm4' k hk).1))
  have hm5 : OwnTk w2.heap.size v5 (k ++ l) w5 := OwnTk.app hown
  obtain ⟨A5, c5, rfl⟩ := row_slice hm5
  obtain ⟨x, hx⟩ : ∃ x : T.Tk, x = ⟨5, ⟨#[59]⟩, 0, 0⟩ := ⟨_, rfl⟩
  have HXC : Hid (cellsTk [x] = [.int .i64 5, .string ⟨#[59]⟩, .int .i64 0, .int .i64 0]) := hid (by rw [hx]; rfl)
  have HXT : Hid (x.text.size ≤ 2000000) := hid (by rw [hx]; decide)
  clear hx
  have hm6 := row_below hm5 (below_new (.cells #[.int .i64 5, .string ⟨#[59]⟩, .int .i64 0, .int .i64 0] 44))
  have HB6 := hid (HB5.out.trans ((below_new (w := w5) (.cells #[.int .i64 5, .string ⟨#[59]⟩, .int .i64 0, .int .i64 0] 44)).mono HB5.out.size))
  rw [List.length_append] at hm6
  have hkls : (k ++ l).length = k.length + l.length := List.length_append
  rw [hkls]
  clear hown hgrow hm4 hm4' hm5 hkls
  go_wp2_with (at_builtin; refine wpList_append_own _ rfl _ _ 29 rfl w2.heap.size 44 i0 (.agg #[.int .i64 0, .string ⟨#[]⟩, .int .i64 0, .int .i64 0]) 4 40 Try.underlying29 hi hz0 hz1 hz2 rfl (by decide) _ _ _ rfl hm6 ⟨w5.heap.size, 0, none⟩ 1 1 (cellsTk [x]) rfl rfl ?c1 ?c2 ?c3 ?c4 ?c5 ?_)
  case c1 => rw [HXC.out]; exact lit_cells w5 _ _ [.int .i64 5, .string ⟨#[59]⟩, .int .i64 0, .int .i64 0] rfl
  case c2 => exact cellsTk_one _
  case c3 => unfold maxLen; omega
  case c4 => omega
  case c5 => exact HB6.out.size
  intro v7 w7 hown hgrow _
  have HB7 := hid (HB6.out.grown hgrow HB6.out.size (fun k hk => (World.ownsRow.lt hm6 k hk).1))
  have hm7 : OwnTk w2.heap.size v7 (k ++ l ++ [x]) w7 := OwnTk.app (by rw [List.length_append]; exact hown)
  have hml : (k ++ l ++ [x]).length ≤ 2003 := by simp only [List.length_append, List.length_cons, List.length_nil]; omega
  have HRM := hid (hm7.rd (by omega))
  have HRL7 := hid (((HRL.out.low HB7.out).mono HB7.out.size))
  have HMT : Hid (∀ p, (tokAt (k ++ l ++ [x]) p).text.size ≤ 2000000) := hid (by
    intro p
    rcases Nat.lt_or_ge p (k ++ l).length with h | h
    · rw [tokAt_app_left h]
      rcases Nat.lt_or_ge p k.length with h' | h'
      · rw [tokAt_app_left h']; have := HFK.out.text p; omega
      · rw [tokAt_app_right h']; have := HFL.out.text (p - k.length); omega
    · rw [tokAt_app_right h]
      unfold tokAt
      rcases Nat.eq_zero_or_pos (p - (k ++ l).length) with h' | h'
      · rw [h']; exact HXT.out
      · simp only [List.getD]
        rw [List.getElem?_eq_none (by simp only [List.length_cons, List.length_nil]; omega)]
        exact Nat.zero_le _)
  have HLT : Hid (∀ p, (tokAt l p).text.size ≤ 2000000) := hid (fun p => by have := HFL.out.text p; omega)
  have HR1 := hid (read_any l HLT.out _ 0 site 1 (by omega) w7 HRL7.out)
  have HEQ := hid (readF_behind (k := k) (x := x) HFL.out rfl site h3)
  have HR2 := hid (fun w8 (hb : Below w7.heap.size w7 w8) => read_any (k ++ l ++ [x]) HMT.out v7 (k.length : Int) site 1 (by omega) w8 ((HRM.out.low hb).mono hb.size))
  rw [HEQ.out] at HR2
  have HER := hid (fun q e h => readF_err (l := l) (p := 0) (site := site) (lv := 1) (q := q) (e := e) h)
  have HOK := hid (fun t n ss h => readF_ok (l := l) (p := 0) (site := site) (lv := 1) (t := t) (n := n) (ss := ss) h)
  clear hown hgrow hm6 hm7
  generalize T.readF l 0 site 1 = o at *
  go_wp2_with fail
  refine (HR1.out).mono ?_
  rintro e w8 ⟨hb8, he1⟩
  have HB8 := hid hb8
  have HB28 := hid (up HB7.out hb8 (Nat.le_refl _))
  clear hb8
  cases o with
  | bad p1 e1 =>
    obtain ⟨g1, g2, g3⟩ := HER.out p1 e1 rfl
    unfold OutV at he1
    subst he1
    go_wp2_with fail
    refine (HR2.out _ HB8.out).mono ?_
    rintro e w9 ⟨hb9, he2⟩
    unfold OutV at he2
    simp only [shOut] at he2
    subst he2
    have HB9 := hid (up HB28.out hb9 (Nat.le_refl _))
    clear hb9
    have hne : (e1 != 0) = true := by simp; omega
    have hp2 : ((p1 + k.length : Nat) : Int) = (p1 : Int) + (k.length : Int) := by omega
    rw [hp2]
    clear hp2 g1
    go_wp2_with fail
    refine (HA.out _).mono ?_
    rintro e w10 ⟨rfl, hb10⟩
    have HB10 := hid (up HB9.out hb10 (Nat.le_refl _))
    have HONE := hid (one_any [] [] _ _ w10 (rd_nil w10) (rd_nil w10))
    rw [decide_eq_true rfl] at HONE
    clear hb10
    go_wp2_with fail
    refine (HONE.out).mono ?_
    rintro e w11 ⟨rfl, hb11⟩
    have HB11 := hid (up HB10.out hb11 (Nat.le_refl _))
    have HSI := hid (sites_any [] (.slice none 0 0) (.slice none 0 0) (by simp) w11 ⟨none, 0, rfl, fun h => absurd rfl h⟩ ⟨none, 0, rfl, fun h => absurd rfl h⟩)
    clear hb11
    go_wp2_with fail
    refine (HSI.out).mono ?_
    rintro e w12 ⟨rfl, hb12⟩
    have HB12b := hid (up HB11.out hb12 (Nat.le_refl _))
    clear hb12
    go_wp2
    go_ret
    exact ⟨rfl, HB2.out.trans (HB12b.out.mono HB2.out.size)⟩
  | ok t n ss =>
    obtain ⟨-, -, s1, hty, hn, hss, hg⟩ := HOK.out t n ss rfl
    have hnl : n ≤ l.length := by rw [hn]; exact hg.le
    have hsl : ss.length ≤ 1000000 := by
      obtain ⟨new, h5, -, h6⟩ := hg.went
      have h7 := hg.le
      rw [hss, h5]
      simp only [List.nil_append]
      omega
    obtain ⟨v1, s1v, rfl, ho1, hsi1⟩ := he1
    have HO1 := hid ho1
    have HSI1 := hid hsi1
    clear ho1 hsi1 hn hss hg hty
    go_wp2_with fail
    refine (HR2.out _ HB8.out).mono ?_
    rintro e w9 ⟨hb9, he2⟩
    obtain ⟨v2, s2v, rfl, ho2, hsi2⟩ := he2
    have HB9 := hid (up HB28.out hb9 (Nat.le_refl _))
    have HO1b := hid (HO1.out.below hb9)
    have HSI1b := hid (HSI1.out.below hb9)
    have HO2 := hid ho2
    have HSI2 := hid hsi2
    have hp2 : ((n + k.length : Nat) : Int) = (n : Int) + (k.length : Int) := by omega
    rw [hp2]
    clear hb9 ho2 hsi2 hp2
    go_wp2_with fail
    refine (HA.out _).mono ?_
    rintro e w10 ⟨rfl, hb10⟩
    have HB10 := hid (up HB9.out hb10 (Nat.le_refl _))
    have HONE := hid (one_any t.flat t.flat v1 v2 w10 (HO1b.out.below hb10).rd (HO2.out.below hb10).rd)
    rw [decide_eq_true rfl] at HONE
    have HSI1c := hid (HSI1b.out.below hb10)
    have HSI2c := hid (HSI2.out.below hb10)
    clear hb10
    go_wp2_with fail
    refine (HONE.out).mono ?_
    rintro e w11 ⟨rfl, hb11⟩
    have HB11 := hid (up HB10.out hb11 (Nat.le_refl _))
    have HSI := hid (sites_any ss s1v s2v hsl w11 (HSI1c.out.below hb11).rd (HSI2c.out.below hb11).rd)
    clear hb11
    go_wp2_with fail
    refine (HSI.out).mono ?_
    rintro e w12 ⟨rfl, hb12⟩
    have HB12b := hid (up HB11.out hb12 (Nat.le_refl _))
    clear hb12
    go_wp2
    go_ret
    exact ⟨ret_bool (by simp), HB2.out.trans (HB12b.out.mono HB2.out.size)⟩

theorem behind_true (a s : ByteArray) (site : Int) (w0 : a.size ≤ maxLen) (w1 : s.size ≤ maxLen) (w : World) :
    Calls Try.prog 6 #[.string a, .string s, .int .i64 site] w (Post w) := by
  by_cases h : 1000 < a.size ∨ 1000 < s.size ∨ site < 1 ∨ 1000000 < site
  · exact behind_big a s site w0 w1 h w
  · exact behind_walk a s site (by omega) (by omega) (by omega) (by omega) w

set_option maxRecDepth 100000 in
theorem behind_lifted (os : Os) (started : os.Started) (H : Type) (enc : TypeId × Value → H) :
    ReturnsInHanded {} Try.checked os 6 .any (Rows.treadBehindSpec.pre6 enc Try.prog Try.f6 Rows.treadBehindRow.domain false) (Rows.treadBehindSpec.post enc Try.prog Try.f6 false true false false) := by
  refine returnsInHanded_of_change (C := Try.checked) own started (by kernel_rfl) Try.func6
    (ChangeSpec.witness6 (enc := enc) (C := Try.checked) false ⟨#[], #[.string ⟨#[]⟩, .string ⟨#[]⟩, .int .i64 0], []⟩ 8 (by kernel_rfl) (by kernel_rfl) (by kernel_rfl) (by kernel_rfl)) ?_
  intro W base args ds gs before hval0 hW hcnd _
  have hval : ∀ (j : Nat) t v, Try.f6.params[j]? = some t → args[j]? = some v → Value.okWide Try.prog W .any base t v := hval0
  have hW' := hW
  obtain ⟨p, q, hA0, hV, rfl, hfz, hnd⟩ := hW
  have hA : DataW.TrodAll enc Try.prog W 0 (fun _ => true) true Try.f6.params.toList args.toList ds p := hA0
  rw [Try.params6] at hA hval
  obtain ⟨v0, vs0, d0, ds0, p0, q0, hargs, rfl, rfl, h0, r0⟩ := trodAll_cons hA
  obtain ⟨v1, vs1, d1, ds1, p1, q1, hargs1, rfl, rfl, h1, r1⟩ := trodAll_cons r0
  obtain ⟨v2, vs2, d2, ds2, p2, q2, hargs2, rfl, rfl, h2, r2⟩ := trodAll_cons r1
  obtain ⟨hn, rfl, rfl⟩ := trodAll_nil r2
  obtain rfl : args = #[v0, v1, v2] := by cases args; simp_all
  obtain ⟨rfl, rfl⟩ := trodVars_none hV
  obtain ⟨a0, rfl, rfl, rfl, w0⟩ := open_string Try.underlying9 (hval 0 9 v0 rfl rfl) h0
  obtain ⟨a1, rfl, rfl, rfl, w1⟩ := open_string Try.underlying9 (hval 1 9 v1 rfl rfl) h1
  obtain ⟨a2, rfl, rfl, rfl, w2⟩ := open_int Try.underlying3 (hval 2 3 v2 rfl rfl) h2
  clear hA0 hval0
  simp only [List.append_nil] at hW'
  refine (behind_true a0 a1 a2 w0 w1 W).mono fun e W' ⟨he, hB⟩ => ?_
  subst he
  refine ⟨_, rfl, _, _, _, [], [], [], hW', ?_, ?_, ?_, hB.frame _, fun h => by cases h⟩
  · exact trodAll_cons_mk (shut_bool Try.underlying4 _) trodAll_mk0
  · exact (trodAll_cons_mk (shut_string Try.underlying9 w0) (trodAll_cons_mk (shut_string Try.underlying9 w1) (trodAll_cons_mk (shut_int Try.underlying3 w2) trodAll_mk0)))
  · rfl

/-- TreadBehind: the given statement. -/
theorem behind_holds : Rows.TreadBehindSaid :=
  OpenClaim.holds_of_wide 6 Try.f6 rfl rfl rfl rfl rfl rfl rfl ⟨rfl, rfl, rfl, rfl, rfl⟩ rfl rfl rfl rfl rfl (by kernel_rfl) Try.func6 (by kernel_rfl)
    (of_decide_eq_true (by kernel_rfl)) (by unfold Func.isWrapper; first | (rw [if_pos (by decide +kernel)]; kernel_rfl) | (rw [if_neg (by decide +kernel)]; exact ⟨rfl, rfl⟩))
    (fun os started H enc _ => behind_lifted os started H enc)

end Go.Proofs.Ytjciaelaipjfmaa.treadBehind
