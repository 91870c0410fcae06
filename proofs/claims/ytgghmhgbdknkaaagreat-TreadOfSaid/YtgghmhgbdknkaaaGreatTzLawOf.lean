/-
  TreadOf is true for every text: what is read of its tokens is as the reference's Of tells. No conditions.
-/
import Derived.Test.YtgghmhgbdknkaaaGreatRows
import Derived.Test.YtgghmhgbdknkaaaGreatTzI
import Derived.Test.YtgghmhgbdknkaaaGreatTrPa
import Derived.ProofKit
import Derived.OpenShut
namespace Go.Proofs.YtgghmhgbdknkaaaGreat.treadOf
open Go.ChangeShapes Go.WideShapes Go.ChangeAt Go.RowKit
open Go.ChangeMaps (open_string shut_string)

theorem own : ownKnob Tryz.prog.godebug = none := by kernel_rfl

abbrev Post (w : World) (e : Ending) (w' : World) : Prop := e = .returned (.bool true) ∧ Below w.heap.size w w'

set_option maxHeartbeats 1000000 in
set_option maxRecDepth 100000 in
theorem of_big (s : ByteArray) (w0 : s.size ≤ maxLen) (h : 3000 < s.size) (w : World) :
    Calls Tryz.prog 4 #[.string s] w (Post w) := by
  unfold maxLen at w0
  have HA := hid (fun w => alive_any w)
  go_enter Tryz.func4, Tryz.ntmps4
  go_wp2_with fail
  refine (HA.out _).mono ?_
  rintro e w1 ⟨rfl, h1⟩
  go_wp2
  go_ret
  exact ⟨rfl, h1⟩

/-- What the reference's Tokens tells, as rows that are read; c is its error. -/
def TokV (r : Except Nat (List X.L.Tok)) (w : World) (e : Ending) (w' : World) : Prop :=
  ∃ (v : Value) (p c : Int), e = .returned (.tuple #[v, .int .i64 p, .int .i64 c]) ∧ Below w.heap.size w w' ∧ ((c = 0 ∧ ∃ l, r = .ok l ∧ OwnTk w.heap.size v (l.map tkOf) w') ∨ ((c != 0) = true ∧ ∃ q, r = .error q))

theorem tokens_v (s : ByteArray) (hs : s.size ≤ 100000) (w : World) : Calls Tryz.prog 10 #[.string s] w (TokV (X.L.toksL s.data.toList) w) := by
  refine (X.refTokens_any s hs w).mono ?_
  rintro e w' ⟨h1, hb⟩
  cases hr : X.L.toksL s.data.toList with
  | ok l =>
    rw [hr] at h1
    obtain ⟨v, he, ho⟩ := h1
    exact ⟨v, 0, 0, he, hb, Or.inl ⟨rfl, l, rfl, own_tk ho⟩⟩
  | error p =>
    rw [hr] at h1
    exact ⟨.slice none 0 0, p, 2, h1, hb, Or.inr ⟨rfl, p, rfl⟩⟩

set_option maxHeartbeats 4000000 in
set_option maxRecDepth 100000 in
theorem of_walk (s : ByteArray) (h2 : s.size ≤ 3000) (w : World) :
    Calls Tryz.prog 4 #[.string s] w (Post w) := by
  have HA := hid (fun w => alive_any w)
  have HTS := hid (fun w => tokens_v s (by omega) w)
  have HFS := hid (fun r h => tok_facts (s := s) (r := r) h)
  go_enter Tryz.func4, Tryz.ntmps4
  go_wp2_with fail
  refine (HTS.out _).mono ?_
  rintro e w2 ⟨vl, pl, cl, rfl, hb2, hl⟩
  have HB2 := hid hb2
  clear hb2
  rcases hl with ⟨rfl, Lx, hL, hoL⟩ | ⟨hcl, -⟩
  case inr =>
    go_wp2_with fail
    refine (HA.out _).mono ?_
    rintro e w3 ⟨rfl, hb3⟩
    have HB3 := hid (up HB2.out hb3 (Nat.le_refl _))
    clear hb3
    go_wp2
    go_ret
    exact ⟨rfl, HB3.out⟩
  have hfl := HFS.out Lx hL
  have HFL := hid hfl
  have hll : (Lx.map tkOf).length ≤ 3001 := by have := hfl.len; omega
  have hl0 : 0 < (Lx.map tkOf).length := hfl.pos
  clear hL hfl HFS HTS
  generalize Lx.map tkOf = l at *
  have HRL := hid (hoL.rd (by omega))
  have HLT : Hid (∀ p, (tokAt l p).text.size ≤ 2000000) := hid (fun p => by have := HFL.out.text p; omega)
  have HOF1 := hid (of_any l HLT.out _ w2 HRL.out)
  have HOF2 := hid (fun w8 (hb : Below w2.heap.size w2 w8) => zof_any l (by omega) HLT.out vl w8 ((HRL.out.low hb).mono hb.size))
  have HERR := hid (fun e h => ofF_err (l := l) (e := e) h)
  have HSSL := hid (fun t ss h => ofF_sites (l := l) (t := t) (ss := ss) h)
  clear hoL
  generalize ofF l = o1 at *
  go_wp2_with fail
  refine (HOF1.out).mono ?_
  rintro e w8 ⟨hb8, he1⟩
  have HB8 := hid hb8
  have HB28 := hid (up HB2.out hb8 (Nat.le_refl _))
  clear hb8
  cases o1 with
  | bad e1 =>
    have he0 := HERR.out e1 rfl
    unfold OfV at he1
    subst he1
    go_wp2_with fail
    refine (HOF2.out _ HB8.out).mono ?_
    rintro e w9 ⟨hb9, he2⟩
    unfold OfZV at he2
    subst he2
    have HB9 := hid (up HB28.out hb9 (Nat.le_refl _))
    clear hb9 he0
    go_wp2_with fail
    refine (HA.out _).mono ?_
    rintro e w10 ⟨rfl, hb10⟩
    have HB10 := hid (up HB9.out hb10 (Nat.le_refl _))
    have HONE := hid (one_any [] [] (.slice none 0 0) (.slice none 0 0) w10 (Own.nil w10.heap.size w10).rd (Own.nil w10.heap.size w10).rd)
    rw [decide_eq_true rfl] at HONE
    clear hb10
    go_wp2_with fail
    refine (HONE.out).mono ?_
    rintro e w11 ⟨rfl, hb11⟩
    have HB11 := hid (up HB10.out hb11 (Nat.le_refl _))
    have HSI := hid (sites_any [] (.slice none 0 0) (.slice none 0 0) (by simp) w11 (RdSt.nil w11).rd (RdSt.nil w11).rd)
    clear hb11
    go_wp2_with fail
    refine (HSI.out).mono ?_
    rintro e w12 ⟨rfl, hb12⟩
    have HB12b := hid (up HB11.out hb12 (Nat.le_refl _))
    clear hb12
    go_wp2
    go_ret
    exact ⟨ret_bool (by simp), HB12b.out⟩
  | ok t ss =>
    obtain ⟨v1, s1v, rfl, ho1, hsi1⟩ := he1
    have HO1 := hid ho1
    have HSI1 := hid hsi1
    have hsl : ss.length ≤ 1000000 := by have := HSSL.out t ss rfl; omega
    clear ho1 hsi1
    go_wp2_with fail
    refine (HOF2.out _ HB8.out).mono ?_
    rintro e w9 ⟨hb9, he2⟩
    obtain ⟨v2, s2v, rfl, ho2, hsi2⟩ := he2
    have HB9 := hid (up HB28.out hb9 (Nat.le_refl _))
    have HO1b := hid (HO1.out.below hb9)
    have HSI1b := hid (HSI1.out.below hb9)
    have HO2 := hid ho2
    have HSI2 := hid hsi2
    clear hb9 ho2 hsi2
    go_wp2_with fail
    refine (HA.out _).mono ?_
    rintro e w10 ⟨rfl, hb10⟩
    have HB10 := hid (up HB9.out hb10 (Nat.le_refl _))
    have HONE := hid (one_any t.flat t.flat v1 v2 w10 (HO1b.out.below hb10).rd (HO2.out.below hb10).rd)
    rw [decide_eq_true rfl] at HONE
    have HSI1c := hid (HSI1b.out.below hb10)
    have HSI2c := hid (HSI2.out.below hb10)
    clear hb10
    go_wp2_with fail
    refine (HONE.out).mono ?_
    rintro e w11 ⟨rfl, hb11⟩
    have HB11 := hid (up HB10.out hb11 (Nat.le_refl _))
    have HSI := hid (sites_any ss s1v s2v hsl w11 (HSI1c.out.below hb11).rd (HSI2c.out.below hb11).rd)
    clear hb11
    go_wp2_with fail
    refine (HSI.out).mono ?_
    rintro e w12 ⟨rfl, hb12⟩
    have HB12b := hid (up HB11.out hb12 (Nat.le_refl _))
    clear hb12
    go_wp2
    go_ret
    exact ⟨ret_bool (by simp), HB12b.out⟩

theorem of_true (s : ByteArray) (w0 : s.size ≤ maxLen) (w : World) :
    Calls Tryz.prog 4 #[.string s] w (Post w) := by
  by_cases h : 3000 < s.size
  · exact of_big s w0 h w
  · exact of_walk s (by omega) w

set_option maxRecDepth 100000 in
theorem of_lifted (os : Os) (started : os.Started) (H : Type) (enc : TypeId × Value → H) :
    ReturnsInHanded {} Tryz.checked os 4 .any (Rows.treadOfSpec.pre6 enc Tryz.prog Tryz.f4 Rows.treadOfRow.domain false) (Rows.treadOfSpec.post enc Tryz.prog Tryz.f4 false true false false) := by
  refine returnsInHanded_of_change (C := Tryz.checked) own started (by kernel_rfl) Tryz.func4
    (ChangeSpec.witness6 (enc := enc) (C := Tryz.checked) false ⟨#[], #[.string ⟨#[]⟩], []⟩ 8 (by kernel_rfl) (by kernel_rfl) (by kernel_rfl) (by kernel_rfl)) ?_
  intro W base args ds gs before hval0 hW hcnd _
  have hval : ∀ (j : Nat) t v, Tryz.f4.params[j]? = some t → args[j]? = some v → Value.okWide Tryz.prog W .any base t v := hval0
  have hW' := hW
  obtain ⟨p, q, hA0, hV, rfl, hfz, hnd⟩ := hW
  have hA : DataW.TrodAll enc Tryz.prog W 0 (fun _ => true) true Tryz.f4.params.toList args.toList ds p := hA0
  rw [Tryz.params4] at hA hval
  obtain ⟨v0, vs0, d0, ds0, p0, q0, hargs, rfl, rfl, h0, r0⟩ := trodAll_cons hA
  obtain ⟨hn, rfl, rfl⟩ := trodAll_nil r0
  obtain rfl : args = #[v0] := by cases args; simp_all
  obtain ⟨rfl, rfl⟩ := trodVars_none hV
  obtain ⟨a0, rfl, rfl, rfl, w0⟩ := open_string Tryz.underlying9 (hval 0 9 v0 rfl rfl) h0
  clear hA0 hval0
  simp only [List.append_nil] at hW'
  refine (of_true a0 w0 W).mono fun e W' ⟨he, hB⟩ => ?_
  subst he
  refine ⟨_, rfl, _, _, _, [], [], [], hW', ?_, ?_, ?_, hB.frame _, fun h => by cases h⟩
  · exact trodAll_cons_mk (shut_bool Tryz.underlying4 _) trodAll_mk0
  · exact (trodAll_cons_mk (shut_string Tryz.underlying9 w0) trodAll_mk0)
  · rfl

/-- TreadOf: the given statement. -/
theorem of_holds : Rows.TreadOfSaid :=
  OpenClaim.holds_of_wide 4 Tryz.f4 rfl rfl rfl rfl rfl rfl rfl ⟨rfl, rfl, rfl, rfl, rfl⟩ rfl rfl rfl rfl rfl (by kernel_rfl) Tryz.func4 (by kernel_rfl)
    (of_decide_eq_true (by kernel_rfl)) (by unfold Func.isWrapper; first | (rw [if_pos (by decide +kernel)]; kernel_rfl) | (rw [if_neg (by decide +kernel)]; exact ⟨rfl, rfl⟩))
    (fun os started H enc _ => of_lifted os started H enc)

end Go.Proofs.YtgghmhgbdknkaaaGreat.treadOf
