/-
  GlyphBack is true for every three texts: what is quoted is told again, whatever stands behind; two texts that are unlike are unlike, quoted. No conditions.
-/
import Derived.Test.YtieggbmniheiiaaRows
import Derived.Test.YtieggbmniheiiaaGlyL
import Derived.Test.YtieggbmniheiiaaGlyJ
import Derived.ProofKit
import Derived.OpenShut
namespace Go.Proofs.Ytieggbmniheiiaa.glyphBack
open Go.ChangeShapes Go.WideShapes Go.ChangeAt Go.RowKit
open Go.ChangeMaps (open_string shut_string)

theorem own : ownKnob Try.prog.godebug = none := by kernel_rfl

/-- The walk of GlyphBack: it is true. -/
theorem glyphBack_big (s more other : ByteArray) (w0 : s.size ≤ maxLen) (w1 : more.size ≤ maxLen) (w2 : other.size ≤ maxLen) (h : 2000 < s.size ∨ 2000 < more.size ∨ 2000 < other.size) (w : World) :
    Calls Try.prog 6 #[.string s, .string more, .string other] w fun e w' => e = .returned (.bool true) ∧ Below w.heap.size w w' := by
  unfold maxLen at w0 w1 w2
  by_cases h1 : 2000 < s.size
  · go_enter Try.func6, Try.ntmps6
    go_wp2_with fail
    refine (alive_any _).mono ?_
    rintro e w1 ⟨rfl, h1⟩
    go_wp2
    go_ret
    exact ⟨rfl, h1⟩
  by_cases h2 : 2000 < more.size
  · go_enter Try.func6, Try.ntmps6
    go_wp2_with fail
    refine (alive_any _).mono ?_
    rintro e w1 ⟨rfl, h1⟩
    go_wp2
    go_ret
    exact ⟨rfl, h1⟩
  have h3 : 2000 < other.size := by omega
  go_enter Try.func6, Try.ntmps6
  go_wp2_with fail
  refine (alive_any _).mono ?_
  rintro e w1 ⟨rfl, h1⟩
  go_wp2
  go_ret
  exact ⟨rfl, h1⟩

set_option maxHeartbeats 1000000 in
set_option maxRecDepth 100000 in
theorem glyphBack_walk (s more other q qo : ByteArray) (hs : s.size ≤ 2000) (hm : more.size ≤ 2000) (ho : other.size ≤ 2000) (hq : q.size ≤ 100000)
    (HQ : ∀ w : World, Calls Try.prog 16 #[.string s] w fun e w' => e = .returned (.string q) ∧ Below w.heap.size w w')
    (HU : ∀ w : World, Calls Try.prog 18 #[.string (q ++ more)] w fun e w' => e = .returned (.tuple #[.string s, .int .i64 q.size, .int .i64 0]) ∧ Below w.heap.size w w')
    (HO : ∀ w : World, Calls Try.prog 16 #[.string other] w fun e w' => e = .returned (.string qo) ∧ Below w.heap.size w w')
    (HB : ∀ (i : Nat) (h : i < q.size), 32 ≤ (q[i]'h).toNat ∧ (q[i]'h).toNat ≠ 127)
    (heq : (qo.toList == q.toList) = (other.toList == s.toList)) (w : World) :
    Calls Try.prog 6 #[.string s, .string more, .string other] w fun e w' => e = .returned (.bool true) ∧ Below w.heap.size w w' := by
  have HQ' := hid HQ
  have HU' := hid HU
  have HO' := hid HO
  have HB' := hid HB
  have HEQ := hid heq
  clear HQ HU HO HB heq
  go_enter Try.func6, Try.ntmps6
  go_wp2_with fail
  refine (HQ'.out _).mono ?_
  rintro e w1 ⟨rfl, h1⟩
  go_wp2_with fail
  refine (HU'.out _).mono ?_
  rintro e w2 ⟨rfl, h2⟩
  go_wp2
  go_loop [11] (fun vi => ∃ i : Nat, i ≤ q.size ∧ vi = .int .i64 i) (fun vi => q.size - (intOf vi).toNat)
  case atStart => exact ⟨0, by omega, rfl⟩
  case round =>
    obtain ⟨i, hi, rfl⟩ := hrel
    by_cases hlt : i < q.size
    · obtain ⟨b1, b2⟩ := HB'.out i hlt
      have b3 : (((q[i]'hlt).toNat : Int) == 127) = false := by simp; omega
      go_wp2
      go_round
      case rel => exact ⟨i + 1, by omega, by go_num⟩
      case measure => simp [intOf]; omega
    · go_wp2_with fail
      refine (alive_any _).mono ?_
      rintro e w3 ⟨rfl, h3⟩
      go_wp2_with fail
      refine (HO'.out _).mono ?_
      rintro e w4 ⟨rfl, h4⟩
      go_wp2
      all_goals go_ret
      all_goals refine ⟨ret_bool ?_, up (up (up h1 h2 (Nat.le_refl _)) h3 (Nat.le_refl _)) h4 (Nat.le_refl _)⟩
      all_goals first | rfl | (simp; done) | (simp; exact HEQ.out)

theorem back_eq (a b : ByteArray) : ((⟨(G.quoteL a.data.toList).toArray⟩ : ByteArray).toList == (⟨(G.quoteL b.data.toList).toArray⟩ : ByteArray).toList) = (a.toList == b.toList) := by
  rw [Lib.toList_data, Lib.toList_data, Lib.toList_data, Lib.toList_data]
  show (G.quoteL a.data.toList == G.quoteL b.data.toList) = _
  by_cases h : a.data.toList = b.data.toList
  · rw [h]; simp
  · have h2 : ¬ G.quoteL a.data.toList = G.quoteL b.data.toList := fun he => h (G.quoteL_inj he)
    rw [beq_eq_false_iff_ne.2 h, beq_eq_false_iff_ne.2 h2]

theorem glyphBack_true (s more other : ByteArray) (w0 : s.size ≤ maxLen) (w1 : more.size ≤ maxLen) (w2 : other.size ≤ maxLen) (w : World) :
    Calls Try.prog 6 #[.string s, .string more, .string other] w fun e w' => e = .returned (.bool true) ∧ Below w.heap.size w w' := by
  by_cases h : 2000 < s.size ∨ 2000 < more.size ∨ 2000 < other.size
  · exact glyphBack_big s more other w0 w1 w2 h w
  have hlen : s.data.toList.length = s.size := by simp
  have hsz : (⟨(G.quoteL s.data.toList).toArray⟩ : ByteArray).size = (G.quoteL s.data.toList).length := by
    show (G.quoteL s.data.toList).toArray.size = _
    simp
  have hq4 := G.quoteF_len s.data.toList.length s.data.toList
  have hql : (G.quoteL s.data.toList).length = (G.quoteF s.data.toList.length s.data.toList).length + 2 := by simp [G.quoteL]
  refine glyphBack_walk s more other ⟨(G.quoteL s.data.toList).toArray⟩ ⟨(G.quoteL other.data.toList).toArray⟩ (by omega) (by omega) (by omega) (by omega)
    (fun w => quote_any s (by omega) w) ?_ (fun w => quote_any other (by omega) w) ?_ (back_eq other s) w
  · intro w
    refine (unquote_any _ (by rw [ByteArray.size_append]; omega) w).mono fun _ _ ⟨he, hw⟩ => ⟨?_, hw⟩
    rw [he, toList_app]
    show Ending.returned (unqV (G.unqL (G.quoteL s.data.toList ++ more.data.toList))) = _
    rw [G.quoteL_told, hsz]
    rfl
  · intro i hi
    have hi2 : i < (G.quoteL s.data.toList).length := by omega
    exact G.quoteL_bytes s.data.toList _ (List.getElem_mem hi2)

set_option maxRecDepth 100000 in
theorem glyphBack_lifted (os : Os) (started : os.Started) (H : Type) (enc : TypeId × Value → H) :
    ReturnsInHanded {} Try.checked os 6 .any (Rows.glyphBackSpec.pre6 enc Try.prog Try.f6 Rows.glyphBackRow.domain false) (Rows.glyphBackSpec.post enc Try.prog Try.f6 false true false false) := by
  refine returnsInHanded_of_change (C := Try.checked) own started (by kernel_rfl) Try.func6
    (ChangeSpec.witness6 (enc := enc) (C := Try.checked) false ⟨#[], #[.string ⟨#[]⟩, .string ⟨#[]⟩, .string ⟨#[]⟩], []⟩ 8 (by kernel_rfl) (by kernel_rfl) (by kernel_rfl) (by kernel_rfl)) ?_
  intro W base args ds gs before hval0 hW hcnd _
  have hval : ∀ (j : Nat) t v, Try.f6.params[j]? = some t → args[j]? = some v → Value.okWide Try.prog W .any base t v := hval0
  have hW' := hW
  obtain ⟨p, q, hA0, hV, rfl, hfz, hnd⟩ := hW
  have hA : DataW.TrodAll enc Try.prog W 0 (fun _ => true) true Try.f6.params.toList args.toList ds p := hA0
  rw [Try.params6] at hA hval
  obtain ⟨v0, vs0, d0, ds0, p0, q0, hargs, rfl, rfl, h0, r0⟩ := trodAll_cons hA
  obtain ⟨v1, vs1, d1, ds1, p1, q1, hargs1, rfl, rfl, h1, r1⟩ := trodAll_cons r0
  obtain ⟨v2, vs2, d2, ds2, p2, q2, hargs2, rfl, rfl, h2, r2⟩ := trodAll_cons r1
  obtain ⟨hn, rfl, rfl⟩ := trodAll_nil r2
  obtain rfl : args = #[v0, v1, v2] := by cases args; simp_all
  obtain ⟨rfl, rfl⟩ := trodVars_none hV
  obtain ⟨a0, rfl, rfl, rfl, w0⟩ := open_string Try.underlying9 (hval 0 9 v0 rfl rfl) h0
  obtain ⟨a1, rfl, rfl, rfl, w1⟩ := open_string Try.underlying9 (hval 1 9 v1 rfl rfl) h1
  obtain ⟨a2, rfl, rfl, rfl, w2⟩ := open_string Try.underlying9 (hval 2 9 v2 rfl rfl) h2
  clear hA0 hval0
  simp only [List.append_nil] at hW'
  refine (glyphBack_true a0 a1 a2 w0 w1 w2 W).mono fun e W' ⟨he, hB⟩ => ?_
  subst he
  refine ⟨_, rfl, _, _, _, [], [], [], hW', ?_, ?_, ?_, hB.frame _, fun h => by cases h⟩
  · exact trodAll_cons_mk (shut_bool Try.underlying4 _) trodAll_mk0
  · exact (trodAll_cons_mk (shut_string Try.underlying9 w0) (trodAll_cons_mk (shut_string Try.underlying9 w1) (trodAll_cons_mk (shut_string Try.underlying9 w2) trodAll_mk0)))
  · rfl

/-- GlyphBack: the given statement. -/
theorem glyphBack_holds : Rows.GlyphBackSaid :=
  OpenClaim.holds_of_wide 6 Try.f6 rfl rfl rfl rfl rfl rfl rfl ⟨rfl, rfl, rfl, rfl, rfl⟩ rfl rfl rfl rfl rfl (by kernel_rfl) Try.func6 (by kernel_rfl)
    (of_decide_eq_true (by kernel_rfl)) (by unfold Func.isWrapper; first | (rw [if_pos (by decide +kernel)]; kernel_rfl) | (rw [if_neg (by decide +kernel)]; exact ⟨rfl, rfl⟩))
    (fun os started H enc _ => glyphBack_lifted os started H enc)

end Go.Proofs.Ytieggbmniheiiaa.glyphBack
