/-
  GlyphLines is true for every text and every place: a line more behind a line end, else the same line and the same column or the next. No conditions.
-/
import Derived.Test.YtieggbmniheiiaaRows
import Derived.Test.YtieggbmniheiiaaGlyL
import Derived.Test.YtieggbmniheiiaaGlyK2
import Derived.ProofKit
import Derived.OpenShut
namespace Go.Proofs.Ytieggbmniheiiaa.glyphLines
open Go.ChangeShapes Go.WideShapes Go.ChangeAt Go.RowKit
open Go.ChangeMaps (open_string shut_string)

theorem own : ownKnob Try.prog.godebug = none := by kernel_rfl

/-- The walk of GlyphLines: it is true. -/
theorem glyphLines_big (s : ByteArray) (k : Int) (ws : s.size ≤ maxLen) (h : 2000 < s.size ∨ k < 0 ∨ (s.size : Int) ≤ k) (w : World) :
    Calls Try.prog 7 #[.string s, .int .i64 k] w fun e w' => e = .returned (.bool true) ∧ Below w.heap.size w w' := by
  unfold maxLen at ws
  by_cases h1 : 2000 < s.size
  · go_enter Try.func7, Try.ntmps7
    go_wp2_with fail
    refine (alive_any _).mono ?_
    rintro e w1 ⟨rfl, h1⟩
    go_wp2
    go_ret
    exact ⟨rfl, h1⟩
  by_cases h2 : k < 0
  · go_enter Try.func7, Try.ntmps7
    go_wp2_with fail
    refine (alive_any _).mono ?_
    rintro e w1 ⟨rfl, h1⟩
    go_wp2
    go_ret
    exact ⟨rfl, h1⟩
  have h3 : (s.size : Int) ≤ k := by omega
  go_enter Try.func7, Try.ntmps7
  go_wp2_with fail
  refine (alive_any _).mono ?_
  rintro e w1 ⟨rfl, h1⟩
  go_wp2
  go_ret
  exact ⟨rfl, h1⟩

set_option maxHeartbeats 1000000 in
set_option maxRecDepth 100000 in
theorem glyphLines_true (s : ByteArray) (k : Int) (ws : s.size ≤ maxLen) (_wk : (Lit.int .i64 k).wf = true) (w : World) :
    Calls Try.prog 7 #[.string s, .int .i64 k] w fun e w' => e = .returned (.bool true) ∧ Below w.heap.size w w' := by
  by_cases h : 2000 < s.size ∨ k < 0 ∨ (s.size : Int) ≤ k
  · exact glyphLines_big s k ws h w
  have hs : s.size ≤ 2000000 := by omega
  obtain ⟨n, rfl⟩ := Int.eq_ofNat_of_zero_le (show 0 ≤ k by omega)
  have hn : n < s.size := by omega
  have hs2 : s.size ≤ 2000 := by omega
  clear h ws
  obtain ⟨a, b, hab⟩ : ∃ a b, G.placeL s.size (n : Int) s.data.toList 1 1 = (a, b) := ⟨_, _, rfl⟩
  have hlen : s.data.toList.length = s.size := by simp
  obtain ⟨one1, one2⟩ := G.placeL_one s.size n s.data.toList 1 1 (by omega) (by omega)
  have hge := G.placeL_ge s.size (n : Int) s.data.toList 1 1 (Nat.le_refl _)
  have hle := G.placeL_le s.size (n : Int) s.data.toList 1 1 (Nat.le_refl _)
  rw [hab] at one1 one2 hge hle
  simp only at one1 one2 hge hle
  have hat : byteAt s n = G.at0 s.data.toList n := byteAt_at0 s n
  have HB := hid (byteAt_eq s n hn)
  obtain ⟨ga, gb⟩ := hge
  obtain ⟨la, lb⟩ := hle
  have HAB := hid hab
  by_cases q : byteAt s n = 10
  · have hx := one1 (by omega)
    have HX := hid hx
    have hq : (((s[n]'hn).toNat : Int) == 10) = true := by rw [HB.out]; simp; omega
    clear hab one1 one2 hlen hat q hx
    have hP : ∀ w : World, Calls Try.prog 20 #[.string s, .int .i64 (n : Int)] w fun e w' => e = .returned (.tuple #[.int .i64 (a : Int), .int .i64 (b : Int)]) ∧ Below w.heap.size w w' := fun w => (place_any s hs (n : Int) w).mono fun _ _ ⟨he, hw⟩ => ⟨by rw [he]; unfold placeV; rw [HAB.out], hw⟩
    have HP := hid hP
    clear hP
    have hR : ∀ w : World, Calls Try.prog 20 #[.string s, .int .i64 ((n : Int) + 1)] w fun e w' => e = .returned (.tuple #[.int .i64 ((a : Int) + 1), .int .i64 1]) ∧ Below w.heap.size w w' := fun w => (place_any s hs ((n : Int) + 1) w).mono fun _ _ ⟨he, hw⟩ => ⟨by rw [he]; unfold placeV; rw [HX.out]; rfl, hw⟩
    have HR := hid hR
    clear hR
    go_enter Try.func7, Try.ntmps7
    go_wp2_with fail
    refine (HP.out _).mono ?_
    rintro e w1 ⟨rfl, h1⟩
    go_wp2_with fail
    refine (HR.out _).mono ?_
    rintro e w2 ⟨rfl, h2⟩
    go_wp2_with fail
    refine (alive_any _).mono ?_
    rintro e w3 ⟨rfl, h3⟩
    go_wp2
    all_goals go_ret
    all_goals refine ⟨ret_bool ?_, up (up h1 h2 (Nat.le_refl _)) h3 (Nat.le_refl _)⟩
    all_goals first | rfl | (simp; done) | (simp; omega)
  · have hx := one2 (by omega)
    have hq : (((s[n]'hn).toNat : Int) == 10) = false := by rw [HB.out]; simp; omega
    obtain ⟨c, d, hcd⟩ : ∃ c d, G.placeL s.size ((n : Int) + 1) s.data.toList 1 1 = (c, d) := ⟨_, _, rfl⟩
    rw [hcd] at hx
    simp only at hx
    obtain ⟨rfl, hd⟩ := hx
    have HCD := hid hcd
    clear hab hcd one1 one2 hlen hat q
    rcases hd with rfl | rfl
    · have hP : ∀ w : World, Calls Try.prog 20 #[.string s, .int .i64 (n : Int)] w fun e w' => e = .returned (.tuple #[.int .i64 (c : Int), .int .i64 (d : Int)]) ∧ Below w.heap.size w w' := fun w => (place_any s hs (n : Int) w).mono fun _ _ ⟨he, hw⟩ => ⟨by rw [he]; unfold placeV; rw [HAB.out], hw⟩
      have HP := hid hP
      clear hP
      have hR : ∀ w : World, Calls Try.prog 20 #[.string s, .int .i64 ((n : Int) + 1)] w fun e w' => e = .returned (.tuple #[.int .i64 (c : Int), .int .i64 (d : Int)]) ∧ Below w.heap.size w w' := fun w => (place_any s hs ((n : Int) + 1) w).mono fun _ _ ⟨he, hw⟩ => ⟨by rw [he]; unfold placeV; rw [HCD.out], hw⟩
      have HR := hid hR
      clear hR
      go_enter Try.func7, Try.ntmps7
      go_wp2_with fail
      refine (HP.out _).mono ?_
      rintro e w1 ⟨rfl, h1⟩
      go_wp2_with fail
      refine (HR.out _).mono ?_
      rintro e w2 ⟨rfl, h2⟩
      go_wp2_with fail
      refine (alive_any _).mono ?_
      rintro e w3 ⟨rfl, h3⟩
      go_wp2
      all_goals go_ret
      all_goals refine ⟨ret_bool ?_, up (up h1 h2 (Nat.le_refl _)) h3 (Nat.le_refl _)⟩
      all_goals first | rfl | (simp; done) | (simp; omega)
    · have hP : ∀ w : World, Calls Try.prog 20 #[.string s, .int .i64 (n : Int)] w fun e w' => e = .returned (.tuple #[.int .i64 (c : Int), .int .i64 (b : Int)]) ∧ Below w.heap.size w w' := fun w => (place_any s hs (n : Int) w).mono fun _ _ ⟨he, hw⟩ => ⟨by rw [he]; unfold placeV; rw [HAB.out], hw⟩
      have HP := hid hP
      clear hP
      have hR : ∀ w : World, Calls Try.prog 20 #[.string s, .int .i64 ((n : Int) + 1)] w fun e w' => e = .returned (.tuple #[.int .i64 (c : Int), .int .i64 ((b : Int) + 1)]) ∧ Below w.heap.size w w' := fun w => (place_any s hs ((n : Int) + 1) w).mono fun _ _ ⟨he, hw⟩ => ⟨by rw [he]; unfold placeV; rw [HCD.out]; rfl, hw⟩
      have HR := hid hR
      clear hR
      go_enter Try.func7, Try.ntmps7
      go_wp2_with fail
      refine (HP.out _).mono ?_
      rintro e w1 ⟨rfl, h1⟩
      go_wp2_with fail
      refine (HR.out _).mono ?_
      rintro e w2 ⟨rfl, h2⟩
      go_wp2_with fail
      refine (alive_any _).mono ?_
      rintro e w3 ⟨rfl, h3⟩
      go_wp2
      all_goals go_ret
      all_goals refine ⟨ret_bool ?_, up (up h1 h2 (Nat.le_refl _)) h3 (Nat.le_refl _)⟩
      all_goals first | rfl | (simp; done) | (simp; omega)

set_option maxRecDepth 100000 in
theorem glyphLines_lifted (os : Os) (started : os.Started) (H : Type) (enc : TypeId × Value → H) :
    ReturnsInHanded {} Try.checked os 7 .any (Rows.glyphLinesSpec.pre6 enc Try.prog Try.f7 Rows.glyphLinesRow.domain false) (Rows.glyphLinesSpec.post enc Try.prog Try.f7 false true false false) := by
  refine returnsInHanded_of_change (C := Try.checked) own started (by kernel_rfl) Try.func7
    (ChangeSpec.witness6 (enc := enc) (C := Try.checked) false ⟨#[], #[.string ⟨#[]⟩, .int .i64 0], []⟩ 8 (by kernel_rfl) (by kernel_rfl) (by kernel_rfl) (by kernel_rfl)) ?_
  intro W base args ds gs before hval0 hW hcnd _
  have hval : ∀ (j : Nat) t v, Try.f7.params[j]? = some t → args[j]? = some v → Value.okWide Try.prog W .any base t v := hval0
  have hW' := hW
  obtain ⟨p, q, hA0, hV, rfl, hfz, hnd⟩ := hW
  have hA : DataW.TrodAll enc Try.prog W 0 (fun _ => true) true Try.f7.params.toList args.toList ds p := hA0
  rw [Try.params7] at hA hval
  obtain ⟨v0, vs0, d0, ds0, p0, q0, hargs, rfl, rfl, h0, r0⟩ := trodAll_cons hA
  obtain ⟨v1, vs1, d1, ds1, p1, q1, hargs1, rfl, rfl, h1, r1⟩ := trodAll_cons r0
  obtain ⟨hn, rfl, rfl⟩ := trodAll_nil r1
  obtain rfl : args = #[v0, v1] := by cases args; simp_all
  obtain ⟨rfl, rfl⟩ := trodVars_none hV
  obtain ⟨a0, rfl, rfl, rfl, w0⟩ := open_string Try.underlying9 (hval 0 9 v0 rfl rfl) h0
  obtain ⟨a1, rfl, rfl, rfl, w1⟩ := open_int Try.underlying3 (hval 1 3 v1 rfl rfl) h1
  clear hA0 hval0
  simp only [List.append_nil] at hW'
  refine (glyphLines_true a0 a1 w0 w1 W).mono fun e W' ⟨he, hB⟩ => ?_
  subst he
  refine ⟨_, rfl, _, _, _, [], [], [], hW', ?_, ?_, ?_, hB.frame _, fun h => by cases h⟩
  · exact trodAll_cons_mk (shut_bool Try.underlying4 _) trodAll_mk0
  · exact (trodAll_cons_mk (shut_string Try.underlying9 w0) (trodAll_cons_mk (shut_int Try.underlying3 w1) trodAll_mk0))
  · rfl

/-- GlyphLines: the given statement. -/
theorem glyphLines_holds : Rows.GlyphLinesSaid :=
  OpenClaim.holds_of_wide 7 Try.f7 rfl rfl rfl rfl rfl rfl rfl ⟨rfl, rfl, rfl, rfl, rfl⟩ rfl rfl rfl rfl rfl (by kernel_rfl) Try.func7 (by kernel_rfl)
    (of_decide_eq_true (by kernel_rfl)) (by unfold Func.isWrapper; first | (rw [if_pos (by decide +kernel)]; kernel_rfl) | (rw [if_neg (by decide +kernel)]; exact ⟨rfl, rfl⟩))
    (fun os started H enc _ => glyphLines_lifted os started H enc)

end Go.Proofs.Ytieggbmniheiiaa.glyphLines
