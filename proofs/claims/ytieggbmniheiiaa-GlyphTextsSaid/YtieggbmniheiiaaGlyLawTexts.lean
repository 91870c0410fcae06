/-
  GlyphTexts is true for every two texts and every place: behind a line end the places are those of the second text, so many lines on. No conditions.
-/
import Derived.Test.YtieggbmniheiiaaRows
import Derived.Test.YtieggbmniheiiaaGlyL
import Derived.Test.YtieggbmniheiiaaGlyK3
import Derived.ProofKit
import Derived.OpenShut
namespace Go.Proofs.Ytieggbmniheiiaa.glyphTexts
open Go.ChangeShapes Go.WideShapes Go.ChangeAt Go.RowKit
open Go.ChangeMaps (open_string shut_string)

theorem own : ownKnob Try.prog.godebug = none := by kernel_rfl

/-- The walk of GlyphTexts: it is true. -/
theorem glyphTexts_big (a b : ByteArray) (k : Int) (wa : a.size ≤ maxLen) (wb : b.size ≤ maxLen) (h : 1000 < a.size ∨ 1000 < b.size ∨ k < 0 ∨ (b.size : Int) < k) (w : World) :
    Calls Try.prog 10 #[.string a, .string b, .int .i64 k] w fun e w' => e = .returned (.bool true) ∧ Below w.heap.size w w' := by
  unfold maxLen at wa wb
  by_cases h1 : 1000 < a.size
  · go_enter Try.func10, Try.ntmps10
    go_wp2_with fail
    refine (alive_any _).mono ?_
    rintro e w1 ⟨rfl, h1⟩
    go_wp2
    go_ret
    exact ⟨rfl, h1⟩
  by_cases h2 : 1000 < b.size
  · go_enter Try.func10, Try.ntmps10
    go_wp2_with fail
    refine (alive_any _).mono ?_
    rintro e w1 ⟨rfl, h1⟩
    go_wp2
    go_ret
    exact ⟨rfl, h1⟩
  by_cases h3 : k < 0
  · go_enter Try.func10, Try.ntmps10
    go_wp2_with fail
    refine (alive_any _).mono ?_
    rintro e w1 ⟨rfl, h1⟩
    go_wp2
    go_ret
    exact ⟨rfl, h1⟩
  have h4 : (b.size : Int) < k := by omega
  go_enter Try.func10, Try.ntmps10
  go_wp2_with fail
  refine (alive_any _).mono ?_
  rintro e w1 ⟨rfl, h1⟩
  go_wp2
  go_ret
  exact ⟨rfl, h1⟩

theorem texts_list (a b : ByteArray) : (a ++ ⟨#[10]⟩ ++ b).data.toList = a.data.toList ++ 10 :: b.data.toList := by
  rw [toList_app, toList_app]
  simp

set_option maxHeartbeats 1000000 in
set_option maxRecDepth 100000 in
theorem glyphTexts_true (a b : ByteArray) (k : Int) (wa : a.size ≤ maxLen) (wb : b.size ≤ maxLen) (_wk : (Lit.int .i64 k).wf = true) (w : World) :
    Calls Try.prog 10 #[.string a, .string b, .int .i64 k] w fun e w' => e = .returned (.bool true) ∧ Below w.heap.size w w' := by
  by_cases h : 1000 < a.size ∨ 1000 < b.size ∨ k < 0 ∨ (b.size : Int) < k
  · exact glyphTexts_big a b k wa wb h w
  have hsa : a.size ≤ 1000 := by omega
  have hsb : b.size ≤ 1000 := by omega
  have hk0 : 0 ≤ k := by omega
  have hk1 : k ≤ b.size := by omega
  clear h wa wb
  obtain ⟨x, y, hxy⟩ : ∃ x y, G.placeL b.size k b.data.toList 1 1 = (x, y) := ⟨_, _, rfl⟩
  have hlb : b.data.toList.length = b.size := by simp
  have hla : a.data.toList.length = a.size := by simp
  have hge := G.placeL_ge b.size k b.data.toList 1 1 (Nat.le_refl _)
  have hle := G.placeL_le b.size k b.data.toList 1 1 (Nat.le_refl _)
  rw [hxy] at hge hle
  simp only at hge hle
  obtain ⟨g1, g2⟩ := hge
  obtain ⟨l1, l2⟩ := hle
  have hen := G.ends_le a.data.toList
  rw [hla] at hen
  have hsz : (a ++ ⟨#[10]⟩ ++ b : ByteArray).size = a.size + 1 + b.size := by
    rw [ByteArray.size_append, ByteArray.size_append]
    rfl
  have hbig : Hid (G.placeL (a ++ ⟨#[10]⟩ ++ b : ByteArray).size ((a.size : Int) + 1 + k) (a ++ ⟨#[10]⟩ ++ b : ByteArray).data.toList 1 1 = (x + (G.ends a.data.toList + 1), y)) := hid (by
    rw [texts_list, hsz]
    have h1 := G.placeL_behind a.size (a.size + 1 + b.size) k a.data.toList b.data.toList 1 1 (by omega) (by omega) hk0
    rw [hla] at h1
    rw [h1, show 1 + G.ends a.data.toList + 1 = 1 + (G.ends a.data.toList + 1) by omega, G.placeL_shift, G.placeL_more _ b.size k _ 1 1 (by omega) (by omega), hxy])
  have HXY := hid hxy
  obtain ⟨z, n, c, hz, hc⟩ : ∃ (z : ByteArray) (n c : Int), unqV (G.unqL b.data.toList) = .tuple #[.string z, .int .i64 n, .int .i64 c] ∧ (c = 0 ∨ c = 2) := by
    cases G.unqL b.data.toList with
    | none => exact ⟨_, _, _, rfl, Or.inr rfl⟩
    | some y => exact ⟨_, _, _, rfl, Or.inl rfl⟩
  have HZ := hid hz
  have hp : ∀ w : World, Calls Try.prog 20 #[.string (a ++ ⟨#[10]⟩ ++ b), .int .i64 ((a.size : Int) + 1 + k)] w fun e w' => e = .returned (.tuple #[.int .i64 ((x : Int) + ((G.ends a.data.toList : Int) + 1)), .int .i64 (y : Int)]) ∧ Below w.heap.size w w' := fun w => (place_any _ (by rw [hsz]; omega) _ w).mono fun _ _ ⟨he, hw⟩ => ⟨by rw [he]; unfold placeV; rw [hbig.out]; rfl, hw⟩
  have hr : ∀ w : World, Calls Try.prog 20 #[.string b, .int .i64 k] w fun e w' => e = .returned (.tuple #[.int .i64 (x : Int), .int .i64 (y : Int)]) ∧ Below w.heap.size w w' := fun w => (place_any b (by omega) _ w).mono fun _ _ ⟨he, hw⟩ => ⟨by rw [he]; unfold placeV; rw [HXY.out], hw⟩
  have hu : ∀ w : World, Calls Try.prog 18 #[.string b] w fun e w' => e = .returned (.tuple #[.string z, .int .i64 n, .int .i64 c]) ∧ Below w.heap.size w w' := fun w => (unquote_any b (by omega) w).mono fun _ _ ⟨he, hw⟩ => ⟨by rw [he, HZ.out], hw⟩
  have HP := hid hp
  have HR := hid hr
  have HU := hid hu
  have HC := hid hc
  have HLA := hid hla
  have HSZ := hid hsz
  clear hxy hz hp hr hu hlb hla hsz hc
  go_enter Try.func10, Try.ntmps10
  go_wp2
  go_loop [7, 8] (fun vl vi => ∃ i : Nat, i ≤ a.size ∧ vi = .int .i64 i ∧ vl = .int .i64 ((G.ends (a.data.toList.take i) : Int) + 1)) (fun _ vi => a.size - (intOf vi).toNat)
  case atStart => exact ⟨0, by omega, rfl, rfl⟩
  case round =>
    obtain ⟨i, hi, rfl, rfl⟩ := hrel
    have hei := G.ends_le (a.data.toList.take i)
    have hei2 : (a.data.toList.take i).length ≤ i := List.length_take_le _ _
    by_cases hlt : i < a.size
    · have HB := hid (byteAt_eq a i hlt)
      have HS := hid (G.ends_succ a.data.toList i (by rw [HLA.out]; exact hlt))
      by_cases q : byteAt a i = 10
      · have hb : (((a[i]'hlt).toNat : Int) == 10) = true := by rw [HB.out]; simp; omega
        have HQ := hid q
        clear q
        go_wp2
        go_round
        case rel =>
          refine ⟨i + 1, by omega, by go_num, ?_⟩
          have h := HS.out
          have hq := HQ.out
          rw [byteAt_at0] at hq
          rw [if_pos hq] at h
          rw [h]
          go_num
        case measure => simp [intOf]; omega
      · have hb : (((a[i]'hlt).toNat : Int) == 10) = false := by rw [HB.out]; simp; omega
        have HQ := hid q
        clear q
        go_wp2
        go_round
        case rel =>
          refine ⟨i + 1, by omega, by go_num, ?_⟩
          have h := HS.out
          have hq := HQ.out
          rw [byteAt_at0] at hq
          rw [if_neg hq] at h
          rw [h]
          rfl
        case measure => simp [intOf]; omega
    · have hend : a.data.toList.take i = a.data.toList := List.take_of_length_le (by rw [HLA.out]; omega)
      rw [hend] at *
      have hii : a.size ≤ i := by omega
      go_wp2_with fail
      refine (HP.out _).mono ?_
      rintro e w1 ⟨rfl, h1⟩
      go_wp2_with fail
      refine (HR.out _).mono ?_
      rintro e w2 ⟨rfl, h2⟩
      go_wp2_with fail
      refine (HU.out _).mono ?_
      rintro e w3 ⟨rfl, h3⟩
      go_wp2_with fail
      refine (alive_any _).mono ?_
      rintro e w4 ⟨rfl, h4⟩
      rcases HC.out with rfl | rfl
      · go_wp2
        all_goals go_ret
        all_goals refine ⟨ret_bool ?_, up (up (up h1 h2 (Nat.le_refl _)) h3 (Nat.le_refl _)) h4 (Nat.le_refl _)⟩
        all_goals first | rfl | (simp; done) | (simp; omega)
      · go_wp2
        all_goals go_ret
        all_goals refine ⟨ret_bool ?_, up (up (up h1 h2 (Nat.le_refl _)) h3 (Nat.le_refl _)) h4 (Nat.le_refl _)⟩
        all_goals first | rfl | (simp; done) | (simp; omega)

set_option maxRecDepth 100000 in
theorem glyphTexts_lifted (os : Os) (started : os.Started) (H : Type) (enc : TypeId × Value → H) :
    ReturnsInHanded {} Try.checked os 10 .any (Rows.glyphTextsSpec.pre6 enc Try.prog Try.f10 Rows.glyphTextsRow.domain false) (Rows.glyphTextsSpec.post enc Try.prog Try.f10 false true false false) := by
  refine returnsInHanded_of_change (C := Try.checked) own started (by kernel_rfl) Try.func10
    (ChangeSpec.witness6 (enc := enc) (C := Try.checked) false ⟨#[], #[.string ⟨#[]⟩, .string ⟨#[]⟩, .int .i64 0], []⟩ 8 (by kernel_rfl) (by kernel_rfl) (by kernel_rfl) (by kernel_rfl)) ?_
  intro W base args ds gs before hval0 hW hcnd _
  have hval : ∀ (j : Nat) t v, Try.f10.params[j]? = some t → args[j]? = some v → Value.okWide Try.prog W .any base t v := hval0
  have hW' := hW
  obtain ⟨p, q, hA0, hV, rfl, hfz, hnd⟩ := hW
  have hA : DataW.TrodAll enc Try.prog W 0 (fun _ => true) true Try.f10.params.toList args.toList ds p := hA0
  rw [Try.params10] at hA hval
  obtain ⟨v0, vs0, d0, ds0, p0, q0, hargs, rfl, rfl, h0, r0⟩ := trodAll_cons hA
  obtain ⟨v1, vs1, d1, ds1, p1, q1, hargs1, rfl, rfl, h1, r1⟩ := trodAll_cons r0
  obtain ⟨v2, vs2, d2, ds2, p2, q2, hargs2, rfl, rfl, h2, r2⟩ := trodAll_cons r1
  obtain ⟨hn, rfl, rfl⟩ := trodAll_nil r2
  obtain rfl : args = #[v0, v1, v2] := by cases args; simp_all
  obtain ⟨rfl, rfl⟩ := trodVars_none hV
  obtain ⟨a0, rfl, rfl, rfl, w0⟩ := open_string Try.underlying9 (hval 0 9 v0 rfl rfl) h0
  obtain ⟨a1, rfl, rfl, rfl, w1⟩ := open_string Try.underlying9 (hval 1 9 v1 rfl rfl) h1
  obtain ⟨a2, rfl, rfl, rfl, w2⟩ := open_int Try.underlying3 (hval 2 3 v2 rfl rfl) h2
  clear hA0 hval0
  simp only [List.append_nil] at hW'
  refine (glyphTexts_true a0 a1 a2 w0 w1 w2 W).mono fun e W' ⟨he, hB⟩ => ?_
  subst he
  refine ⟨_, rfl, _, _, _, [], [], [], hW', ?_, ?_, ?_, hB.frame _, fun h => by cases h⟩
  · exact trodAll_cons_mk (shut_bool Try.underlying4 _) trodAll_mk0
  · exact (trodAll_cons_mk (shut_string Try.underlying9 w0) (trodAll_cons_mk (shut_string Try.underlying9 w1) (trodAll_cons_mk (shut_int Try.underlying3 w2) trodAll_mk0)))
  · rfl

/-- GlyphTexts: the given statement. -/
theorem glyphTexts_holds : Rows.GlyphTextsSaid :=
  OpenClaim.holds_of_wide 10 Try.f10 rfl rfl rfl rfl rfl rfl rfl ⟨rfl, rfl, rfl, rfl, rfl⟩ rfl rfl rfl rfl rfl (by kernel_rfl) Try.func10 (by kernel_rfl)
    (of_decide_eq_true (by kernel_rfl)) (by unfold Func.isWrapper; first | (rw [if_pos (by decide +kernel)]; kernel_rfl) | (rw [if_neg (by decide +kernel)]; exact ⟨rfl, rfl⟩))
    (fun os started H enc _ => glyphTexts_lifted os started H enc)

end Go.Proofs.Ytieggbmniheiiaa.glyphTexts
