/-
  GlyphJoined is true for every two texts: two whole texts, quoted as one, are the two quoted, the one end and the other beginning taken away; a text without odd bytes is quoted as it is. No conditions.
-/
import Derived.Test.YtieggbmniheiiaaRows
import Derived.Test.YtieggbmniheiiaaGlyL
import Derived.Test.YtieggbmniheiiaaGlyI
import Derived.RegionTactic
import Derived.ChangeAlike
import Derived.IntWalk
import Derived.Deep.RegionWith
import Derived.ProofKit
import Derived.OpenShut
namespace Go.Proofs.Ytieggbmniheiiaa.glyphJoined
open Go.ChangeShapes Go.WideShapes Go.ChangeAt Go.RowKit
open Go.ChangeMaps (open_string shut_string)

theorem own : ownKnob Try.prog.godebug = none := by kernel_rfl

/-- The walk of GlyphJoined: it is true. -/
theorem glyphJoined_big (a b : ByteArray) (w0 : a.size ≤ maxLen) (w1 : b.size ≤ maxLen) (h : 1000 < a.size ∨ 1000 < b.size) (w : World) :
    Calls Try.prog 9 #[.string a, .string b] w fun e w' => e = .returned (.bool true) ∧ Below w.heap.size w w' := by
  unfold maxLen at w0 w1
  by_cases h1 : 1000 < a.size
  · go_enter Try.func9, Try.ntmps9
    go_wp2_with fail
    refine (alive_any _).mono ?_
    rintro e w1 ⟨rfl, h1⟩
    go_wp2
    go_ret
    exact ⟨rfl, h1⟩
  have h2 : 1000 < b.size := by omega
  go_enter Try.func9, Try.ntmps9
  go_wp2_with fail
  refine (alive_any _).mono ?_
  rintro e w1 ⟨rfl, h1⟩
  go_wp2
  go_ret
  exact ⟨rfl, h1⟩

def JRel (a : ByteArray) (vp vi : Value) : Prop :=
  ∃ (i f : Nat) (p : Bool), vp = .bool p ∧ vi = .int .i64 i ∧ i ≤ a.size ∧ a.size ≤ i + f ∧ (p && G.plainF f (a.data.toList.drop i)) = G.plainF a.size a.data.toList ∧ G.wholeF f (a.data.toList.drop i) = G.wholeF a.size a.data.toList

set_option maxHeartbeats 4000000 in
set_option maxRecDepth 100000 in
theorem glyphJoined_walk (a b x y t : ByteArray) (n : Nat) (hn : x.size = n + 1) (hs : a.size ≤ 2000000) (ha : a.size ≤ 1000) (hb : b.size ≤ 1000) (hx : 2 ≤ x.size) (hy : 2 ≤ y.size) (hxm : x.size ≤ 100000) (hym : y.size ≤ 100000)
    (HX : ∀ w : World, Calls Try.prog 16 #[.string a] w fun e w' => e = .returned (.string x) ∧ Below w.heap.size w w')
    (HY : ∀ w : World, Calls Try.prog 16 #[.string b] w fun e w' => e = .returned (.string y) ∧ Below w.heap.size w w')
    (HT : ∀ w : World, Calls Try.prog 16 #[.string (a ++ b)] w fun e w' => e = .returned (.string t) ∧ Below w.heap.size w w')
    (hwhole : G.wholeF a.size a.data.toList = true → (t.toList == (x.extract 0 n ++ y.extract 1 y.size).toList) = true)
    (hplain : G.wholeF a.size a.data.toList = true → G.plainF a.size a.data.toList = true → (x.toList == (⟨#[34]⟩ ++ a ++ ⟨#[34]⟩ : ByteArray).toList) = true) (w : World) :
    Calls Try.prog 9 #[.string a, .string b] w fun e w' => e = .returned (.bool true) ∧ Below w.heap.size w w' := by
  have HN := hid hn
  clear hn
  have HX' := hid HX
  have HY' := hid HY
  have HT' := hid HT
  have HWT := hid hwhole
  have HPT := hid hplain
  clear HX HY HT hwhole hplain
  go_enter Try.func9, Try.ntmps9
  go_wp2
  go_loop [5, 6] (fun vp vi => JRel a vp vi) (fun _ vi => a.size - (intOf vi).toNat)
  case atStart => exact ⟨0, a.size, true, rfl, rfl, by omega, by omega, by simp, by simp⟩
  case round =>
    obtain ⟨i, f, p, rfl, rfl, hi, hf, hp, hw⟩ := hrel
    have HP := hid hp
    have HW := hid hw
    clear hp hw
    by_cases hlt : i < a.size
    · have hl4 : G.longL (a.data.toList.drop i) ≤ 4 := longL_le4 (drop_ne hlt)
      have HB := hid (byteAt_eq a i hlt)
      by_cases hz : G.longL (a.data.toList.drop i) = 0
      · have hbz : ((G.longL (a.data.toList.drop i) : Int) == 0) = true := by simp; omega
        clear hz
        go_wp2_with (go_at_call 22; refine (long_any a i hlt hs _).mono ?_; rintro e w' ⟨rfl, rfl⟩)
        refine (alive_any _).mono ?_
        rintro e w1 ⟨rfl, h1⟩
        go_wp2
        go_ret
        exact ⟨rfl, h1⟩
      · have hbz : ((G.longL (a.data.toList.drop i) : Int) == 0) = false := by simp; omega
        obtain ⟨g, rfl⟩ : ∃ g, f = g + 1 := ⟨f - 1, by omega⟩
        have hlen : Hid ((a.data.toList.drop i).length = a.size - i) := hid (by simp)
        have hfit : i + G.longL (a.data.toList.drop i) ≤ a.size := by have := G.long_le (drop_ne hlt); have := hlen.out; omega
        have hpos : 1 ≤ G.longL (a.data.toList.drop i) := by omega
        have HWH : Hid (G.wholeF g (a.data.toList.drop (i + G.longL (a.data.toList.drop i))) = G.wholeF a.size a.data.toList) := hid (by
          rw [← HW.out, G.wholeF, if_neg (drop_ne hlt), if_neg hz, List.drop_drop])
        have HPL : Hid ((p && (G.plainC (byteAt a i) && G.plainF g (a.data.toList.drop (i + G.longL (a.data.toList.drop i))))) = G.plainF a.size a.data.toList) := hid (by
          rw [← HP.out, G.plainF, if_neg (drop_ne hlt), List.drop_drop]
          rfl)
        clear hz
        cases p
        · go_wp2_with (go_at_call 22; refine (long_any a i hlt hs _).mono ?_; rintro e w' ⟨rfl, rfl⟩)
          go_round
          case rel => exact ⟨i + G.longL (a.data.toList.drop i), g, false, rfl, by go_num, by omega, by omega, by rw [← HPL.out]; rfl, HWH.out⟩
          case measure => simp [intOf]; omega
        · by_cases q32 : byteAt a i < 32
          · have hc : (a[i]'hlt).toNat < 32 := by rw [HB.out]; exact q32
            have HC : Hid (G.plainC (byteAt a i) = false) := hid (by unfold G.plainC; simp; omega)
            clear q32
            go_wp2_with (go_at_call 22; refine (long_any a i hlt hs _).mono ?_; rintro e w' ⟨rfl, rfl⟩)
            go_round
            case rel => exact ⟨i + G.longL (a.data.toList.drop i), g, false, rfl, by go_num, by omega, by omega, by rw [← HPL.out, HC.out]; rfl, HWH.out⟩
            case measure => simp [intOf]; omega
          have hc : 32 ≤ (a[i]'hlt).toNat := by rw [HB.out]; omega
          by_cases q127 : byteAt a i = 127
          · have hc2 : (((a[i]'hlt).toNat : Int) != 127) = false := by rw [HB.out]; simp; omega
            have HC : Hid (G.plainC (byteAt a i) = false) := hid (by unfold G.plainC; simp; omega)
            clear q32 q127
            go_wp2_with (go_at_call 22; refine (long_any a i hlt hs _).mono ?_; rintro e w' ⟨rfl, rfl⟩)
            go_round
            case rel => exact ⟨i + G.longL (a.data.toList.drop i), g, false, rfl, by go_num, by omega, by omega, by rw [← HPL.out, HC.out]; rfl, HWH.out⟩
            case measure => simp [intOf]; omega
          have hc2 : (((a[i]'hlt).toNat : Int) != 127) = true := by rw [HB.out]; simp; omega
          by_cases q34 : byteAt a i = 34
          · have hc3 : (((a[i]'hlt).toNat : Int) != 34) = false := by rw [HB.out]; simp; omega
            have HC : Hid (G.plainC (byteAt a i) = false) := hid (by unfold G.plainC; simp; omega)
            clear q32 q127 q34
            go_wp2_with (go_at_call 22; refine (long_any a i hlt hs _).mono ?_; rintro e w' ⟨rfl, rfl⟩)
            go_round
            case rel => exact ⟨i + G.longL (a.data.toList.drop i), g, false, rfl, by go_num, by omega, by omega, by rw [← HPL.out, HC.out]; rfl, HWH.out⟩
            case measure => simp [intOf]; omega
          have hc3 : (((a[i]'hlt).toNat : Int) != 34) = true := by rw [HB.out]; simp; omega
          by_cases q92 : byteAt a i = 92
          · have hc4 : (((a[i]'hlt).toNat : Int) != 92) = false := by rw [HB.out]; simp; omega
            have HC : Hid (G.plainC (byteAt a i) = false) := hid (by unfold G.plainC; simp; omega)
            clear q32 q127 q34 q92
            go_wp2_with (go_at_call 22; refine (long_any a i hlt hs _).mono ?_; rintro e w' ⟨rfl, rfl⟩)
            go_round
            case rel => exact ⟨i + G.longL (a.data.toList.drop i), g, false, rfl, by go_num, by omega, by omega, by rw [← HPL.out, HC.out]; rfl, HWH.out⟩
            case measure => simp [intOf]; omega
          have hc4 : (((a[i]'hlt).toNat : Int) != 92) = true := by rw [HB.out]; simp; omega
          have HC : Hid (G.plainC (byteAt a i) = true) := hid (by unfold G.plainC; simp; omega)
          clear q32 q127 q34 q92
          go_wp2_with (go_at_call 22; refine (long_any a i hlt hs _).mono ?_; rintro e w' ⟨rfl, rfl⟩)
          go_round
          case rel => exact ⟨i + G.longL (a.data.toList.drop i), g, true, rfl, by go_num, by omega, by omega, by rw [← HPL.out, HC.out]; rfl, HWH.out⟩
          case measure => simp [intOf]; omega
    · have hW1 : G.wholeF a.size a.data.toList = true := by rw [← HW.out, drop_nil hlt, G.wholeF_nil]
      have hP1 : G.plainF a.size a.data.toList = p := by rw [← HP.out, drop_nil hlt, G.plainF_nil, Bool.and_true]
      have HEQ := hid (HWT.out hW1)
      have HPQ : Hid (p = true → (x.toList == (⟨#[34]⟩ ++ a ++ ⟨#[34]⟩ : ByteArray).toList) = true) := hid (fun hp => HPT.out hW1 (by rw [hP1, hp]))
      clear hW1 hP1
      go_wp2_with fail
      refine (HX'.out _).mono ?_
      rintro e w1 ⟨rfl, h1⟩
      go_wp2_with fail
      refine (HY'.out _).mono ?_
      rintro e w2 ⟨rfl, h2⟩
      go_wp2
      have c0 : n ≤ x.size := by have := HN.out; omega
      have c1 : IntKind.i64.wrap ((x.size : Int) - 1) = (n : Int) := by
        have h := HN.out
        rw [IntWalk.i64_in _ (by omega)]
        omega
      have c6 : 1 ≤ y.size := by omega
      have c7 : (1 : Int) ≤ y.size := by omega
      have heq := HEQ.out
      cases p
      · clear c7
        refine wp_region_any (by kernel_rfl) ?_
        try (change wpAny _ _ _ _ _ _ _ (World.drew _))
        refine wpAny_ready (rs := [0]) (by kernel_rfl) (by simp) ?_
        refine AllReady.cons rfl (fun K hK => ?_) AllReady.nil
        go_simp
        go_wp2_with (go_at_call 11; refine (alive_any _).mono ?_; rintro e w3 ⟨rfl, h3⟩)
        refine wpAny_take (i := 1) (v := .bool true) rfl (by kernel_rfl) (by kernel_rfl) (by kernel_rfl) (fun _ _ _ h => h) (Or.inl ⟨by kernel_rfl, ?_⟩) ?_
        · (intro w; go_simp; try omega)
        refine wpAny_take (i := 2) (v := .string a) rfl (by kernel_rfl) (by kernel_rfl) (by kernel_rfl) (fun _ _ _ h => h) (Or.inl ⟨by kernel_rfl, ?_⟩) ?_
        · (intro w; go_simp; try omega)
        refine wpAny_take (i := 3) (v := .string b) rfl (by kernel_rfl) (by kernel_rfl) (by kernel_rfl) (fun _ _ _ h => h) (Or.inl ⟨by kernel_rfl, ?_⟩) ?_
        · (intro w; go_simp; try omega)
        refine wpAny_take (i := 6) (v := .string x) rfl (by kernel_rfl) (by kernel_rfl) (by kernel_rfl) (fun _ _ _ h => h) (Or.inl ⟨by kernel_rfl, ?_⟩) ?_
        · (intro w; go_simp; try omega)
        refine wpAny_take (i := 7) (v := .string x) rfl (by kernel_rfl) (by kernel_rfl) (by kernel_rfl) (fun _ _ _ h => h) (Or.inl ⟨by kernel_rfl, ?_⟩) ?_
        · (intro w; go_simp; try omega)
        refine wpAny_take (i := 8) (v := .int .i64 x.size) rfl (by kernel_rfl) (by kernel_rfl) (by kernel_rfl) (fun _ _ _ h => h) (Or.inl ⟨by kernel_rfl, ?_⟩) ?_
        · (intro w; go_simp; try omega)
        refine wpAny_take (i := 11) (v := .string y) rfl (by kernel_rfl) (by kernel_rfl) (by kernel_rfl) (fun _ _ _ h => h) (Or.inl ⟨by kernel_rfl, ?_⟩) ?_
        · (intro w; go_simp; try omega)
        refine wpAny_take (i := 9) (v := .int .i64 n) rfl (by kernel_rfl) (by kernel_rfl) (by kernel_rfl) (fun _ _ _ h => h) (Or.inl ⟨by kernel_rfl, ?_⟩) ?_
        · (intro w; go_simp; try omega)
        refine wpAny_take (i := 10) (v := .string (x.extract 0 n)) rfl (by kernel_rfl) (by kernel_rfl) (by kernel_rfl) (fun _ _ _ h => h) (Or.inl ⟨by kernel_rfl, ?_⟩) ?_
        · (intro w; go_simp; try omega)
        refine wpAny_take (i := 12) (v := .string (y.extract 1 y.size)) rfl (by kernel_rfl) (by kernel_rfl) (by kernel_rfl) (fun _ _ _ h => h) (Or.inl ⟨by kernel_rfl, ?_⟩) ?_
        · (intro w; go_simp; try omega)
        refine wpAny_take (i := 13) (v := .string (x.extract 0 n ++ y.extract 1 y.size)) rfl (by kernel_rfl) (by kernel_rfl) (by kernel_rfl) (fun _ _ _ h => h) (Or.inl ⟨by kernel_rfl, ?_⟩) ?_
        · (intro w; go_simp; try omega)
        refine wpAny_take (i := 4) (v := .string (a ++ b)) rfl (by kernel_rfl) (by kernel_rfl) (by kernel_rfl) (fun _ _ _ h => h) (Or.inl ⟨by kernel_rfl, ?_⟩) ?_
        · (intro w; go_simp; try omega)
        refine wpAny_ready (rs := [5]) (by kernel_rfl) (by simp) ?_
        refine AllReady.cons rfl (fun K hK => ?_) AllReady.nil
        go_simp
        go_wp2_with (go_at_call 16; refine (HT'.out _).mono ?_; rintro e w4 ⟨rfl, h4⟩)
        refine wpAny_take (i := 14) (v := .bool true) rfl (by kernel_rfl) (by kernel_rfl) (by kernel_rfl) (fun _ _ _ h => h) (Or.inl ⟨by kernel_rfl, ?_⟩) ?_
        · (intro w; go_simp; try simp [heq])
        refine wpAny_take (i := 15) (v := .bool true) rfl (by kernel_rfl) (by kernel_rfl) (by kernel_rfl) (fun _ _ _ h => h) (Or.inl ⟨by kernel_rfl, ?_⟩) ?_
        · (intro w; go_simp; try omega)
        refine wpAny_take (i := 16) (v := .bool true) rfl (by kernel_rfl) (by kernel_rfl) (by kernel_rfl) (fun _ _ _ h => h) (Or.inl ⟨by kernel_rfl, ?_⟩) ?_
        · (intro w; go_simp; try omega)
        refine wpAny_take (i := 17) (v := .bool false) rfl (by kernel_rfl) (by kernel_rfl) (by kernel_rfl) (fun _ _ _ h => h) (Or.inl ⟨by kernel_rfl, ?_⟩) ?_
        · (intro w; go_simp; try omega)
        refine wpAny_take (i := 18) (v := .bool true) rfl (by kernel_rfl) (by kernel_rfl) (by kernel_rfl) (fun _ _ _ h => h) (Or.inl ⟨by kernel_rfl, ?_⟩) ?_
        · (intro w; go_simp; try omega)
        refine wpAny_take (i := 19) (v := .bool true) rfl (by kernel_rfl) (by kernel_rfl) (by kernel_rfl) (fun _ _ _ h => h) (Or.inl ⟨by kernel_rfl, ?_⟩) ?_
        · (intro w; go_simp; try omega)
        refine wpAny_take (i := 20) (v := undef) rfl (by kernel_rfl) (by kernel_rfl) (by kernel_rfl) (fun _ _ _ h => h) (Or.inr ⟨by kernel_rfl, rfl⟩) ?_
        refine wpAny_take (i := 21) (v := undef) rfl (by kernel_rfl) (by kernel_rfl) (by kernel_rfl) (fun _ _ _ h => h) (Or.inr ⟨by kernel_rfl, rfl⟩) ?_
        refine wpAny_take (i := 22) (v := undef) rfl (by kernel_rfl) (by kernel_rfl) (by kernel_rfl) (fun _ _ _ h => h) (Or.inr ⟨by kernel_rfl, rfl⟩) ?_
        refine wpAny_take (i := 23) (v := undef) rfl (by kernel_rfl) (by kernel_rfl) (by kernel_rfl) (fun _ _ _ h => h) (Or.inr ⟨by kernel_rfl, rfl⟩) ?_
        refine wpAny_take (i := 24) (v := undef) rfl (by kernel_rfl) (by kernel_rfl) (by kernel_rfl) (fun _ _ _ h => h) (Or.inr ⟨by kernel_rfl, rfl⟩) ?_
        refine wpAny_take (i := 25) (v := .bool true) rfl (by kernel_rfl) (by kernel_rfl) (by kernel_rfl) (fun _ _ _ h => h) (Or.inl ⟨by kernel_rfl, ?_⟩) ?_
        · (intro w; go_simp; try omega)
        refine wpAny_take (i := 26) (v := .bool true) rfl (by kernel_rfl) (by kernel_rfl) (by kernel_rfl) (fun _ _ _ h => h) (Or.inl ⟨by kernel_rfl, ?_⟩) ?_
        · (intro w; go_simp; try omega)
        refine wpAny_take (i := 27) (v := .bool true) rfl (by kernel_rfl) (by kernel_rfl) (by kernel_rfl) (fun _ _ _ h => h) (Or.inl ⟨by kernel_rfl, ?_⟩) ?_
        · (intro w; go_simp; try omega)
        refine wpAny_done (by kernel_rfl) ?_ _
        go_wp2
        go_ret
        exact ⟨by kernel_rfl, up (up (up h1 h2 (Nat.le_refl _)).drew h3 (Nat.le_refl _)) h4 (Nat.le_refl _)⟩
      · clear c7
        refine wp_region_any (by kernel_rfl) ?_
        try (change wpAny _ _ _ _ _ _ _ (World.drew _))
        refine wpAny_ready (rs := [0]) (by kernel_rfl) (by simp) ?_
        refine AllReady.cons rfl (fun K hK => ?_) AllReady.nil
        go_simp
        go_wp2_with (go_at_call 11; refine (alive_any _).mono ?_; rintro e w3 ⟨rfl, h3⟩)
        refine wpAny_take (i := 1) (v := .bool true) rfl (by kernel_rfl) (by kernel_rfl) (by kernel_rfl) (fun _ _ _ h => h) (Or.inl ⟨by kernel_rfl, ?_⟩) ?_
        · (intro w; go_simp; try omega)
        refine wpAny_take (i := 2) (v := .string a) rfl (by kernel_rfl) (by kernel_rfl) (by kernel_rfl) (fun _ _ _ h => h) (Or.inl ⟨by kernel_rfl, ?_⟩) ?_
        · (intro w; go_simp; try omega)
        refine wpAny_take (i := 3) (v := .string b) rfl (by kernel_rfl) (by kernel_rfl) (by kernel_rfl) (fun _ _ _ h => h) (Or.inl ⟨by kernel_rfl, ?_⟩) ?_
        · (intro w; go_simp; try omega)
        refine wpAny_take (i := 6) (v := .string x) rfl (by kernel_rfl) (by kernel_rfl) (by kernel_rfl) (fun _ _ _ h => h) (Or.inl ⟨by kernel_rfl, ?_⟩) ?_
        · (intro w; go_simp; try omega)
        refine wpAny_take (i := 7) (v := .string x) rfl (by kernel_rfl) (by kernel_rfl) (by kernel_rfl) (fun _ _ _ h => h) (Or.inl ⟨by kernel_rfl, ?_⟩) ?_
        · (intro w; go_simp; try omega)
        refine wpAny_take (i := 8) (v := .int .i64 x.size) rfl (by kernel_rfl) (by kernel_rfl) (by kernel_rfl) (fun _ _ _ h => h) (Or.inl ⟨by kernel_rfl, ?_⟩) ?_
        · (intro w; go_simp; try omega)
        refine wpAny_take (i := 11) (v := .string y) rfl (by kernel_rfl) (by kernel_rfl) (by kernel_rfl) (fun _ _ _ h => h) (Or.inl ⟨by kernel_rfl, ?_⟩) ?_
        · (intro w; go_simp; try omega)
        refine wpAny_take (i := 9) (v := .int .i64 n) rfl (by kernel_rfl) (by kernel_rfl) (by kernel_rfl) (fun _ _ _ h => h) (Or.inl ⟨by kernel_rfl, ?_⟩) ?_
        · (intro w; go_simp; try omega)
        refine wpAny_take (i := 10) (v := .string (x.extract 0 n)) rfl (by kernel_rfl) (by kernel_rfl) (by kernel_rfl) (fun _ _ _ h => h) (Or.inl ⟨by kernel_rfl, ?_⟩) ?_
        · (intro w; go_simp; try omega)
        refine wpAny_take (i := 12) (v := .string (y.extract 1 y.size)) rfl (by kernel_rfl) (by kernel_rfl) (by kernel_rfl) (fun _ _ _ h => h) (Or.inl ⟨by kernel_rfl, ?_⟩) ?_
        · (intro w; go_simp; try omega)
        refine wpAny_take (i := 13) (v := .string (x.extract 0 n ++ y.extract 1 y.size)) rfl (by kernel_rfl) (by kernel_rfl) (by kernel_rfl) (fun _ _ _ h => h) (Or.inl ⟨by kernel_rfl, ?_⟩) ?_
        · (intro w; go_simp; try omega)
        refine wpAny_take (i := 4) (v := .string (a ++ b)) rfl (by kernel_rfl) (by kernel_rfl) (by kernel_rfl) (fun _ _ _ h => h) (Or.inl ⟨by kernel_rfl, ?_⟩) ?_
        · (intro w; go_simp; try omega)
        refine wpAny_ready (rs := [5]) (by kernel_rfl) (by simp) ?_
        refine AllReady.cons rfl (fun K hK => ?_) AllReady.nil
        go_simp
        go_wp2_with (go_at_call 16; refine (HT'.out _).mono ?_; rintro e w4 ⟨rfl, h4⟩)
        refine wpAny_take (i := 14) (v := .bool true) rfl (by kernel_rfl) (by kernel_rfl) (by kernel_rfl) (fun _ _ _ h => h) (Or.inl ⟨by kernel_rfl, ?_⟩) ?_
        · (intro w; go_simp; try simp [heq])
        refine wpAny_take (i := 15) (v := .bool true) rfl (by kernel_rfl) (by kernel_rfl) (by kernel_rfl) (fun _ _ _ h => h) (Or.inl ⟨by kernel_rfl, ?_⟩) ?_
        · (intro w; go_simp; try omega)
        refine wpAny_take (i := 16) (v := .bool true) rfl (by kernel_rfl) (by kernel_rfl) (by kernel_rfl) (fun _ _ _ h => h) (Or.inl ⟨by kernel_rfl, ?_⟩) ?_
        · (intro w; go_simp; try omega)
        refine wpAny_take (i := 17) (v := .bool true) rfl (by kernel_rfl) (by kernel_rfl) (by kernel_rfl) (fun _ _ _ h => h) (Or.inl ⟨by kernel_rfl, ?_⟩) ?_
        · (intro w; go_simp; try omega)
        refine wpAny_take (i := 18) (v := .bool false) rfl (by kernel_rfl) (by kernel_rfl) (by kernel_rfl) (fun _ _ _ h => h) (Or.inl ⟨by kernel_rfl, ?_⟩) ?_
        · (intro w; go_simp; try omega)
        refine wpAny_take (i := 19) (v := .bool false) rfl (by kernel_rfl) (by kernel_rfl) (by kernel_rfl) (fun _ _ _ h => h) (Or.inl ⟨by kernel_rfl, ?_⟩) ?_
        · (intro w; go_simp; try omega)
        have hpq := HPQ.out (by trivial)
        refine wpAny_take (i := 20) (v := .string x) rfl (by kernel_rfl) (by kernel_rfl) (by kernel_rfl) (fun _ _ _ h => h) (Or.inl ⟨by kernel_rfl, ?_⟩) ?_
        · (intro w; go_simp; try omega)
        refine wpAny_take (i := 21) (v := .string a) rfl (by kernel_rfl) (by kernel_rfl) (by kernel_rfl) (fun _ _ _ h => h) (Or.inl ⟨by kernel_rfl, ?_⟩) ?_
        · (intro w; go_simp; try omega)
        refine wpAny_take (i := 22) (v := .string (⟨#[34]⟩ ++ a)) rfl (by kernel_rfl) (by kernel_rfl) (by kernel_rfl) (fun _ _ _ h => h) (Or.inl ⟨by kernel_rfl, ?_⟩) ?_
        · (intro w; go_simp; try omega)
        refine wpAny_take (i := 23) (v := .string (⟨#[34]⟩ ++ a ++ ⟨#[34]⟩)) rfl (by kernel_rfl) (by kernel_rfl) (by kernel_rfl) (fun _ _ _ h => h) (Or.inl ⟨by kernel_rfl, ?_⟩) ?_
        · (intro w; go_simp; try omega)
        refine wpAny_take (i := 24) (v := .bool true) rfl (by kernel_rfl) (by kernel_rfl) (by kernel_rfl) (fun _ _ _ h => h) (Or.inl ⟨by kernel_rfl, ?_⟩) ?_
        · (intro w; go_simp; try simp [hpq])
        refine wpAny_take (i := 25) (v := .bool true) rfl (by kernel_rfl) (by kernel_rfl) (by kernel_rfl) (fun _ _ _ h => h) (Or.inl ⟨by kernel_rfl, ?_⟩) ?_
        · (intro w; go_simp; try omega)
        refine wpAny_take (i := 26) (v := .bool true) rfl (by kernel_rfl) (by kernel_rfl) (by kernel_rfl) (fun _ _ _ h => h) (Or.inl ⟨by kernel_rfl, ?_⟩) ?_
        · (intro w; go_simp; try omega)
        refine wpAny_take (i := 27) (v := .bool true) rfl (by kernel_rfl) (by kernel_rfl) (by kernel_rfl) (fun _ _ _ h => h) (Or.inl ⟨by kernel_rfl, ?_⟩) ?_
        · (intro w; go_simp; try omega)
        refine wpAny_done (by kernel_rfl) ?_ _
        go_wp2
        go_ret
        exact ⟨by kernel_rfl, up (up (up h1 h2 (Nat.le_refl _)).drew h3 (Nat.le_refl _)) h4 (Nat.le_refl _)⟩

theorem glyphJoined_true (a b : ByteArray) (w0 : a.size ≤ maxLen) (w1 : b.size ≤ maxLen) (w : World) :
    Calls Try.prog 9 #[.string a, .string b] w fun e w' => e = .returned (.bool true) ∧ Below w.heap.size w w' := by
  by_cases h : 1000 < a.size ∨ 1000 < b.size
  · exact glyphJoined_big a b w0 w1 h w
  have hla : a.data.toList.length = a.size := by simp
  have hlb : b.data.toList.length = b.size := by simp
  have hsz : ∀ l : List UInt8, (⟨(G.quoteL l).toArray⟩ : ByteArray).size = (G.quoteL l).length := fun l => by
    show (G.quoteL l).toArray.size = _
    simp
  have hql : ∀ l : List UInt8, (G.quoteL l).length = (G.quoteF l.length l).length + 2 := fun l => by simp [G.quoteL]
  have ha4 := G.quoteF_len a.data.toList.length a.data.toList
  have hb4 := G.quoteF_len b.data.toList.length b.data.toList
  have hal := hql a.data.toList
  have hbl := hql b.data.toList
  refine glyphJoined_walk a b ⟨(G.quoteL a.data.toList).toArray⟩ ⟨(G.quoteL b.data.toList).toArray⟩ ⟨(G.quoteL (a ++ b).data.toList).toArray⟩ ((G.quoteL a.data.toList).length - 1) (by rw [hsz]; omega) (by omega) (by omega) (by omega) (by rw [hsz]; omega) (by rw [hsz]; omega) (by rw [hsz]; omega) (by rw [hsz]; omega)
    (fun w => quote_any a (by omega) w) (fun w => quote_any b (by omega) w) (fun w => quote_any (a ++ b) (by rw [ByteArray.size_append]; omega) w) ?_ ?_ w
  · intro hw
    rw [← hla] at hw
    rw [beq_iff_eq, Lib.toList_data, Lib.toList_data]
    refine Eq.trans ?_ (toList_app _ _).symm
    rw [ext_end]
    have e := cut_list ⟨(G.quoteL a.data.toList).toArray⟩ 0 ((G.quoteL a.data.toList).length - 1)
    rw [Nat.zero_add] at e
    rw [e]
    show G.quoteL (a ++ b).data.toList = ((G.quoteL a.data.toList).drop 0).take _ ++ (G.quoteL b.data.toList).drop 1
    rw [toList_app, G.quoteL_app _ _ hw, List.drop_zero]
  · intro hw hp
    rw [← hla] at hw hp
    rw [beq_iff_eq, Lib.toList_data, Lib.toList_data, toList_app, toList_app]
    show G.quoteL a.data.toList = [34] ++ a.data.toList ++ [34]
    unfold G.quoteL
    rw [G.quote_plain _ _ (Nat.le_refl _) hw hp]
    rfl

set_option maxRecDepth 100000 in
theorem glyphJoined_lifted (os : Os) (started : os.Started) (H : Type) (enc : TypeId × Value → H) :
    ReturnsInHanded {} Try.checked os 9 .any (Rows.glyphJoinedSpec.pre6 enc Try.prog Try.f9 Rows.glyphJoinedRow.domain false) (Rows.glyphJoinedSpec.post enc Try.prog Try.f9 false true false false) := by
  refine returnsInHanded_of_change (C := Try.checked) own started (by kernel_rfl) Try.func9
    (ChangeSpec.witness6 (enc := enc) (C := Try.checked) false ⟨#[], #[.string ⟨#[]⟩, .string ⟨#[]⟩], []⟩ 8 (by kernel_rfl) (by kernel_rfl) (by kernel_rfl) (by kernel_rfl)) ?_
  intro W base args ds gs before hval0 hW hcnd _
  have hval : ∀ (j : Nat) t v, Try.f9.params[j]? = some t → args[j]? = some v → Value.okWide Try.prog W .any base t v := hval0
  have hW' := hW
  obtain ⟨p, q, hA0, hV, rfl, hfz, hnd⟩ := hW
  have hA : DataW.TrodAll enc Try.prog W 0 (fun _ => true) true Try.f9.params.toList args.toList ds p := hA0
  rw [Try.params9] at hA hval
  obtain ⟨v0, vs0, d0, ds0, p0, q0, hargs, rfl, rfl, h0, r0⟩ := trodAll_cons hA
  obtain ⟨v1, vs1, d1, ds1, p1, q1, hargs1, rfl, rfl, h1, r1⟩ := trodAll_cons r0
  obtain ⟨hn, rfl, rfl⟩ := trodAll_nil r1
  obtain rfl : args = #[v0, v1] := by cases args; simp_all
  obtain ⟨rfl, rfl⟩ := trodVars_none hV
  obtain ⟨a0, rfl, rfl, rfl, w0⟩ := open_string Try.underlying9 (hval 0 9 v0 rfl rfl) h0
  obtain ⟨a1, rfl, rfl, rfl, w1⟩ := open_string Try.underlying9 (hval 1 9 v1 rfl rfl) h1
  clear hA0 hval0
  simp only [List.append_nil] at hW'
  refine (glyphJoined_true a0 a1 w0 w1 W).mono fun e W' ⟨he, hB⟩ => ?_
  subst he
  refine ⟨_, rfl, _, _, _, [], [], [], hW', ?_, ?_, ?_, hB.frame _, fun h => by cases h⟩
  · exact trodAll_cons_mk (shut_bool Try.underlying4 _) trodAll_mk0
  · exact (trodAll_cons_mk (shut_string Try.underlying9 w0) (trodAll_cons_mk (shut_string Try.underlying9 w1) trodAll_mk0))
  · rfl

/-- GlyphJoined: the given statement. -/
theorem glyphJoined_holds : Rows.GlyphJoinedSaid :=
  OpenClaim.holds_of_wide 9 Try.f9 rfl rfl rfl rfl rfl rfl rfl ⟨rfl, rfl, rfl, rfl, rfl⟩ rfl rfl rfl rfl rfl (by kernel_rfl) Try.func9 (by kernel_rfl)
    (of_decide_eq_true (by kernel_rfl)) (by unfold Func.isWrapper; first | (rw [if_pos (by decide +kernel)]; kernel_rfl) | (rw [if_neg (by decide +kernel)]; exact ⟨rfl, rfl⟩))
    (fun os started H enc _ => glyphJoined_lifted os started H enc)

end Go.Proofs.Ytieggbmniheiiaa.glyphJoined
