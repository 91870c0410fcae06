/-
  The walk of the reference's one, where no quoted text stands. Conditions: the place lies in the text; a text of at most 2000000 bytes.
-/
import Derived.Test.YtfmmhmkaphbmpaaDoorLexI
import Derived.Test.YtfmmhmkaphbmpaaDoorLexA
namespace Go.Proofs.YtfmmhmkaphbmpaaDoor
open Go.RowKit

theorem new_cells2 {w w1 : World} {cs cs1 : Array Value} {t t1 : TypeId} (h : Below ((w.alloc (.cells cs t)).alloc (.cells cs1 t1)).heap.size ((w.alloc (.cells cs t)).alloc (.cells cs1 t1)) w1) :
    (∀ i, w1.cell? ⟨w.heap.size, i, none⟩ = cs[i]?) ∧ (∀ i, w1.frozen? ⟨w.heap.size, i, none⟩ = false) ∧ (∀ i, w1.cell? ⟨w.heap.size + 1, i, none⟩ = cs1[i]?) ∧ (∀ i, w1.frozen? ⟨w.heap.size + 1, i, none⟩ = false) ∧ w.heap.size + 1 < w1.heap.size := by
  have h2 : Below (w.alloc (.cells cs t)).heap.size (w.alloc (.cells cs t)) w1 := new_below h
  obtain ⟨a, b, c⟩ := new_cells h2
  obtain ⟨d, e, f⟩ := new_cells h
  simp only [World.size_alloc] at d e f
  exact ⟨a, b, d, e, f⟩

/-- What is known of the run of letters at p. -/
structure OneF (s : ByteArray) (p n : Nat) (x g : List UInt8) (bt bk bw : Bool) : Prop where
  tag : ∀ w, Calls Tryd.prog 18 #[.string (s.extract p (p + n))] w fun e w' => e = .returned (.bool bt) ∧ w = w'
  word : ∀ w, Calls Tryd.prog 19 #[.string (s.extract p (p + n))] w fun e w' => e = .returned (.bool bw) ∧ w = w'
  key : ∀ w, Calls Tryd.prog 15 #[.string (s.extract p (p + n))] w fun e w' => e = .returned (.bool bk) ∧ Below w.heap.size w w'
  sign : ∀ w, Calls Tryd.prog 48 #[.string s, .int .i64 p] w fun e w' => e = .returned (strV g) ∧ Below w.heap.size w w'
  said : L.oneL (s.data.toList.drop p) = if bt = true then some (2, x, n) else if bk = true then some (6, x, n) else if bw = true then some (1, x, n)
    else if 0 < n then (if L.runL L.digB x = n ∧ n ≤ 18 then some (3, x, n) else none) else if g ≠ [] then some (5, g, g.length) else none
  text : (s.extract p (p + n)) = ⟨x.toArray⟩
  get : x = (s.data.toList.drop p).take n

theorem oneF_of (s : ByteArray) (hs : s.size ≤ 2000000) (p n : Nat) (hp : p < s.size) (hpn : p + n ≤ s.size) (hq : G.at0 (s.data.toList.drop p) 0 ≠ 34) (hn : L.runL L.goesB (s.data.toList.drop p) = n) :
    ∃ x g bt bk bw, OneF s p n x g bt bk bw ∧ g.length ≤ 2 := by
  have hX : (s.extract p (p + n)).data.toList = (s.data.toList.drop p).take n := cut_list _ _ _
  refine ⟨(s.data.toList.drop p).take n, L.signL (s.data.toList.drop p), L.nameL 65 90 ((s.data.toList.drop p).take n), L.keyL ((s.data.toList.drop p).take n), L.nameL 97 122 ((s.data.toList.drop p).take n), ⟨?_, ?_, ?_, ?_, ?_, ?_, rfl⟩, (signL_len _).1⟩
  · intro w
    exact (refTag_any _ (by simp; omega) w).mono fun _ _ ⟨he, hw⟩ => ⟨by rw [he, nameB_L, hX], hw⟩
  · intro w
    exact (refWord_any _ (by simp; omega) w).mono fun _ _ ⟨he, hw⟩ => ⟨by rw [he, nameB_L, hX], hw⟩
  · intro w
    exact (refKey_any _ w).mono fun _ _ ⟨he, hw⟩ => ⟨by rw [he, hX], hw⟩
  · exact fun w => sign_any s hs p (by omega) w
  · rw [← L.oneR_eq]
    unfold L.oneR
    rw [if_neg hq, hn]
  · apply ByteArray.ext
    apply Array.ext'
    exact hX

theorem oneRes_some {k p n : Nat} {x : List UInt8} {X : ByteArray} (hX : X = ⟨x.toArray⟩) : OneRes (some (k, x, n)) p (.returned (.tuple #[.agg #[.int .i64 k, .string X, .int .i64 p, .int .i64 ((p + n : Nat) : Int)], .bool true])) := by
  subst hX
  exact rfl
theorem oneRes_none {k p q r : Nat} {x : List UInt8} {X : ByteArray} (hX : X = ⟨x.toArray⟩) : OneRes none p (.returned (.tuple #[.agg #[.int .i64 k, .string X, .int .i64 q, .int .i64 r], .bool false])) := by
  subst hX
  exact ⟨k, x, q, r, rfl⟩
theorem belowT {w w1 : World} (h : Below w.heap.size w w1) (u a b c d : Value) : Below w.heap.size w (((((w1.setCell ⟨w.heap.size + 1, 0, none⟩ u).setCell ⟨w.heap.size, 0, none⟩ a).setCell ⟨w.heap.size, 1, none⟩ b).setCell ⟨w.heap.size, 2, none⟩ c).setCell ⟨w.heap.size, 3, none⟩ d) :=
  below4 (h.setCell (p := ⟨w.heap.size + 1, 0, none⟩) (Nat.le_succ _) _) _ _ _ _

/-- The round's head of the loop over figures. -/
def DRel (p n : Nat) (x : List UInt8) (vi : Value) : Prop := ∃ m : Nat, m ≤ n ∧ vi = .int .i64 ((p + m : Nat) : Int) ∧ m + L.runL L.digB (x.drop m) = L.runL L.digB x

theorem x_at {s : ByteArray} {p n m : Nat} {x : List UInt8} (hx : x = (s.data.toList.drop p).take n) (hm : m < n) (h : p + m < s.size) : ∃ hl : m < x.length, x[m]'hl = s[p + m]'h := by
  subst hx
  refine ⟨by simp; omega, ?_⟩
  simp
  rfl

set_option maxHeartbeats 4000000 in
set_option maxRecDepth 100000 in
theorem one_word (s : ByteArray) (hs : s.size ≤ 2000000) (p : Nat) (hp : p < s.size) (hq : G.at0 (s.data.toList.drop p) 0 ≠ 34) (w : World) :
    Calls Tryd.prog 25 #[.string s, .int .i64 p] w (OneLeft (L.oneL (s.data.toList.drop p)) p w) := by
  have hbt := byte_is s p hp
  have h34 : (((s[p]'hp).toNat : Int) == 34) = false := beq_eq_false_iff_ne.2 (by omega)
  have hrl := L.runL_le L.goesB (s.data.toList.drop p)
  have hdl : (s.data.toList.drop p).length = s.size - p := by simp
  obtain ⟨n, hn⟩ : ∃ n, L.runL L.goesB (s.data.toList.drop p) = n := ⟨_, rfl⟩
  rw [hn, hdl] at hrl
  have hpn : p + n ≤ s.size := by omega
  obtain ⟨x, g, bt, bk, bw, hF, hg2⟩ := oneF_of s hs p n hp hpn hq hn
  have HF := hid hF
  have HN := hid hn
  clear hq hbt hrl hdl hn hF
  go_enter Tryd.func25, Tryd.ntmps25
  go_wp2
  go_loop [9] (fun vi => ∃ k : Nat, p ≤ k ∧ k ≤ s.size ∧ vi = .int .i64 k ∧ k + L.runL L.goesB (s.data.toList.drop k) = p + n) (fun vi => s.size - (intOf vi).toNat)
  case atStart => exact ⟨p, by omega, by omega, rfl, by rw [HN.out]⟩
  case round =>
    obtain ⟨k, hpk, hk, rfl, hrun⟩ := hrel
    have HK := hid hrun
    clear hrun
    by_cases hlt : k < s.size
    · have hl : k < s.data.toList.length := by simpa using hlt
      by_cases hg : L.goesB (s[k]'hlt) = true
      · have HG := hid hg
        have HS := hid (L.runL_step hl hg)
        clear hg
        go_wp2_with (go_at_call 46; refine (refGoes_v _ _ HG.out _).mono ?_; rintro e w' ⟨rfl, rfl⟩)
        go_round
        case rel => exact ⟨k + 1, by omega, by omega, by go_num, by have := HK.out; have := HS.out; omega⟩
        case measure => simp [intOf]; omega
      · have HG := hid ((Bool.not_eq_true _).mp hg)
        have HS := hid (L.runL_stop hl ((Bool.not_eq_true _).mp hg))
        clear hg
        have hkn : k = p + n := by have := HK.out; have := HS.out; omega
        subst hkn
        go_wp2_with (go_at_call 46; refine (refGoes_v _ _ HG.out _).mono ?_; rintro e w' ⟨rfl, rfl⟩)
        refine (HF.out.tag _).mono ?_
        rintro e w1 ⟨rfl, rfl⟩
        cases bt
        · go_wp2_with fail
          refine (HF.out.key _).mono ?_
          rintro e w1 ⟨rfl, h1⟩
          obtain ⟨c0, f0, c1, f1, hz⟩ := new_cells2 h1
          have h1b := new_below h1
          cases bk
          · go_wp2_with fail
            refine (HF.out.word _).mono ?_
            rintro e w2 ⟨rfl, rfl⟩
            cases bw
            · by_cases h0 : 0 < n
              · have hdn : decide ((p : Int) < (p : Int) + (n : Int)) = true := decide_eq_true (by omega)
                go_wp2
                go_loop [11] (DRel p n x) (fun vi => s.size - (intOf vi).toNat)
                case atStart => exact ⟨0, by omega, by go_num, by simp⟩
                case round =>
                  obtain ⟨m, hm, rfl, hrun2⟩ := hrel
                  have HM := hid hrun2
                  clear hrun2
                  by_cases hmn : m < n
                  · have hpm : p + m < s.size := by omega
                    obtain ⟨hxl, hxe⟩ := x_at HF.out.get hmn hpm
                    by_cases hd : L.digB (s[p + m]'hpm) = true
                    · have HD := hid hd
                      have HS := hid (L.runL_step hxl (show L.digB x[m] = true by rw [hxe]; exact hd))
                      clear hd hxe hxl
                      go_wp2_with (go_at_call 47; refine (refFigure_v _ _ HD.out _).mono ?_; rintro e w' ⟨rfl, rfl⟩)
                      go_round
                      case rel => exact ⟨m + 1, by omega, by rw [← Nat.add_assoc]; go_num, by have := HM.out; have := HS.out; omega⟩
                      case measure => simp [intOf]; omega
                    · have HD := hid ((Bool.not_eq_true _).mp hd)
                      have HS := hid (L.runL_stop hxl (show L.digB x[m] = false by rw [hxe]; exact (Bool.not_eq_true _).mp hd))
                      clear hd hxe hxl
                      go_wp2_with (go_at_call 47; refine (refFigure_v _ _ HD.out _).mono ?_; rintro e w' ⟨rfl, rfl⟩)
                      refine bodyPost_ret (v := .tuple #[.agg #[.int .i64 1, .string (s.extract p (p + n)), .int .i64 p, .int .i64 ((p + n : Nat) : Int)], .bool false]) (by simp [results, Tryd.results25, c0, go_sem]) rfl ⟨?_, below4 (new_below (new_below h1)) _ _ _ _⟩
                      rw [HF.out.said]
                      have hne : ¬ (L.runL L.digB x = n ∧ n ≤ 18) := by
                        have := HM.out
                        have := HS.out
                        omega
                      rw [if_neg (by simp), if_neg (by simp), if_neg (by simp), if_pos h0, if_neg hne]
                      exact oneRes_none HF.out.text
                  · obtain rfl : m = n := by omega
                    have HE : Hid (L.runL L.digB x = m) := hid (by
                      have h2 := HM.out
                      have hxl : x.length ≤ m := by rw [HF.out.get, List.length_take]; omega
                      rw [List.drop_eq_nil_of_le hxl] at h2
                      have h3 : L.runL L.digB [] = 0 := rfl
                      omega)
                    by_cases h18 : m ≤ 18
                    · go_wp2
                      refine bodyPost_ret (v := .tuple #[.agg #[.int .i64 3, .string (s.extract p (p + m)), .int .i64 p, .int .i64 ((p + m : Nat) : Int)], .bool true]) (by simp [results, Tryd.results25, c0, go_sem]; omega) rfl ⟨?_, belowT (new_below (new_below h1)) _ _ _ _ _⟩
                      rw [HF.out.said, if_neg (by simp), if_neg (by simp), if_neg (by simp), if_pos h0, if_pos ⟨HE.out, h18⟩]
                      exact oneRes_some HF.out.text
                    · go_wp2
                      refine bodyPost_ret (v := .tuple #[.agg #[.int .i64 3, .string (s.extract p (p + m)), .int .i64 p, .int .i64 ((p + m : Nat) : Int)], .bool false]) (by simp [results, Tryd.results25, c0, go_sem]; omega) rfl ⟨?_, belowT (new_below (new_below h1)) _ _ _ _ _⟩
                      rw [HF.out.said, if_neg (by simp), if_neg (by simp), if_neg (by simp), if_pos h0, if_neg (fun h => h18 h.2)]
                      exact oneRes_none HF.out.text
              · go_wp2_with fail
                refine (HF.out.sign _).mono ?_
                rintro e w2 ⟨rfl, h2⟩
                have h12 := (new_below h1b).trans (h2.mono (new_below h1b).size)
                obtain ⟨d0, g0, _⟩ := new_cells (h1b.trans (h2.mono h1b.size))
                have hsz : (⟨g.toArray⟩ : ByteArray).size = g.length := by show g.toArray.size = _; simp
                have hsl : (⟨g.toArray⟩ : ByteArray).size ≤ 2 := by omega
                have HZ := hid hsz
                clear hsz
                simp only [strV]
                by_cases hne : g ≠ []
                · have hn1 : ((⟨g.toArray⟩ : ByteArray).toList != (⟨#[]⟩ : ByteArray).toList) = true := by rw [ne_list]; simpa using hne
                  have hn2 : (!g.isEmpty) = true := by simpa using hne
                  have HNE := hid hne
                  clear hne
                  go_wp2
                  refine bodyPost_ret (v := .tuple #[.agg #[.int .i64 5, .string ⟨g.toArray⟩, .int .i64 p, .int .i64 ((p + g.length : Nat) : Int)], .bool true]) (by simp [results, Tryd.results25, d0, go_sem]) rfl ⟨?_, below4 h12 _ _ _ _⟩
                  rw [HF.out.said, if_neg (by simp), if_neg (by simp), if_neg (by simp), if_neg h0, if_pos HNE.out]
                  exact oneRes_some rfl
                · have hg0 : g = [] := by simpa using hne
                  subst hg0
                  clear hne
                  go_wp2
                  refine bodyPost_ret (v := .tuple #[.agg #[.int .i64 5, .string ⟨#[]⟩, .int .i64 p, .int .i64 p], .bool false]) (by simp [results, Tryd.results25, d0, go_sem]) rfl ⟨?_, below4 h12 _ _ _ _⟩
                  rw [HF.out.said, if_neg (by simp), if_neg (by simp), if_neg (by simp), if_neg h0, if_neg (by simp)]
                  exact oneRes_none (x := []) rfl
            · go_wp2
              refine bodyPost_ret (v := .tuple #[.agg #[.int .i64 1, .string (s.extract p (p + n)), .int .i64 p, .int .i64 ((p + n : Nat) : Int)], .bool true]) (by simp [results, Tryd.results25, c0, go_sem]) rfl ⟨?_, below4 (new_below (new_below h1)) _ _ _ _⟩
              rw [HF.out.said]
              exact oneRes_some HF.out.text
          · go_wp2
            refine bodyPost_ret (v := .tuple #[.agg #[.int .i64 6, .string (s.extract p (p + n)), .int .i64 p, .int .i64 ((p + n : Nat) : Int)], .bool true]) (by simp [results, Tryd.results25, c0, go_sem]) rfl ⟨?_, belowT (new_below (new_below h1)) _ _ _ _ _⟩
            rw [HF.out.said]
            exact oneRes_some HF.out.text
        · go_wp2
          refine bodyPost_ret (v := .tuple #[.agg #[.int .i64 2, .string (s.extract p (p + n)), .int .i64 p, .int .i64 ((p + n : Nat) : Int)], .bool true]) (by simp [results, Tryd.results25, go_sem]) rfl ⟨?_, ((Below.refl _ _).alloc (Nat.le_refl _) _).alloc (by simp) _⟩
          rw [HF.out.said]
          exact oneRes_some HF.out.text
    · have hkn : k = p + n := by
        have := HK.out
        rw [L.runL_end (by simp; omega)] at this
        omega
      subst hkn
      go_wp2_with fail
      refine (HF.out.tag _).mono ?_
      rintro e w1 ⟨rfl, rfl⟩
      cases bt
      · go_wp2_with fail
        refine (HF.out.key _).mono ?_
        rintro e w1 ⟨rfl, h1⟩
        obtain ⟨c0, f0, c1, f1, hz⟩ := new_cells2 h1
        have h1b := new_below h1
        cases bk
        · go_wp2_with fail
          refine (HF.out.word _).mono ?_
          rintro e w2 ⟨rfl, rfl⟩
          cases bw
          · by_cases h0 : 0 < n
            · have hdn : decide ((p : Int) < (p : Int) + (n : Int)) = true := decide_eq_true (by omega)
              go_wp2
              go_loop [11] (DRel p n x) (fun vi => s.size - (intOf vi).toNat)
              case atStart => exact ⟨0, by omega, by go_num, by simp⟩
              case round =>
                obtain ⟨m, hm, rfl, hrun2⟩ := hrel
                have HM := hid hrun2
                clear hrun2
                by_cases hmn : m < n
                · have hpm : p + m < s.size := by omega
                  obtain ⟨hxl, hxe⟩ := x_at HF.out.get hmn hpm
                  by_cases hd : L.digB (s[p + m]'hpm) = true
                  · have HD := hid hd
                    have HS := hid (L.runL_step hxl (show L.digB x[m] = true by rw [hxe]; exact hd))
                    clear hd hxe hxl
                    go_wp2_with (go_at_call 47; refine (refFigure_v _ _ HD.out _).mono ?_; rintro e w' ⟨rfl, rfl⟩)
                    go_round
                    case rel => exact ⟨m + 1, by omega, by rw [← Nat.add_assoc]; go_num, by have := HM.out; have := HS.out; omega⟩
                    case measure => simp [intOf]; omega
                  · have HD := hid ((Bool.not_eq_true _).mp hd)
                    have HS := hid (L.runL_stop hxl (show L.digB x[m] = false by rw [hxe]; exact (Bool.not_eq_true _).mp hd))
                    clear hd hxe hxl
                    go_wp2_with (go_at_call 47; refine (refFigure_v _ _ HD.out _).mono ?_; rintro e w' ⟨rfl, rfl⟩)
                    refine bodyPost_ret (v := .tuple #[.agg #[.int .i64 1, .string (s.extract p (p + n)), .int .i64 p, .int .i64 ((p + n : Nat) : Int)], .bool false]) (by simp [results, Tryd.results25, c0, go_sem]) rfl ⟨?_, below4 (new_below (new_below h1)) _ _ _ _⟩
                    rw [HF.out.said]
                    have hne : ¬ (L.runL L.digB x = n ∧ n ≤ 18) := by
                      have := HM.out
                      have := HS.out
                      omega
                    rw [if_neg (by simp), if_neg (by simp), if_neg (by simp), if_pos h0, if_neg hne]
                    exact oneRes_none HF.out.text
                · obtain rfl : m = n := by omega
                  have HE : Hid (L.runL L.digB x = m) := hid (by
                    have h2 := HM.out
                    have hxl : x.length ≤ m := by rw [HF.out.get, List.length_take]; omega
                    rw [List.drop_eq_nil_of_le hxl] at h2
                    have h3 : L.runL L.digB [] = 0 := rfl
                    omega)
                  by_cases h18 : m ≤ 18
                  · go_wp2
                    refine bodyPost_ret (v := .tuple #[.agg #[.int .i64 3, .string (s.extract p (p + m)), .int .i64 p, .int .i64 ((p + m : Nat) : Int)], .bool true]) (by simp [results, Tryd.results25, c0, go_sem]; omega) rfl ⟨?_, belowT (new_below (new_below h1)) _ _ _ _ _⟩
                    rw [HF.out.said, if_neg (by simp), if_neg (by simp), if_neg (by simp), if_pos h0, if_pos ⟨HE.out, h18⟩]
                    exact oneRes_some HF.out.text
                  · go_wp2
                    refine bodyPost_ret (v := .tuple #[.agg #[.int .i64 3, .string (s.extract p (p + m)), .int .i64 p, .int .i64 ((p + m : Nat) : Int)], .bool false]) (by simp [results, Tryd.results25, c0, go_sem]; omega) rfl ⟨?_, belowT (new_below (new_below h1)) _ _ _ _ _⟩
                    rw [HF.out.said, if_neg (by simp), if_neg (by simp), if_neg (by simp), if_pos h0, if_neg (fun h => h18 h.2)]
                    exact oneRes_none HF.out.text
            · exfalso; omega
          · go_wp2
            refine bodyPost_ret (v := .tuple #[.agg #[.int .i64 1, .string (s.extract p (p + n)), .int .i64 p, .int .i64 ((p + n : Nat) : Int)], .bool true]) (by simp [results, Tryd.results25, c0, go_sem]) rfl ⟨?_, below4 (new_below (new_below h1)) _ _ _ _⟩
            rw [HF.out.said]
            exact oneRes_some HF.out.text
        · go_wp2
          refine bodyPost_ret (v := .tuple #[.agg #[.int .i64 6, .string (s.extract p (p + n)), .int .i64 p, .int .i64 ((p + n : Nat) : Int)], .bool true]) (by simp [results, Tryd.results25, c0, go_sem]) rfl ⟨?_, belowT (new_below (new_below h1)) _ _ _ _ _⟩
          rw [HF.out.said]
          exact oneRes_some HF.out.text
      · go_wp2
        refine bodyPost_ret (v := .tuple #[.agg #[.int .i64 2, .string (s.extract p (p + n)), .int .i64 p, .int .i64 ((p + n : Nat) : Int)], .bool true]) (by simp [results, Tryd.results25, go_sem]) rfl ⟨?_, ((Below.refl _ _).alloc (Nat.le_refl _) _).alloc (by simp) _⟩
        rw [HF.out.said]
        exact oneRes_some HF.out.text

end Go.Proofs.YtfmmhmkaphbmpaaDoor
