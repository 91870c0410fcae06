/-
  PrecLooks is true for any type and any text. No conditions.
-/
import Derived.Test.YtpndbgdimkpfjaaRows
import Derived.Test.YtpndbgdimkpfjaaPvLq
import Derived.Test.YtpndbgdimkpfjaaPvZ
import Derived.ProofKit
import Derived.OpenShut
import Derived.Test.YtpndbgdimkpfjaaPvW
namespace Go.Proofs.Ytpndbgdimkpfjaa.precLooks
open Go.ChangeShapes Go.WideShapes Go.ChangeAt Go.RowKit
open Go.ChangeMaps (open_string shut_string)

theorem own : ownKnob Try.prog.godebug = none := by kernel_rfl

abbrev Post (w : World) (e : Ending) (w' : World) : Prop := e = .returned (.bool true) ∧ Below w.heap.size w w'

set_option maxHeartbeats 4000000 in
set_option maxRecDepth 100000 in
theorem looks_true {W : World} (va : Value) (la : List L.Nd) (ha : Rd W W.heap.size va la) (s : ByteArray) (hs : s.size ≤ maxLen) :
    Calls Try.prog 4 #[va, .string s] W (Post W) := by
  have A0 := hid ha
  have X0 := hid (Below.refl W.heap.size W)
  have HPL := hid (plain1 va la W ha)
  obtain ⟨Aa, ca, rfl, hca, hcm, -⟩ := ha
  unfold maxLen at hcm hs
  cases hg : allG [(Value.slice Aa la.length ca, la)] with
  | false =>
    rw [hg] at HPL
    clear hg
    go_enter Try.func4, Try.ntmps4
    go_wp2_with fail
    refine (HPL.out).mono ?_
    rintro e w1 ⟨rfl, h0⟩
    have HC := hid (alive_any w1)
    have X1 := hid h0
    clear h0
    go_wp2_with fail
    refine (HC.out).mono ?_
    rintro e w2 ⟨rfl, h0⟩
    go_wp2
    go_ret
    exact ⟨rfl, X1.out.trans (h0.mono X1.out.size)⟩
  | true =>
    rw [hg] at HPL
    obtain ⟨FA, rfl, GA⟩ := good_gd (all1 hg)
    have GA := hid GA
    have TA := hid (GA.out.ty (by omega))
    clear hg
    by_cases h100 : 100 < s.size
    · go_enter Try.func4, Try.ntmps4
      go_wp2_with fail
      refine (HPL.out).mono ?_
      rintro e w1 ⟨rfl, h0⟩
      have HC := hid (alive_any w1)
      have X1 := hid h0
      clear h0
      go_wp2_with fail
      refine (HC.out).mono ?_
      rintro e w2 ⟨rfl, h0⟩
      go_wp2
      go_ret
      exact ⟨rfl, X1.out.trans (h0.mono X1.out.size)⟩
    have h100' : s.size ≤ 100 := by omega
    clear h100
    go_enter Try.func4, Try.ntmps4
    go_wp2_with fail
    refine (HPL.out).mono ?_
    rintro e w1 ⟨rfl, h0⟩
    have HC := HPL
    have X1 := hid (X0.out.trans (h0.mono X0.out.size))
    have A1 := hid ((A0.out.below h0).mono h0.size)
    clear h0 HC X0 A0
    clear HPL
    cases h_ca : L.callF FA with
    | none =>
      have Hca := hid h_ca
      clear h_ca
      have HC := hid (call_no GA.out (by omega) Hca.out _ _ A1.out)
      go_wp2_with fail
      refine (HC.out).mono ?_
      rintro e w2 ⟨rfl, rfl⟩
      have A2 := A1
      have X2 := X1
      clear HC X1 A1
      have HC := hid (refcall_no GA.out (by omega) Hca.out _ _ A2.out)
      go_wp2_with fail
      refine (HC.out).mono ?_
      rintro e w3 ⟨rfl, rfl⟩
      have A3 := A2
      have X3 := X2
      clear HC X2 A2
      cases h_fa : L.fieldF s FA with
      | none =>
        have Hfa := hid h_fa
        clear h_fa
        have HC := hid (field_no GA.out (by omega) s Hfa.out _ _ A3.out)
        go_wp2_with fail
        refine (HC.out).mono ?_
        rintro e w4 ⟨rfl, h0⟩
        have X4 := hid (X3.out.trans (h0.mono X3.out.size))
        have A4 := hid ((A3.out.below h0).mono h0.size)
        clear h0 HC X3 A3
        have HC := hid (reffield_no GA.out (by omega) s Hfa.out _ _ A4.out)
        go_wp2_with fail
        refine (HC.out).mono ?_
        rintro e w5 ⟨rfl, h0⟩
        have X5 := hid (X4.out.trans (h0.mono X4.out.size))
        have A5 := hid ((A4.out.below h0).mono h0.size)
        clear h0 HC X4 A4
        by_cases hk0 : (L.hd FA).kind = 0
        · have Hk0 := hid hk0
          clear hk0
          have HC := hid ((tags_any GA.out (by omega) _ _ A5.out).mono fun e w' (h : TagsPost FA _ e w' ∧ _) => (⟨h.1.dyn Hk0.out, h.2⟩ : e = _ ∧ _))
          go_wp2_with fail
          refine (HC.out).mono ?_
          rintro e w6 ⟨rfl, h0⟩
          have X6 := hid (X5.out.trans (h0.mono X5.out.size))
          have A6 := hid ((A5.out.below h0).mono h0.size)
          clear h0 HC X5 A5
          have HC := hid ((reftags_any GA.out (by omega) _ _ A6.out).mono fun e w' (h : TagsPost FA _ e w' ∧ _) => (⟨h.1.dyn Hk0.out, h.2⟩ : e = _ ∧ _))
          go_wp2_with fail
          refine (HC.out).mono ?_
          rintro e w7 ⟨rfl, h0⟩
          have X7 := hid (X6.out.trans (h0.mono X6.out.size))
          have A7 := hid ((A6.out.below h0).mono h0.size)
          clear h0 HC X6 A6
          have HC := hid (alive_any w7)
          go_wp2_with fail
          refine (HC.out).mono ?_
          rintro e w8 ⟨rfl, h0⟩
          have X8 := hid (X7.out.trans (h0.mono X7.out.size))
          have A8 := hid ((A7.out.below h0).mono h0.size)
          clear h0 HC X7 A7
          have HC := hid (one_any [] [] (.slice none 0 0) (.slice none 0 0) w8 (rd_nil7 _) (rd_nil7 _))
          rw [decide_eq_true (rfl : ([] : List L.Nd) = [])] at HC
          go_wp2_with fail
          refine (HC.out).mono ?_
          rintro e w9 ⟨rfl, h0⟩
          have X9 := hid (X8.out.trans (h0.mono X8.out.size))
          have A9 := hid ((A8.out.below h0).mono h0.size)
          clear h0 HC X8 A8
          have HC := hid (one_any [] [] (.slice none 0 0) (.slice none 0 0) w9 (rd_nil7 _) (rd_nil7 _))
          rw [decide_eq_true (rfl : ([] : List L.Nd) = [])] at HC
          go_wp2_with fail
          refine (HC.out).mono ?_
          rintro e w10 ⟨rfl, h0⟩
          have X10 := hid (X9.out.trans (h0.mono X9.out.size))
          have A10 := hid ((A9.out.below h0).mono h0.size)
          clear h0 HC X9 A9
          have HC := hid (one_any [] [] (.slice none 0 0) (.slice none 0 0) w10 (rd_nil7 _) (rd_nil7 _))
          rw [decide_eq_true (rfl : ([] : List L.Nd) = [])] at HC
          go_wp2_with fail
          refine (HC.out).mono ?_
          rintro e w11 ⟨rfl, h0⟩
          have X11 := hid (X10.out.trans (h0.mono X10.out.size))
          have A11 := hid ((A10.out.below h0).mono h0.size)
          clear h0 HC X10 A10
          have HC := hid (strings_same [] (.slice none 0 0) (.slice none 0 0) w11 (rds_nil _) (rds_nil _) (by simp))
          go_wp2_with fail
          refine (HC.out).mono ?_
          rintro e w12 ⟨rfl, h0⟩
          have X12 := hid (X11.out.trans (h0.mono X11.out.size))
          have A12 := hid ((A11.out.below h0).mono h0.size)
          clear h0 HC X11 A11
          go_wp2
          go_ret
          exact ⟨rfl, X12.out⟩
        · have Hk0 := hid hk0
          clear hk0
          by_cases hk7 : (L.hd FA).kind = 7
          · have Hk7 := hid hk7
            clear hk7
            have HC := hid ((tags_any GA.out (by omega) _ _ A5.out).mono fun e w' (h : TagsPost FA _ e w' ∧ _) => (⟨h.1.yes Hk7.out, h.2⟩ : (∃ v, e = .returned (.tuple #[v, .int .i64 0]) ∧ OwnS _ v (tagsL FA) w') ∧ _))
            go_wp2_with fail
            refine (HC.out).mono ?_
            rintro e w6 ⟨⟨vl, rfl, ol⟩, h0⟩
            obtain ⟨Al, cl, rfl⟩ := ol.val
            have l6 := hid ol
            clear ol
            have X6 := hid (X5.out.trans (h0.mono X5.out.size))
            have A6 := hid ((A5.out.below h0).mono h0.size)
            clear h0 HC X5 A5
            have HC := hid ((reftags_any GA.out (by omega) _ _ A6.out).mono fun e w' (h : TagsPost FA _ e w' ∧ _) => (⟨h.1.yes Hk7.out, h.2⟩ : (∃ v, e = .returned (.tuple #[v, .int .i64 0]) ∧ OwnS _ v (tagsL FA) w') ∧ _))
            go_wp2_with fail
            refine (HC.out).mono ?_
            rintro e w7 ⟨⟨vm, rfl, om⟩, h0⟩
            obtain ⟨Am, cm, rfl⟩ := om.val
            have m7 := hid om
            clear om
            have X7 := hid (X6.out.trans (h0.mono X6.out.size))
            have A7 := hid ((A6.out.below h0).mono h0.size)
            have l7 := hid (l6.out.below h0)
            clear h0 HC X6 A6 l6
            have HC := hid (alive_any w7)
            go_wp2_with fail
            refine (HC.out).mono ?_
            rintro e w8 ⟨rfl, h0⟩
            have X8 := hid (X7.out.trans (h0.mono X7.out.size))
            have A8 := hid ((A7.out.below h0).mono h0.size)
            have l8 := hid (l7.out.below h0)
            have m8 := hid (m7.out.below h0)
            clear h0 HC X7 A7 l7 m7
            have HC := hid (one_any [] [] (.slice none 0 0) (.slice none 0 0) w8 (rd_nil7 _) (rd_nil7 _))
            rw [decide_eq_true (rfl : ([] : List L.Nd) = [])] at HC
            go_wp2_with fail
            refine (HC.out).mono ?_
            rintro e w9 ⟨rfl, h0⟩
            have X9 := hid (X8.out.trans (h0.mono X8.out.size))
            have A9 := hid ((A8.out.below h0).mono h0.size)
            have l9 := hid (l8.out.below h0)
            have m9 := hid (m8.out.below h0)
            clear h0 HC X8 A8 l8 m8
            have HC := hid (one_any [] [] (.slice none 0 0) (.slice none 0 0) w9 (rd_nil7 _) (rd_nil7 _))
            rw [decide_eq_true (rfl : ([] : List L.Nd) = [])] at HC
            go_wp2_with fail
            refine (HC.out).mono ?_
            rintro e w10 ⟨rfl, h0⟩
            have X10 := hid (X9.out.trans (h0.mono X9.out.size))
            have A10 := hid ((A9.out.below h0).mono h0.size)
            have l10 := hid (l9.out.below h0)
            have m10 := hid (m9.out.below h0)
            clear h0 HC X9 A9 l9 m9
            have HC := hid (one_any [] [] (.slice none 0 0) (.slice none 0 0) w10 (rd_nil7 _) (rd_nil7 _))
            rw [decide_eq_true (rfl : ([] : List L.Nd) = [])] at HC
            go_wp2_with fail
            refine (HC.out).mono ?_
            rintro e w11 ⟨rfl, h0⟩
            have X11 := hid (X10.out.trans (h0.mono X10.out.size))
            have A11 := hid ((A10.out.below h0).mono h0.size)
            have l11 := hid (l10.out.below h0)
            have m11 := hid (m10.out.below h0)
            clear h0 HC X10 A10 l10 m10
            have HC := hid (strings_same (tagsL FA) _ _ _ l11.out.rd m11.out.rd (tags_len GA.out))
            go_wp2_with fail
            refine (HC.out).mono ?_
            rintro e w12 ⟨rfl, h0⟩
            have X12 := hid (X11.out.trans (h0.mono X11.out.size))
            have A12 := hid ((A11.out.below h0).mono h0.size)
            have l12 := hid (l11.out.below h0)
            have m12 := hid (m11.out.below h0)
            clear h0 HC X11 A11 l11 m11
            go_wp2
            go_ret
            exact ⟨rfl, X12.out⟩
          · have Hk7 := hid hk7
            clear hk7
            have HC := hid ((tags_any GA.out (by omega) _ _ A5.out).mono fun e w' (h : TagsPost FA _ e w' ∧ _) => (⟨h.1.no Hk0.out Hk7.out, h.2⟩ : e = _ ∧ _))
            go_wp2_with fail
            refine (HC.out).mono ?_
            rintro e w6 ⟨rfl, h0⟩
            have X6 := hid (X5.out.trans (h0.mono X5.out.size))
            have A6 := hid ((A5.out.below h0).mono h0.size)
            clear h0 HC X5 A5
            have HC := hid ((reftags_any GA.out (by omega) _ _ A6.out).mono fun e w' (h : TagsPost FA _ e w' ∧ _) => (⟨h.1.no Hk0.out Hk7.out, h.2⟩ : e = _ ∧ _))
            go_wp2_with fail
            refine (HC.out).mono ?_
            rintro e w7 ⟨rfl, h0⟩
            have X7 := hid (X6.out.trans (h0.mono X6.out.size))
            have A7 := hid ((A6.out.below h0).mono h0.size)
            clear h0 HC X6 A6
            have HC := hid (alive_any w7)
            go_wp2_with fail
            refine (HC.out).mono ?_
            rintro e w8 ⟨rfl, h0⟩
            have X8 := hid (X7.out.trans (h0.mono X7.out.size))
            have A8 := hid ((A7.out.below h0).mono h0.size)
            clear h0 HC X7 A7
            have HC := hid (one_any [] [] (.slice none 0 0) (.slice none 0 0) w8 (rd_nil7 _) (rd_nil7 _))
            rw [decide_eq_true (rfl : ([] : List L.Nd) = [])] at HC
            go_wp2_with fail
            refine (HC.out).mono ?_
            rintro e w9 ⟨rfl, h0⟩
            have X9 := hid (X8.out.trans (h0.mono X8.out.size))
            have A9 := hid ((A8.out.below h0).mono h0.size)
            clear h0 HC X8 A8
            have HC := hid (one_any [] [] (.slice none 0 0) (.slice none 0 0) w9 (rd_nil7 _) (rd_nil7 _))
            rw [decide_eq_true (rfl : ([] : List L.Nd) = [])] at HC
            go_wp2_with fail
            refine (HC.out).mono ?_
            rintro e w10 ⟨rfl, h0⟩
            have X10 := hid (X9.out.trans (h0.mono X9.out.size))
            have A10 := hid ((A9.out.below h0).mono h0.size)
            clear h0 HC X9 A9
            have HC := hid (one_any [] [] (.slice none 0 0) (.slice none 0 0) w10 (rd_nil7 _) (rd_nil7 _))
            rw [decide_eq_true (rfl : ([] : List L.Nd) = [])] at HC
            go_wp2_with fail
            refine (HC.out).mono ?_
            rintro e w11 ⟨rfl, h0⟩
            have X11 := hid (X10.out.trans (h0.mono X10.out.size))
            have A11 := hid ((A10.out.below h0).mono h0.size)
            clear h0 HC X10 A10
            have HC := hid (strings_same [] (.slice none 0 0) (.slice none 0 0) w11 (rds_nil _) (rds_nil _) (by simp))
            go_wp2_with fail
            refine (HC.out).mono ?_
            rintro e w12 ⟨rfl, h0⟩
            have X12 := hid (X11.out.trans (h0.mono X11.out.size))
            have A12 := hid ((A11.out.below h0).mono h0.size)
            clear h0 HC X11 A11
            go_wp2
            go_ret
            exact ⟨rfl, X12.out⟩
      | some FX =>
        have Hfa := hid h_fa
        clear h_fa
        have HC := hid (field_yes GA.out (by omega) s Hfa.out _ _ A3.out)
        go_wp2_with fail
        refine (HC.out).mono ?_
        rintro e w4 ⟨vx, rfl, ox, h0⟩
        obtain ⟨Ax, cx, rfl, hcx, hmx, -⟩ := ox.rd
        unfold maxLen at hmx
        have x4 := hid ox
        clear ox
        have X4 := hid (X3.out.trans (h0.mono X3.out.size))
        have A4 := hid ((A3.out.below h0).mono h0.size)
        clear h0 HC X3 A3
        have HC := hid (reffield_yes GA.out (by omega) s Hfa.out _ _ A4.out)
        go_wp2_with fail
        refine (HC.out).mono ?_
        rintro e w5 ⟨vy, rfl, oy, h0⟩
        obtain ⟨Ay, cy, rfl, hcy, hmy, -⟩ := oy.rd
        unfold maxLen at hmy
        have y5 := hid oy
        clear oy
        have X5 := hid (X4.out.trans (h0.mono X4.out.size))
        have A5 := hid ((A4.out.below h0).mono h0.size)
        have x5 := hid (x4.out.below h0)
        clear h0 HC X4 A4 x4
        by_cases hk0 : (L.hd FA).kind = 0
        · have Hk0 := hid hk0
          clear hk0
          have HC := hid ((tags_any GA.out (by omega) _ _ A5.out).mono fun e w' (h : TagsPost FA _ e w' ∧ _) => (⟨h.1.dyn Hk0.out, h.2⟩ : e = _ ∧ _))
          go_wp2_with fail
          refine (HC.out).mono ?_
          rintro e w6 ⟨rfl, h0⟩
          have X6 := hid (X5.out.trans (h0.mono X5.out.size))
          have A6 := hid ((A5.out.below h0).mono h0.size)
          have x6 := hid (x5.out.below h0)
          have y6 := hid (y5.out.below h0)
          clear h0 HC X5 A5 x5 y5
          have HC := hid ((reftags_any GA.out (by omega) _ _ A6.out).mono fun e w' (h : TagsPost FA _ e w' ∧ _) => (⟨h.1.dyn Hk0.out, h.2⟩ : e = _ ∧ _))
          go_wp2_with fail
          refine (HC.out).mono ?_
          rintro e w7 ⟨rfl, h0⟩
          have X7 := hid (X6.out.trans (h0.mono X6.out.size))
          have A7 := hid ((A6.out.below h0).mono h0.size)
          have x7 := hid (x6.out.below h0)
          have y7 := hid (y6.out.below h0)
          clear h0 HC X6 A6 x6 y6
          have HC := hid (alive_any w7)
          go_wp2_with fail
          refine (HC.out).mono ?_
          rintro e w8 ⟨rfl, h0⟩
          have X8 := hid (X7.out.trans (h0.mono X7.out.size))
          have A8 := hid ((A7.out.below h0).mono h0.size)
          have x8 := hid (x7.out.below h0)
          have y8 := hid (y7.out.below h0)
          clear h0 HC X7 A7 x7 y7
          have HC := hid (one_any [] [] (.slice none 0 0) (.slice none 0 0) w8 (rd_nil7 _) (rd_nil7 _))
          rw [decide_eq_true (rfl : ([] : List L.Nd) = [])] at HC
          go_wp2_with fail
          refine (HC.out).mono ?_
          rintro e w9 ⟨rfl, h0⟩
          have X9 := hid (X8.out.trans (h0.mono X8.out.size))
          have A9 := hid ((A8.out.below h0).mono h0.size)
          have x9 := hid (x8.out.below h0)
          have y9 := hid (y8.out.below h0)
          clear h0 HC X8 A8 x8 y8
          have HC := hid (one_any [] [] (.slice none 0 0) (.slice none 0 0) w9 (rd_nil7 _) (rd_nil7 _))
          rw [decide_eq_true (rfl : ([] : List L.Nd) = [])] at HC
          go_wp2_with fail
          refine (HC.out).mono ?_
          rintro e w10 ⟨rfl, h0⟩
          have X10 := hid (X9.out.trans (h0.mono X9.out.size))
          have A10 := hid ((A9.out.below h0).mono h0.size)
          have x10 := hid (x9.out.below h0)
          have y10 := hid (y9.out.below h0)
          clear h0 HC X9 A9 x9 y9
          have HC := hid (one_any FX.flat FX.flat _ _ _ x10.out.rd y10.out.rd)
          rw [decide_eq_true (rfl : FX.flat = FX.flat)] at HC
          go_wp2_with fail
          refine (HC.out).mono ?_
          rintro e w11 ⟨rfl, h0⟩
          have X11 := hid (X10.out.trans (h0.mono X10.out.size))
          have A11 := hid ((A10.out.below h0).mono h0.size)
          have x11 := hid (x10.out.below h0)
          have y11 := hid (y10.out.below h0)
          clear h0 HC X10 A10 x10 y10
          have HC := hid (strings_same [] (.slice none 0 0) (.slice none 0 0) w11 (rds_nil _) (rds_nil _) (by simp))
          go_wp2_with fail
          refine (HC.out).mono ?_
          rintro e w12 ⟨rfl, h0⟩
          have X12 := hid (X11.out.trans (h0.mono X11.out.size))
          have A12 := hid ((A11.out.below h0).mono h0.size)
          have x12 := hid (x11.out.below h0)
          have y12 := hid (y11.out.below h0)
          clear h0 HC X11 A11 x11 y11
          go_wp2
          go_ret
          exact ⟨rfl, X12.out⟩
        · have Hk0 := hid hk0
          clear hk0
          by_cases hk7 : (L.hd FA).kind = 7
          · have Hk7 := hid hk7
            clear hk7
            have HC := hid ((tags_any GA.out (by omega) _ _ A5.out).mono fun e w' (h : TagsPost FA _ e w' ∧ _) => (⟨h.1.yes Hk7.out, h.2⟩ : (∃ v, e = .returned (.tuple #[v, .int .i64 0]) ∧ OwnS _ v (tagsL FA) w') ∧ _))
            go_wp2_with fail
            refine (HC.out).mono ?_
            rintro e w6 ⟨⟨vl, rfl, ol⟩, h0⟩
            obtain ⟨Al, cl, rfl⟩ := ol.val
            have l6 := hid ol
            clear ol
            have X6 := hid (X5.out.trans (h0.mono X5.out.size))
            have A6 := hid ((A5.out.below h0).mono h0.size)
            have x6 := hid (x5.out.below h0)
            have y6 := hid (y5.out.below h0)
            clear h0 HC X5 A5 x5 y5
            have HC := hid ((reftags_any GA.out (by omega) _ _ A6.out).mono fun e w' (h : TagsPost FA _ e w' ∧ _) => (⟨h.1.yes Hk7.out, h.2⟩ : (∃ v, e = .returned (.tuple #[v, .int .i64 0]) ∧ OwnS _ v (tagsL FA) w') ∧ _))
            go_wp2_with fail
            refine (HC.out).mono ?_
            rintro e w7 ⟨⟨vm, rfl, om⟩, h0⟩
            obtain ⟨Am, cm, rfl⟩ := om.val
            have m7 := hid om
            clear om
            have X7 := hid (X6.out.trans (h0.mono X6.out.size))
            have A7 := hid ((A6.out.below h0).mono h0.size)
            have x7 := hid (x6.out.below h0)
            have y7 := hid (y6.out.below h0)
            have l7 := hid (l6.out.below h0)
            clear h0 HC X6 A6 x6 y6 l6
            have HC := hid (alive_any w7)
            go_wp2_with fail
            refine (HC.out).mono ?_
            rintro e w8 ⟨rfl, h0⟩
            have X8 := hid (X7.out.trans (h0.mono X7.out.size))
            have A8 := hid ((A7.out.below h0).mono h0.size)
            have x8 := hid (x7.out.below h0)
            have y8 := hid (y7.out.below h0)
            have l8 := hid (l7.out.below h0)
            have m8 := hid (m7.out.below h0)
            clear h0 HC X7 A7 x7 y7 l7 m7
            have HC := hid (one_any [] [] (.slice none 0 0) (.slice none 0 0) w8 (rd_nil7 _) (rd_nil7 _))
            rw [decide_eq_true (rfl : ([] : List L.Nd) = [])] at HC
            go_wp2_with fail
            refine (HC.out).mono ?_
            rintro e w9 ⟨rfl, h0⟩
            have X9 := hid (X8.out.trans (h0.mono X8.out.size))
            have A9 := hid ((A8.out.below h0).mono h0.size)
            have x9 := hid (x8.out.below h0)
            have y9 := hid (y8.out.below h0)
            have l9 := hid (l8.out.below h0)
            have m9 := hid (m8.out.below h0)
            clear h0 HC X8 A8 x8 y8 l8 m8
            have HC := hid (one_any [] [] (.slice none 0 0) (.slice none 0 0) w9 (rd_nil7 _) (rd_nil7 _))
            rw [decide_eq_true (rfl : ([] : List L.Nd) = [])] at HC
            go_wp2_with fail
            refine (HC.out).mono ?_
            rintro e w10 ⟨rfl, h0⟩
            have X10 := hid (X9.out.trans (h0.mono X9.out.size))
            have A10 := hid ((A9.out.below h0).mono h0.size)
            have x10 := hid (x9.out.below h0)
            have y10 := hid (y9.out.below h0)
            have l10 := hid (l9.out.below h0)
            have m10 := hid (m9.out.below h0)
            clear h0 HC X9 A9 x9 y9 l9 m9
            have HC := hid (one_any FX.flat FX.flat _ _ _ x10.out.rd y10.out.rd)
            rw [decide_eq_true (rfl : FX.flat = FX.flat)] at HC
            go_wp2_with fail
            refine (HC.out).mono ?_
            rintro e w11 ⟨rfl, h0⟩
            have X11 := hid (X10.out.trans (h0.mono X10.out.size))
            have A11 := hid ((A10.out.below h0).mono h0.size)
            have x11 := hid (x10.out.below h0)
            have y11 := hid (y10.out.below h0)
            have l11 := hid (l10.out.below h0)
            have m11 := hid (m10.out.below h0)
            clear h0 HC X10 A10 x10 y10 l10 m10
            have HC := hid (strings_same (tagsL FA) _ _ _ l11.out.rd m11.out.rd (tags_len GA.out))
            go_wp2_with fail
            refine (HC.out).mono ?_
            rintro e w12 ⟨rfl, h0⟩
            have X12 := hid (X11.out.trans (h0.mono X11.out.size))
            have A12 := hid ((A11.out.below h0).mono h0.size)
            have x12 := hid (x11.out.below h0)
            have y12 := hid (y11.out.below h0)
            have l12 := hid (l11.out.below h0)
            have m12 := hid (m11.out.below h0)
            clear h0 HC X11 A11 x11 y11 l11 m11
            go_wp2
            go_ret
            exact ⟨rfl, X12.out⟩
          · have Hk7 := hid hk7
            clear hk7
            have HC := hid ((tags_any GA.out (by omega) _ _ A5.out).mono fun e w' (h : TagsPost FA _ e w' ∧ _) => (⟨h.1.no Hk0.out Hk7.out, h.2⟩ : e = _ ∧ _))
            go_wp2_with fail
            refine (HC.out).mono ?_
            rintro e w6 ⟨rfl, h0⟩
            have X6 := hid (X5.out.trans (h0.mono X5.out.size))
            have A6 := hid ((A5.out.below h0).mono h0.size)
            have x6 := hid (x5.out.below h0)
            have y6 := hid (y5.out.below h0)
            clear h0 HC X5 A5 x5 y5
            have HC := hid ((reftags_any GA.out (by omega) _ _ A6.out).mono fun e w' (h : TagsPost FA _ e w' ∧ _) => (⟨h.1.no Hk0.out Hk7.out, h.2⟩ : e = _ ∧ _))
            go_wp2_with fail
            refine (HC.out).mono ?_
            rintro e w7 ⟨rfl, h0⟩
            have X7 := hid (X6.out.trans (h0.mono X6.out.size))
            have A7 := hid ((A6.out.below h0).mono h0.size)
            have x7 := hid (x6.out.below h0)
            have y7 := hid (y6.out.below h0)
            clear h0 HC X6 A6 x6 y6
            have HC := hid (alive_any w7)
            go_wp2_with fail
            refine (HC.out).mono ?_
            rintro e w8 ⟨rfl, h0⟩
            have X8 := hid (X7.out.trans (h0.mono X7.out.size))
            have A8 := hid ((A7.out.below h0).mono h0.size)
            have x8 := hid (x7.out.below h0)
            have y8 := hid (y7.out.below h0)
            clear h0 HC X7 A7 x7 y7
            have HC := hid (one_any [] [] (.slice none 0 0) (.slice none 0 0) w8 (rd_nil7 _) (rd_nil7 _))
            rw [decide_eq_true (rfl : ([] : List L.Nd) = [])] at HC
            go_wp2_with fail
            refine (HC.out).mono ?_
            rintro e w9 ⟨rfl, h0⟩
            have X9 := hid (X8.out.trans (h0.mono X8.out.size))
            have A9 := hid ((A8.out.below h0).mono h0.size)
            have x9 := hid (x8.out.below h0)
            have y9 := hid (y8.out.below h0)
            clear h0 HC X8 A8 x8 y8
            have HC := hid (one_any [] [] (.slice none 0 0) (.slice none 0 0) w9 (rd_nil7 _) (rd_nil7 _))
            rw [decide_eq_true (rfl : ([] : List L.Nd) = [])] at HC
            go_wp2_with fail
            refine (HC.out).mono ?_
            rintro e w10 ⟨rfl, h0⟩
            have X10 := hid (X9.out.trans (h0.mono X9.out.size))
            have A10 := hid ((A9.out.below h0).mono h0.size)
            have x10 := hid (x9.out.below h0)
            have y10 := hid (y9.out.below h0)
            clear h0 HC X9 A9 x9 y9
            have HC := hid (one_any FX.flat FX.flat _ _ _ x10.out.rd y10.out.rd)
            rw [decide_eq_true (rfl : FX.flat = FX.flat)] at HC
            go_wp2_with fail
            refine (HC.out).mono ?_
            rintro e w11 ⟨rfl, h0⟩
            have X11 := hid (X10.out.trans (h0.mono X10.out.size))
            have A11 := hid ((A10.out.below h0).mono h0.size)
            have x11 := hid (x10.out.below h0)
            have y11 := hid (y10.out.below h0)
            clear h0 HC X10 A10 x10 y10
            have HC := hid (strings_same [] (.slice none 0 0) (.slice none 0 0) w11 (rds_nil _) (rds_nil _) (by simp))
            go_wp2_with fail
            refine (HC.out).mono ?_
            rintro e w12 ⟨rfl, h0⟩
            have X12 := hid (X11.out.trans (h0.mono X11.out.size))
            have A12 := hid ((A11.out.below h0).mono h0.size)
            have x12 := hid (x11.out.below h0)
            have y12 := hid (y11.out.below h0)
            clear h0 HC X11 A11 x11 y11
            go_wp2
            go_ret
            exact ⟨rfl, X12.out⟩
    | some pq =>
      have Hca := hid h_ca
      clear h_ca
      obtain ⟨FP, FQ⟩ := pq
      have HC := hid (call_yes GA.out (by omega) Hca.out _ _ A1.out)
      go_wp2_with fail
      refine (HC.out).mono ?_
      rintro e w2 ⟨va, vb, rfl, oa, ob, h0⟩
      obtain ⟨Aa, ca, rfl, hca, hma, -⟩ := oa.rd
      unfold maxLen at hma
      obtain ⟨Ab, cb, rfl, hcb, hmb, -⟩ := ob.rd
      unfold maxLen at hmb
      have a2 := hid oa
      have b2 := hid ob
      clear oa ob
      have X2 := hid (X1.out.trans (h0.mono X1.out.size))
      have A2 := hid ((A1.out.below h0).mono h0.size)
      clear h0 HC X1 A1
      have HC := hid (refcall_yes GA.out (by omega) Hca.out _ _ A2.out)
      go_wp2_with fail
      refine (HC.out).mono ?_
      rintro e w3 ⟨vc, vd, rfl, oc, od, h0⟩
      obtain ⟨Ac, cc, rfl, hcc, hmc, -⟩ := oc.rd
      unfold maxLen at hmc
      obtain ⟨Ad, cd, rfl, hcd, hmd, -⟩ := od.rd
      unfold maxLen at hmd
      have c3 := hid oc
      have d3 := hid od
      clear oc od
      have X3 := hid (X2.out.trans (h0.mono X2.out.size))
      have A3 := hid ((A2.out.below h0).mono h0.size)
      have a3 := hid (a2.out.below h0)
      have b3 := hid (b2.out.below h0)
      clear h0 HC X2 A2 a2 b2
      cases h_fa : L.fieldF s FA with
      | none =>
        have Hfa := hid h_fa
        clear h_fa
        have HC := hid (field_no GA.out (by omega) s Hfa.out _ _ A3.out)
        go_wp2_with fail
        refine (HC.out).mono ?_
        rintro e w4 ⟨rfl, h0⟩
        have X4 := hid (X3.out.trans (h0.mono X3.out.size))
        have A4 := hid ((A3.out.below h0).mono h0.size)
        have a4 := hid (a3.out.below h0)
        have b4 := hid (b3.out.below h0)
        have c4 := hid (c3.out.below h0)
        have d4 := hid (d3.out.below h0)
        clear h0 HC X3 A3 a3 b3 c3 d3
        have HC := hid (reffield_no GA.out (by omega) s Hfa.out _ _ A4.out)
        go_wp2_with fail
        refine (HC.out).mono ?_
        rintro e w5 ⟨rfl, h0⟩
        have X5 := hid (X4.out.trans (h0.mono X4.out.size))
        have A5 := hid ((A4.out.below h0).mono h0.size)
        have a5 := hid (a4.out.below h0)
        have b5 := hid (b4.out.below h0)
        have c5 := hid (c4.out.below h0)
        have d5 := hid (d4.out.below h0)
        clear h0 HC X4 A4 a4 b4 c4 d4
        by_cases hk0 : (L.hd FA).kind = 0
        · have Hk0 := hid hk0
          clear hk0
          have HC := hid ((tags_any GA.out (by omega) _ _ A5.out).mono fun e w' (h : TagsPost FA _ e w' ∧ _) => (⟨h.1.dyn Hk0.out, h.2⟩ : e = _ ∧ _))
          go_wp2_with fail
          refine (HC.out).mono ?_
          rintro e w6 ⟨rfl, h0⟩
          have X6 := hid (X5.out.trans (h0.mono X5.out.size))
          have A6 := hid ((A5.out.below h0).mono h0.size)
          have a6 := hid (a5.out.below h0)
          have b6 := hid (b5.out.below h0)
          have c6 := hid (c5.out.below h0)
          have d6 := hid (d5.out.below h0)
          clear h0 HC X5 A5 a5 b5 c5 d5
          have HC := hid ((reftags_any GA.out (by omega) _ _ A6.out).mono fun e w' (h : TagsPost FA _ e w' ∧ _) => (⟨h.1.dyn Hk0.out, h.2⟩ : e = _ ∧ _))
          go_wp2_with fail
          refine (HC.out).mono ?_
          rintro e w7 ⟨rfl, h0⟩
          have X7 := hid (X6.out.trans (h0.mono X6.out.size))
          have A7 := hid ((A6.out.below h0).mono h0.size)
          have a7 := hid (a6.out.below h0)
          have b7 := hid (b6.out.below h0)
          have c7 := hid (c6.out.below h0)
          have d7 := hid (d6.out.below h0)
          clear h0 HC X6 A6 a6 b6 c6 d6
          have HC := hid (alive_any w7)
          go_wp2_with fail
          refine (HC.out).mono ?_
          rintro e w8 ⟨rfl, h0⟩
          have X8 := hid (X7.out.trans (h0.mono X7.out.size))
          have A8 := hid ((A7.out.below h0).mono h0.size)
          have a8 := hid (a7.out.below h0)
          have b8 := hid (b7.out.below h0)
          have c8 := hid (c7.out.below h0)
          have d8 := hid (d7.out.below h0)
          clear h0 HC X7 A7 a7 b7 c7 d7
          have HC := hid (one_any FP.flat FP.flat _ _ _ a8.out.rd c8.out.rd)
          rw [decide_eq_true (rfl : FP.flat = FP.flat)] at HC
          go_wp2_with fail
          refine (HC.out).mono ?_
          rintro e w9 ⟨rfl, h0⟩
          have X9 := hid (X8.out.trans (h0.mono X8.out.size))
          have A9 := hid ((A8.out.below h0).mono h0.size)
          have a9 := hid (a8.out.below h0)
          have b9 := hid (b8.out.below h0)
          have c9 := hid (c8.out.below h0)
          have d9 := hid (d8.out.below h0)
          clear h0 HC X8 A8 a8 b8 c8 d8
          have HC := hid (one_any FQ.flat FQ.flat _ _ _ b9.out.rd d9.out.rd)
          rw [decide_eq_true (rfl : FQ.flat = FQ.flat)] at HC
          go_wp2_with fail
          refine (HC.out).mono ?_
          rintro e w10 ⟨rfl, h0⟩
          have X10 := hid (X9.out.trans (h0.mono X9.out.size))
          have A10 := hid ((A9.out.below h0).mono h0.size)
          have a10 := hid (a9.out.below h0)
          have b10 := hid (b9.out.below h0)
          have c10 := hid (c9.out.below h0)
          have d10 := hid (d9.out.below h0)
          clear h0 HC X9 A9 a9 b9 c9 d9
          have HC := hid (one_any [] [] (.slice none 0 0) (.slice none 0 0) w10 (rd_nil7 _) (rd_nil7 _))
          rw [decide_eq_true (rfl : ([] : List L.Nd) = [])] at HC
          go_wp2_with fail
          refine (HC.out).mono ?_
          rintro e w11 ⟨rfl, h0⟩
          have X11 := hid (X10.out.trans (h0.mono X10.out.size))
          have A11 := hid ((A10.out.below h0).mono h0.size)
          have a11 := hid (a10.out.below h0)
          have b11 := hid (b10.out.below h0)
          have c11 := hid (c10.out.below h0)
          have d11 := hid (d10.out.below h0)
          clear h0 HC X10 A10 a10 b10 c10 d10
          have HC := hid (strings_same [] (.slice none 0 0) (.slice none 0 0) w11 (rds_nil _) (rds_nil _) (by simp))
          go_wp2_with fail
          refine (HC.out).mono ?_
          rintro e w12 ⟨rfl, h0⟩
          have X12 := hid (X11.out.trans (h0.mono X11.out.size))
          have A12 := hid ((A11.out.below h0).mono h0.size)
          have a12 := hid (a11.out.below h0)
          have b12 := hid (b11.out.below h0)
          have c12 := hid (c11.out.below h0)
          have d12 := hid (d11.out.below h0)
          clear h0 HC X11 A11 a11 b11 c11 d11
          go_wp2
          go_ret
          exact ⟨rfl, X12.out⟩
        · have Hk0 := hid hk0
          clear hk0
          by_cases hk7 : (L.hd FA).kind = 7
          · have Hk7 := hid hk7
            clear hk7
            have HC := hid ((tags_any GA.out (by omega) _ _ A5.out).mono fun e w' (h : TagsPost FA _ e w' ∧ _) => (⟨h.1.yes Hk7.out, h.2⟩ : (∃ v, e = .returned (.tuple #[v, .int .i64 0]) ∧ OwnS _ v (tagsL FA) w') ∧ _))
            go_wp2_with fail
            refine (HC.out).mono ?_
            rintro e w6 ⟨⟨vl, rfl, ol⟩, h0⟩
            obtain ⟨Al, cl, rfl⟩ := ol.val
            have l6 := hid ol
            clear ol
            have X6 := hid (X5.out.trans (h0.mono X5.out.size))
            have A6 := hid ((A5.out.below h0).mono h0.size)
            have a6 := hid (a5.out.below h0)
            have b6 := hid (b5.out.below h0)
            have c6 := hid (c5.out.below h0)
            have d6 := hid (d5.out.below h0)
            clear h0 HC X5 A5 a5 b5 c5 d5
            have HC := hid ((reftags_any GA.out (by omega) _ _ A6.out).mono fun e w' (h : TagsPost FA _ e w' ∧ _) => (⟨h.1.yes Hk7.out, h.2⟩ : (∃ v, e = .returned (.tuple #[v, .int .i64 0]) ∧ OwnS _ v (tagsL FA) w') ∧ _))
            go_wp2_with fail
            refine (HC.out).mono ?_
            rintro e w7 ⟨⟨vm, rfl, om⟩, h0⟩
            obtain ⟨Am, cm, rfl⟩ := om.val
            have m7 := hid om
            clear om
            have X7 := hid (X6.out.trans (h0.mono X6.out.size))
            have A7 := hid ((A6.out.below h0).mono h0.size)
            have a7 := hid (a6.out.below h0)
            have b7 := hid (b6.out.below h0)
            have c7 := hid (c6.out.below h0)
            have d7 := hid (d6.out.below h0)
            have l7 := hid (l6.out.below h0)
            clear h0 HC X6 A6 a6 b6 c6 d6 l6
            have HC := hid (alive_any w7)
            go_wp2_with fail
            refine (HC.out).mono ?_
            rintro e w8 ⟨rfl, h0⟩
            have X8 := hid (X7.out.trans (h0.mono X7.out.size))
            have A8 := hid ((A7.out.below h0).mono h0.size)
            have a8 := hid (a7.out.below h0)
            have b8 := hid (b7.out.below h0)
            have c8 := hid (c7.out.below h0)
            have d8 := hid (d7.out.below h0)
            have l8 := hid (l7.out.below h0)
            have m8 := hid (m7.out.below h0)
            clear h0 HC X7 A7 a7 b7 c7 d7 l7 m7
            have HC := hid (one_any FP.flat FP.flat _ _ _ a8.out.rd c8.out.rd)
            rw [decide_eq_true (rfl : FP.flat = FP.flat)] at HC
            go_wp2_with fail
            refine (HC.out).mono ?_
            rintro e w9 ⟨rfl, h0⟩
            have X9 := hid (X8.out.trans (h0.mono X8.out.size))
            have A9 := hid ((A8.out.below h0).mono h0.size)
            have a9 := hid (a8.out.below h0)
            have b9 := hid (b8.out.below h0)
            have c9 := hid (c8.out.below h0)
            have d9 := hid (d8.out.below h0)
            have l9 := hid (l8.out.below h0)
            have m9 := hid (m8.out.below h0)
            clear h0 HC X8 A8 a8 b8 c8 d8 l8 m8
            have HC := hid (one_any FQ.flat FQ.flat _ _ _ b9.out.rd d9.out.rd)
            rw [decide_eq_true (rfl : FQ.flat = FQ.flat)] at HC
            go_wp2_with fail
            refine (HC.out).mono ?_
            rintro e w10 ⟨rfl, h0⟩
            have X10 := hid (X9.out.trans (h0.mono X9.out.size))
            have A10 := hid ((A9.out.below h0).mono h0.size)
            have a10 := hid (a9.out.below h0)
            have b10 := hid (b9.out.below h0)
            have c10 := hid (c9.out.below h0)
            have d10 := hid (d9.out.below h0)
            have l10 := hid (l9.out.below h0)
            have m10 := hid (m9.out.below h0)
            clear h0 HC X9 A9 a9 b9 c9 d9 l9 m9
            have HC := hid (one_any [] [] (.slice none 0 0) (.slice none 0 0) w10 (rd_nil7 _) (rd_nil7 _))
            rw [decide_eq_true (rfl : ([] : List L.Nd) = [])] at HC
            go_wp2_with fail
            refine (HC.out).mono ?_
            rintro e w11 ⟨rfl, h0⟩
            have X11 := hid (X10.out.trans (h0.mono X10.out.size))
            have A11 := hid ((A10.out.below h0).mono h0.size)
            have a11 := hid (a10.out.below h0)
            have b11 := hid (b10.out.below h0)
            have c11 := hid (c10.out.below h0)
            have d11 := hid (d10.out.below h0)
            have l11 := hid (l10.out.below h0)
            have m11 := hid (m10.out.below h0)
            clear h0 HC X10 A10 a10 b10 c10 d10 l10 m10
            have HC := hid (strings_same (tagsL FA) _ _ _ l11.out.rd m11.out.rd (tags_len GA.out))
            go_wp2_with fail
            refine (HC.out).mono ?_
            rintro e w12 ⟨rfl, h0⟩
            have X12 := hid (X11.out.trans (h0.mono X11.out.size))
            have A12 := hid ((A11.out.below h0).mono h0.size)
            have a12 := hid (a11.out.below h0)
            have b12 := hid (b11.out.below h0)
            have c12 := hid (c11.out.below h0)
            have d12 := hid (d11.out.below h0)
            have l12 := hid (l11.out.below h0)
            have m12 := hid (m11.out.below h0)
            clear h0 HC X11 A11 a11 b11 c11 d11 l11 m11
            go_wp2
            go_ret
            exact ⟨rfl, X12.out⟩
          · have Hk7 := hid hk7
            clear hk7
            have HC := hid ((tags_any GA.out (by omega) _ _ A5.out).mono fun e w' (h : TagsPost FA _ e w' ∧ _) => (⟨h.1.no Hk0.out Hk7.out, h.2⟩ : e = _ ∧ _))
            go_wp2_with fail
            refine (HC.out).mono ?_
            rintro e w6 ⟨rfl, h0⟩
            have X6 := hid (X5.out.trans (h0.mono X5.out.size))
            have A6 := hid ((A5.out.below h0).mono h0.size)
            have a6 := hid (a5.out.below h0)
            have b6 := hid (b5.out.below h0)
            have c6 := hid (c5.out.below h0)
            have d6 := hid (d5.out.below h0)
            clear h0 HC X5 A5 a5 b5 c5 d5
            have HC := hid ((reftags_any GA.out (by omega) _ _ A6.out).mono fun e w' (h : TagsPost FA _ e w' ∧ _) => (⟨h.1.no Hk0.out Hk7.out, h.2⟩ : e = _ ∧ _))
            go_wp2_with fail
            refine (HC.out).mono ?_
            rintro e w7 ⟨rfl, h0⟩
            have X7 := hid (X6.out.trans (h0.mono X6.out.size))
            have A7 := hid ((A6.out.below h0).mono h0.size)
            have a7 := hid (a6.out.below h0)
            have b7 := hid (b6.out.below h0)
            have c7 := hid (c6.out.below h0)
            have d7 := hid (d6.out.below h0)
            clear h0 HC X6 A6 a6 b6 c6 d6
            have HC := hid (alive_any w7)
            go_wp2_with fail
            refine (HC.out).mono ?_
            rintro e w8 ⟨rfl, h0⟩
            have X8 := hid (X7.out.trans (h0.mono X7.out.size))
            have A8 := hid ((A7.out.below h0).mono h0.size)
            have a8 := hid (a7.out.below h0)
            have b8 := hid (b7.out.below h0)
            have c8 := hid (c7.out.below h0)
            have d8 := hid (d7.out.below h0)
            clear h0 HC X7 A7 a7 b7 c7 d7
            have HC := hid (one_any FP.flat FP.flat _ _ _ a8.out.rd c8.out.rd)
            rw [decide_eq_true (rfl : FP.flat = FP.flat)] at HC
            go_wp2_with fail
            refine (HC.out).mono ?_
            rintro e w9 ⟨rfl, h0⟩
            have X9 := hid (X8.out.trans (h0.mono X8.out.size))
            have A9 := hid ((A8.out.below h0).mono h0.size)
            have a9 := hid (a8.out.below h0)
            have b9 := hid (b8.out.below h0)
            have c9 := hid (c8.out.below h0)
            have d9 := hid (d8.out.below h0)
            clear h0 HC X8 A8 a8 b8 c8 d8
            have HC := hid (one_any FQ.flat FQ.flat _ _ _ b9.out.rd d9.out.rd)
            rw [decide_eq_true (rfl : FQ.flat = FQ.flat)] at HC
            go_wp2_with fail
            refine (HC.out).mono ?_
            rintro e w10 ⟨rfl, h0⟩
            have X10 := hid (X9.out.trans (h0.mono X9.out.size))
            have A10 := hid ((A9.out.below h0).mono h0.size)
            have a10 := hid (a9.out.below h0)
            have b10 := hid (b9.out.below h0)
            have c10 := hid (c9.out.below h0)
            have d10 := hid (d9.out.below h0)
            clear h0 HC X9 A9 a9 b9 c9 d9
            have HC := hid (one_any [] [] (.slice none 0 0) (.slice none 0 0) w10 (rd_nil7 _) (rd_nil7 _))
            rw [decide_eq_true (rfl : ([] : List L.Nd) = [])] at HC
            go_wp2_with fail
            refine (HC.out).mono ?_
            rintro e w11 ⟨rfl, h0⟩
            have X11 := hid (X10.out.trans (h0.mono X10.out.size))
            have A11 := hid ((A10.out.below h0).mono h0.size)
            have a11 := hid (a10.out.below h0)
            have b11 := hid (b10.out.below h0)
            have c11 := hid (c10.out.below h0)
            have d11 := hid (d10.out.below h0)
            clear h0 HC X10 A10 a10 b10 c10 d10
            have HC := hid (strings_same [] (.slice none 0 0) (.slice none 0 0) w11 (rds_nil _) (rds_nil _) (by simp))
            go_wp2_with fail
            refine (HC.out).mono ?_
            rintro e w12 ⟨rfl, h0⟩
            have X12 := hid (X11.out.trans (h0.mono X11.out.size))
            have A12 := hid ((A11.out.below h0).mono h0.size)
            have a12 := hid (a11.out.below h0)
            have b12 := hid (b11.out.below h0)
            have c12 := hid (c11.out.below h0)
            have d12 := hid (d11.out.below h0)
            clear h0 HC X11 A11 a11 b11 c11 d11
            go_wp2
            go_ret
            exact ⟨rfl, X12.out⟩
      | some FX =>
        have Hfa := hid h_fa
        clear h_fa
        have HC := hid (field_yes GA.out (by omega) s Hfa.out _ _ A3.out)
        go_wp2_with fail
        refine (HC.out).mono ?_
        rintro e w4 ⟨vx, rfl, ox, h0⟩
        obtain ⟨Ax, cx, rfl, hcx, hmx, -⟩ := ox.rd
        unfold maxLen at hmx
        have x4 := hid ox
        clear ox
        have X4 := hid (X3.out.trans (h0.mono X3.out.size))
        have A4 := hid ((A3.out.below h0).mono h0.size)
        have a4 := hid (a3.out.below h0)
        have b4 := hid (b3.out.below h0)
        have c4 := hid (c3.out.below h0)
        have d4 := hid (d3.out.below h0)
        clear h0 HC X3 A3 a3 b3 c3 d3
        have HC := hid (reffield_yes GA.out (by omega) s Hfa.out _ _ A4.out)
        go_wp2_with fail
        refine (HC.out).mono ?_
        rintro e w5 ⟨vy, rfl, oy, h0⟩
        obtain ⟨Ay, cy, rfl, hcy, hmy, -⟩ := oy.rd
        unfold maxLen at hmy
        have y5 := hid oy
        clear oy
        have X5 := hid (X4.out.trans (h0.mono X4.out.size))
        have A5 := hid ((A4.out.below h0).mono h0.size)
        have a5 := hid (a4.out.below h0)
        have b5 := hid (b4.out.below h0)
        have c5 := hid (c4.out.below h0)
        have d5 := hid (d4.out.below h0)
        have x5 := hid (x4.out.below h0)
        clear h0 HC X4 A4 a4 b4 c4 d4 x4
        by_cases hk0 : (L.hd FA).kind = 0
        · have Hk0 := hid hk0
          clear hk0
          have HC := hid ((tags_any GA.out (by omega) _ _ A5.out).mono fun e w' (h : TagsPost FA _ e w' ∧ _) => (⟨h.1.dyn Hk0.out, h.2⟩ : e = _ ∧ _))
          go_wp2_with fail
          refine (HC.out).mono ?_
          rintro e w6 ⟨rfl, h0⟩
          have X6 := hid (X5.out.trans (h0.mono X5.out.size))
          have A6 := hid ((A5.out.below h0).mono h0.size)
          have a6 := hid (a5.out.below h0)
          have b6 := hid (b5.out.below h0)
          have c6 := hid (c5.out.below h0)
          have d6 := hid (d5.out.below h0)
          have x6 := hid (x5.out.below h0)
          have y6 := hid (y5.out.below h0)
          clear h0 HC X5 A5 a5 b5 c5 d5 x5 y5
          have HC := hid ((reftags_any GA.out (by omega) _ _ A6.out).mono fun e w' (h : TagsPost FA _ e w' ∧ _) => (⟨h.1.dyn Hk0.out, h.2⟩ : e = _ ∧ _))
          go_wp2_with fail
          refine (HC.out).mono ?_
          rintro e w7 ⟨rfl, h0⟩
          have X7 := hid (X6.out.trans (h0.mono X6.out.size))
          have A7 := hid ((A6.out.below h0).mono h0.size)
          have a7 := hid (a6.out.below h0)
          have b7 := hid (b6.out.below h0)
          have c7 := hid (c6.out.below h0)
          have d7 := hid (d6.out.below h0)
          have x7 := hid (x6.out.below h0)
          have y7 := hid (y6.out.below h0)
          clear h0 HC X6 A6 a6 b6 c6 d6 x6 y6
          have HC := hid (alive_any w7)
          go_wp2_with fail
          refine (HC.out).mono ?_
          rintro e w8 ⟨rfl, h0⟩
          have X8 := hid (X7.out.trans (h0.mono X7.out.size))
          have A8 := hid ((A7.out.below h0).mono h0.size)
          have a8 := hid (a7.out.below h0)
          have b8 := hid (b7.out.below h0)
          have c8 := hid (c7.out.below h0)
          have d8 := hid (d7.out.below h0)
          have x8 := hid (x7.out.below h0)
          have y8 := hid (y7.out.below h0)
          clear h0 HC X7 A7 a7 b7 c7 d7 x7 y7
          have HC := hid (one_any FP.flat FP.flat _ _ _ a8.out.rd c8.out.rd)
          rw [decide_eq_true (rfl : FP.flat = FP.flat)] at HC
          go_wp2_with fail
          refine (HC.out).mono ?_
          rintro e w9 ⟨rfl, h0⟩
          have X9 := hid (X8.out.trans (h0.mono X8.out.size))
          have A9 := hid ((A8.out.below h0).mono h0.size)
          have a9 := hid (a8.out.below h0)
          have b9 := hid (b8.out.below h0)
          have c9 := hid (c8.out.below h0)
          have d9 := hid (d8.out.below h0)
          have x9 := hid (x8.out.below h0)
          have y9 := hid (y8.out.below h0)
          clear h0 HC X8 A8 a8 b8 c8 d8 x8 y8
          have HC := hid (one_any FQ.flat FQ.flat _ _ _ b9.out.rd d9.out.rd)
          rw [decide_eq_true (rfl : FQ.flat = FQ.flat)] at HC
          go_wp2_with fail
          refine (HC.out).mono ?_
          rintro e w10 ⟨rfl, h0⟩
          have X10 := hid (X9.out.trans (h0.mono X9.out.size))
          have A10 := hid ((A9.out.below h0).mono h0.size)
          have a10 := hid (a9.out.below h0)
          have b10 := hid (b9.out.below h0)
          have c10 := hid (c9.out.below h0)
          have d10 := hid (d9.out.below h0)
          have x10 := hid (x9.out.below h0)
          have y10 := hid (y9.out.below h0)
          clear h0 HC X9 A9 a9 b9 c9 d9 x9 y9
          have HC := hid (one_any FX.flat FX.flat _ _ _ x10.out.rd y10.out.rd)
          rw [decide_eq_true (rfl : FX.flat = FX.flat)] at HC
          go_wp2_with fail
          refine (HC.out).mono ?_
          rintro e w11 ⟨rfl, h0⟩
          have X11 := hid (X10.out.trans (h0.mono X10.out.size))
          have A11 := hid ((A10.out.below h0).mono h0.size)
          have a11 := hid (a10.out.below h0)
          have b11 := hid (b10.out.below h0)
          have c11 := hid (c10.out.below h0)
          have d11 := hid (d10.out.below h0)
          have x11 := hid (x10.out.below h0)
          have y11 := hid (y10.out.below h0)
          clear h0 HC X10 A10 a10 b10 c10 d10 x10 y10
          have HC := hid (strings_same [] (.slice none 0 0) (.slice none 0 0) w11 (rds_nil _) (rds_nil _) (by simp))
          go_wp2_with fail
          refine (HC.out).mono ?_
          rintro e w12 ⟨rfl, h0⟩
          have X12 := hid (X11.out.trans (h0.mono X11.out.size))
          have A12 := hid ((A11.out.below h0).mono h0.size)
          have a12 := hid (a11.out.below h0)
          have b12 := hid (b11.out.below h0)
          have c12 := hid (c11.out.below h0)
          have d12 := hid (d11.out.below h0)
          have x12 := hid (x11.out.below h0)
          have y12 := hid (y11.out.below h0)
          clear h0 HC X11 A11 a11 b11 c11 d11 x11 y11
          go_wp2
          go_ret
          exact ⟨rfl, X12.out⟩
        · have Hk0 := hid hk0
          clear hk0
          by_cases hk7 : (L.hd FA).kind = 7
          · have Hk7 := hid hk7
            clear hk7
            have HC := hid ((tags_any GA.out (by omega) _ _ A5.out).mono fun e w' (h : TagsPost FA _ e w' ∧ _) => (⟨h.1.yes Hk7.out, h.2⟩ : (∃ v, e = .returned (.tuple #[v, .int .i64 0]) ∧ OwnS _ v (tagsL FA) w') ∧ _))
            go_wp2_with fail
            refine (HC.out).mono ?_
            rintro e w6 ⟨⟨vl, rfl, ol⟩, h0⟩
            obtain ⟨Al, cl, rfl⟩ := ol.val
            have l6 := hid ol
            clear ol
            have X6 := hid (X5.out.trans (h0.mono X5.out.size))
            have A6 := hid ((A5.out.below h0).mono h0.size)
            have a6 := hid (a5.out.below h0)
            have b6 := hid (b5.out.below h0)
            have c6 := hid (c5.out.below h0)
            have d6 := hid (d5.out.below h0)
            have x6 := hid (x5.out.below h0)
            have y6 := hid (y5.out.below h0)
            clear h0 HC X5 A5 a5 b5 c5 d5 x5 y5
            have HC := hid ((reftags_any GA.out (by omega) _ _ A6.out).mono fun e w' (h : TagsPost FA _ e w' ∧ _) => (⟨h.1.yes Hk7.out, h.2⟩ : (∃ v, e = .returned (.tuple #[v, .int .i64 0]) ∧ OwnS _ v (tagsL FA) w') ∧ _))
            go_wp2_with fail
            refine (HC.out).mono ?_
            rintro e w7 ⟨⟨vm, rfl, om⟩, h0⟩
            obtain ⟨Am, cm, rfl⟩ := om.val
            have m7 := hid om
            clear om
            have X7 := hid (X6.out.trans (h0.mono X6.out.size))
            have A7 := hid ((A6.out.below h0).mono h0.size)
            have a7 := hid (a6.out.below h0)
            have b7 := hid (b6.out.below h0)
            have c7 := hid (c6.out.below h0)
            have d7 := hid (d6.out.below h0)
            have x7 := hid (x6.out.below h0)
            have y7 := hid (y6.out.below h0)
            have l7 := hid (l6.out.below h0)
            clear h0 HC X6 A6 a6 b6 c6 d6 x6 y6 l6
            have HC := hid (alive_any w7)
            go_wp2_with fail
            refine (HC.out).mono ?_
            rintro e w8 ⟨rfl, h0⟩
            have X8 := hid (X7.out.trans (h0.mono X7.out.size))
            have A8 := hid ((A7.out.below h0).mono h0.size)
            have a8 := hid (a7.out.below h0)
            have b8 := hid (b7.out.below h0)
            have c8 := hid (c7.out.below h0)
            have d8 := hid (d7.out.below h0)
            have x8 := hid (x7.out.below h0)
            have y8 := hid (y7.out.below h0)
            have l8 := hid (l7.out.below h0)
            have m8 := hid (m7.out.below h0)
            clear h0 HC X7 A7 a7 b7 c7 d7 x7 y7 l7 m7
            have HC := hid (one_any FP.flat FP.flat _ _ _ a8.out.rd c8.out.rd)
            rw [decide_eq_true (rfl : FP.flat = FP.flat)] at HC
            go_wp2_with fail
            refine (HC.out).mono ?_
            rintro e w9 ⟨rfl, h0⟩
            have X9 := hid (X8.out.trans (h0.mono X8.out.size))
            have A9 := hid ((A8.out.below h0).mono h0.size)
            have a9 := hid (a8.out.below h0)
            have b9 := hid (b8.out.below h0)
            have c9 := hid (c8.out.below h0)
            have d9 := hid (d8.out.below h0)
            have x9 := hid (x8.out.below h0)
            have y9 := hid (y8.out.below h0)
            have l9 := hid (l8.out.below h0)
            have m9 := hid (m8.out.below h0)
            clear h0 HC X8 A8 a8 b8 c8 d8 x8 y8 l8 m8
            have HC := hid (one_any FQ.flat FQ.flat _ _ _ b9.out.rd d9.out.rd)
            rw [decide_eq_true (rfl : FQ.flat = FQ.flat)] at HC
            go_wp2_with fail
            refine (HC.out).mono ?_
            rintro e w10 ⟨rfl, h0⟩
            have X10 := hid (X9.out.trans (h0.mono X9.out.size))
            have A10 := hid ((A9.out.below h0).mono h0.size)
            have a10 := hid (a9.out.below h0)
            have b10 := hid (b9.out.below h0)
            have c10 := hid (c9.out.below h0)
            have d10 := hid (d9.out.below h0)
            have x10 := hid (x9.out.below h0)
            have y10 := hid (y9.out.below h0)
            have l10 := hid (l9.out.below h0)
            have m10 := hid (m9.out.below h0)
            clear h0 HC X9 A9 a9 b9 c9 d9 x9 y9 l9 m9
            have HC := hid (one_any FX.flat FX.flat _ _ _ x10.out.rd y10.out.rd)
            rw [decide_eq_true (rfl : FX.flat = FX.flat)] at HC
            go_wp2_with fail
            refine (HC.out).mono ?_
            rintro e w11 ⟨rfl, h0⟩
            have X11 := hid (X10.out.trans (h0.mono X10.out.size))
            have A11 := hid ((A10.out.below h0).mono h0.size)
            have a11 := hid (a10.out.below h0)
            have b11 := hid (b10.out.below h0)
            have c11 := hid (c10.out.below h0)
            have d11 := hid (d10.out.below h0)
            have x11 := hid (x10.out.below h0)
            have y11 := hid (y10.out.below h0)
            have l11 := hid (l10.out.below h0)
            have m11 := hid (m10.out.below h0)
            clear h0 HC X10 A10 a10 b10 c10 d10 x10 y10 l10 m10
            have HC := hid (strings_same (tagsL FA) _ _ _ l11.out.rd m11.out.rd (tags_len GA.out))
            go_wp2_with fail
            refine (HC.out).mono ?_
            rintro e w12 ⟨rfl, h0⟩
            have X12 := hid (X11.out.trans (h0.mono X11.out.size))
            have A12 := hid ((A11.out.below h0).mono h0.size)
            have a12 := hid (a11.out.below h0)
            have b12 := hid (b11.out.below h0)
            have c12 := hid (c11.out.below h0)
            have d12 := hid (d11.out.below h0)
            have x12 := hid (x11.out.below h0)
            have y12 := hid (y11.out.below h0)
            have l12 := hid (l11.out.below h0)
            have m12 := hid (m11.out.below h0)
            clear h0 HC X11 A11 a11 b11 c11 d11 x11 y11 l11 m11
            go_wp2
            go_ret
            exact ⟨rfl, X12.out⟩
          · have Hk7 := hid hk7
            clear hk7
            have HC := hid ((tags_any GA.out (by omega) _ _ A5.out).mono fun e w' (h : TagsPost FA _ e w' ∧ _) => (⟨h.1.no Hk0.out Hk7.out, h.2⟩ : e = _ ∧ _))
            go_wp2_with fail
            refine (HC.out).mono ?_
            rintro e w6 ⟨rfl, h0⟩
            have X6 := hid (X5.out.trans (h0.mono X5.out.size))
            have A6 := hid ((A5.out.below h0).mono h0.size)
            have a6 := hid (a5.out.below h0)
            have b6 := hid (b5.out.below h0)
            have c6 := hid (c5.out.below h0)
            have d6 := hid (d5.out.below h0)
            have x6 := hid (x5.out.below h0)
            have y6 := hid (y5.out.below h0)
            clear h0 HC X5 A5 a5 b5 c5 d5 x5 y5
            have HC := hid ((reftags_any GA.out (by omega) _ _ A6.out).mono fun e w' (h : TagsPost FA _ e w' ∧ _) => (⟨h.1.no Hk0.out Hk7.out, h.2⟩ : e = _ ∧ _))
            go_wp2_with fail
            refine (HC.out).mono ?_
            rintro e w7 ⟨rfl, h0⟩
            have X7 := hid (X6.out.trans (h0.mono X6.out.size))
            have A7 := hid ((A6.out.below h0).mono h0.size)
            have a7 := hid (a6.out.below h0)
            have b7 := hid (b6.out.below h0)
            have c7 := hid (c6.out.below h0)
            have d7 := hid (d6.out.below h0)
            have x7 := hid (x6.out.below h0)
            have y7 := hid (y6.out.below h0)
            clear h0 HC X6 A6 a6 b6 c6 d6 x6 y6
            have HC := hid (alive_any w7)
            go_wp2_with fail
            refine (HC.out).mono ?_
            rintro e w8 ⟨rfl, h0⟩
            have X8 := hid (X7.out.trans (h0.mono X7.out.size))
            have A8 := hid ((A7.out.below h0).mono h0.size)
            have a8 := hid (a7.out.below h0)
            have b8 := hid (b7.out.below h0)
            have c8 := hid (c7.out.below h0)
            have d8 := hid (d7.out.below h0)
            have x8 := hid (x7.out.below h0)
            have y8 := hid (y7.out.below h0)
            clear h0 HC X7 A7 a7 b7 c7 d7 x7 y7
            have HC := hid (one_any FP.flat FP.flat _ _ _ a8.out.rd c8.out.rd)
            rw [decide_eq_true (rfl : FP.flat = FP.flat)] at HC
            go_wp2_with fail
            refine (HC.out).mono ?_
            rintro e w9 ⟨rfl, h0⟩
            have X9 := hid (X8.out.trans (h0.mono X8.out.size))
            have A9 := hid ((A8.out.below h0).mono h0.size)
            have a9 := hid (a8.out.below h0)
            have b9 := hid (b8.out.below h0)
            have c9 := hid (c8.out.below h0)
            have d9 := hid (d8.out.below h0)
            have x9 := hid (x8.out.below h0)
            have y9 := hid (y8.out.below h0)
            clear h0 HC X8 A8 a8 b8 c8 d8 x8 y8
            have HC := hid (one_any FQ.flat FQ.flat _ _ _ b9.out.rd d9.out.rd)
            rw [decide_eq_true (rfl : FQ.flat = FQ.flat)] at HC
            go_wp2_with fail
            refine (HC.out).mono ?_
            rintro e w10 ⟨rfl, h0⟩
            have X10 := hid (X9.out.trans (h0.mono X9.out.size))
            have A10 := hid ((A9.out.below h0).mono h0.size)
            have a10 := hid (a9.out.below h0)
            have b10 := hid (b9.out.below h0)
            have c10 := hid (c9.out.below h0)
            have d10 := hid (d9.out.below h0)
            have x10 := hid (x9.out.below h0)
            have y10 := hid (y9.out.below h0)
            clear h0 HC X9 A9 a9 b9 c9 d9 x9 y9
            have HC := hid (one_any FX.flat FX.flat _ _ _ x10.out.rd y10.out.rd)
            rw [decide_eq_true (rfl : FX.flat = FX.flat)] at HC
            go_wp2_with fail
            refine (HC.out).mono ?_
            rintro e w11 ⟨rfl, h0⟩
            have X11 := hid (X10.out.trans (h0.mono X10.out.size))
            have A11 := hid ((A10.out.below h0).mono h0.size)
            have a11 := hid (a10.out.below h0)
            have b11 := hid (b10.out.below h0)
            have c11 := hid (c10.out.below h0)
            have d11 := hid (d10.out.below h0)
            have x11 := hid (x10.out.below h0)
            have y11 := hid (y10.out.below h0)
            clear h0 HC X10 A10 a10 b10 c10 d10 x10 y10
            have HC := hid (strings_same [] (.slice none 0 0) (.slice none 0 0) w11 (rds_nil _) (rds_nil _) (by simp))
            go_wp2_with fail
            refine (HC.out).mono ?_
            rintro e w12 ⟨rfl, h0⟩
            have X12 := hid (X11.out.trans (h0.mono X11.out.size))
            have A12 := hid ((A11.out.below h0).mono h0.size)
            have a12 := hid (a11.out.below h0)
            have b12 := hid (b11.out.below h0)
            have c12 := hid (c11.out.below h0)
            have d12 := hid (d11.out.below h0)
            have x12 := hid (x11.out.below h0)
            have y12 := hid (y11.out.below h0)
            clear h0 HC X11 A11 a11 b11 c11 d11 x11 y11
            go_wp2
            go_ret
            exact ⟨rfl, X12.out⟩

set_option maxRecDepth 100000 in
theorem precLooks_lifted (os : Os) (started : os.Started) (H : Type) (enc : TypeId × Value → H) :
    ReturnsInHanded {} Try.checked os 4 .any (Rows.precLooksSpec.pre6 enc Try.prog Try.f4 Rows.precLooksRow.domain false) (Rows.precLooksSpec.post enc Try.prog Try.f4 false true false false) := by
  refine returnsInHanded_of_change (C := Try.checked) own started (by kernel_rfl) Try.func4
    (ChangeSpec.witness6 (enc := enc) (C := Try.checked) false ⟨#[], #[.slice none 0 0, .string ⟨#[]⟩], []⟩ 8 (by kernel_rfl) (by kernel_rfl) (by kernel_rfl) (by kernel_rfl)) ?_
  intro W base args ds gs before hval0 hW hcnd _
  have hlts := hW.lt
  have hval : ∀ (j : Nat) t v, Try.f4.params[j]? = some t → args[j]? = some v → Value.okWide Try.prog W .any base t v := hval0
  have hW' := hW
  obtain ⟨p, q, hA0, hV, rfl, hfz, hnd⟩ := hW
  have hA : DataW.TrodAll enc Try.prog W 0 (fun _ => true) true Try.f4.params.toList args.toList ds p := hA0
  rw [Try.params4] at hA hval
  obtain ⟨v0, vs0, d0, ds0, p0, q0, hargs0, rfl, rfl, h0, r0⟩ := trodAll_cons hA
  obtain ⟨v1, vs1, d1, ds1, p1, q1, hargs1, rfl, rfl, h1, r1⟩ := trodAll_cons r0
  obtain ⟨hn, rfl, rfl⟩ := trodAll_nil r1
  obtain rfl : args = #[v0, v1] := by cases args; simp_all
  obtain ⟨rfl, rfl⟩ := trodVars_none hV
  obtain ⟨sa0, sl0, sc0, hsv0⟩ := okWide_slice Try.underlying23 (hval 0 23 v0 rfl rfl)
  obtain ⟨fuel0, hf0⟩ := h0
  obtain ⟨u0, l0, hu0, hR0, hn0⟩ := rd_of_trod hf0
  obtain rfl : v0 = u0 := by
    rw [hsv0] at hu0
    rw [hsv0]
    simpa [Value.cells] using hu0
  obtain ⟨a1, rfl, rfl, rfl, w1⟩ := open_string Try.underlying9 (hval 1 9 v1 rfl rfl) h1
  clear hA0 hval0
  simp only [List.append_nil] at hW' hlts
  refine (looks_true v0 l0 hR0 a1 w1 (W := W)).mono fun e W' ⟨he, hB⟩ => ?_
  subst he
  refine ⟨_, rfl, _, _, _, [], (p0 ++ ([] ++ [])), [], by simpa using hW', ?_, ?_, ?_, hB.frame _, fun h => by cases h⟩
  · exact trodAll_cons_mk (shut_bool Try.underlying4 _) trodAll_mk0
  · exact (trodAll_cons_mk (Below.trod (by kernel_rfl) (by kernel_rfl) (of_decide_eq_true (by kernel_rfl)) ⟨fuel0, hf0⟩ hB (fun x hx => hlts x (by simp [hx]))) (trodAll_cons_mk (shut_string Try.underlying9 w1) trodAll_mk0))
  · rfl

/-- PrecLooks: the given statement. -/
theorem precLooks_holds : Rows.PrecLooksSaid :=
  OpenClaim.holds_of_wide 4 Try.f4 rfl rfl rfl rfl rfl rfl rfl ⟨rfl, rfl, rfl, rfl, rfl⟩ rfl rfl rfl rfl rfl (by kernel_rfl) Try.func4 (by kernel_rfl)
    (of_decide_eq_true (by kernel_rfl)) (by unfold Func.isWrapper; first | (rw [if_pos (by decide +kernel)]; kernel_rfl) | (rw [if_neg (by decide +kernel)]; exact ⟨rfl, rfl⟩))
    (fun os started H enc _ => precLooks_lifted os started H enc)

end Go.Proofs.Ytpndbgdimkpfjaa.precLooks
