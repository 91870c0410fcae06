/-
  TyArrows is true for any two types. No conditions but the card's own.
-/
import Derived.Test.YtjcocjpenchplaaDoorRows
import Derived.Test.YtjcocjpenchplaaDoorCards
import Derived.Test.YtjcocjpenchplaaDoorTie
import Derived.Test.YtjcocjpenchplaaDoorTyLq
import Derived.Test.YtjcocjpenchplaaDoorTyAl
import Derived.Test.YtjcocjpenchplaaDoorTyT
import Derived.Test.YtjcocjpenchplaaDoorTyAr
import Derived.Test.YtjcocjpenchplaaDoorTyH
import Derived.SevenTiedAt
namespace Go.Proofs.YtjcocjpenchplaaDoor.tyArrows
open Go.ChangeShapes Go.WideShapes Go.ChangeAt Go.RowKit

theorem own : ownKnob Tryd.prog.godebug = none := by kernel_rfl

theorem names_of {l : List L.Nd} (h : L.namedL l = true) : (∀ x ∈ l, x.name.size ≤ 200) ∧ l.length ≤ 200 := by
  simp only [L.namedL, Bool.and_eq_true, decide_eq_true_eq, List.all_eq_true] at h
  exact ⟨h.2, h.1⟩

theorem bytes_add (l r : List UInt8) : (⟨(l ++ r).toArray⟩ : ByteArray) = ⟨l.toArray⟩ ++ ⟨r.toArray⟩ := (ba_append l r).symm

set_option maxHeartbeats 4000000 in
set_option maxRecDepth 100000 in
theorem tyArrows_true {W : World} (va : Value) (la : List L.Nd) (ha : Rd W W.heap.size va la) (h1 : ∀ y ∈ la, y.n ≤ 9223372036854775807) (vb : Value) (lb : List L.Nd) (hb : Rd W W.heap.size vb lb) (h2 : ∀ y ∈ lb, y.n ≤ 9223372036854775807) (hT : Tab W) :
    Calls Tryd.prog 8 #[va, vb] W fun e w' => e = .returned (.bool true) ∧ Below W.heap.size W w' := by
  have NA := hid (named_any la va W ha)
  have NB := hid (named_any lb vb W hb)
  have HA := hid ha
  have HB := hid hb
  have HT := hid hT
  have H1 := hid h1
  have H2 := hid h2
  obtain ⟨Aa, ca, rfl, hca, hcm, -⟩ := ha
  obtain ⟨Ab, cb, rfl, hcb, hcm2, -⟩ := hb
  unfold maxLen at hcm hcm2
  clear hT h1 h2
  cases hna : L.namedL la with
  | false =>
    rw [hna] at NA
    clear hna
    go_enter Tryd.func8, Tryd.ntmps8
    go_wp2_with fail
    refine (NA.out).mono ?_
    rintro e w1 ⟨rfl, rfl⟩
    go_wp2_with fail
    refine (alive_any _ HT.out).mono ?_
    rintro e w9 ⟨rfl, h9⟩
    go_wp2
    go_ret
    exact ⟨rfl, h9⟩
  | true =>
  rw [hna] at NA
  have hla := (names_of hna).2
  have HNA := hid (names_of hna).1
  clear hna
  cases hnb : L.namedL lb with
  | false =>
    rw [hnb] at NB
    clear hnb
    go_enter Tryd.func8, Tryd.ntmps8
    go_wp2_with fail
    refine (NA.out).mono ?_
    rintro e w1 ⟨rfl, rfl⟩
    go_wp2_with fail
    refine (NB.out).mono ?_
    rintro e w1 ⟨rfl, rfl⟩
    go_wp2_with fail
    refine (alive_any _ HT.out).mono ?_
    rintro e w9 ⟨rfl, h9⟩
    go_wp2
    go_ret
    exact ⟨rfl, h9⟩
  | true =>
  rw [hnb] at NB
  have hlb := (names_of hnb).2
  have HNB := hid (names_of hnb).1
  clear hnb
  by_cases hga : 60 < la.length
  · clear HNA HNB
    go_enter Tryd.func8, Tryd.ntmps8
    go_wp2_with fail
    refine (NA.out).mono ?_
    rintro e w1 ⟨rfl, rfl⟩
    go_wp2_with fail
    refine (NB.out).mono ?_
    rintro e w1 ⟨rfl, rfl⟩
    go_wp2_with fail
    refine (alive_any _ HT.out).mono ?_
    rintro e w9 ⟨rfl, h9⟩
    go_wp2
    go_ret
    exact ⟨rfl, h9⟩
  by_cases hgb : 60 < lb.length
  · clear HNA HNB
    go_enter Tryd.func8, Tryd.ntmps8
    go_wp2_with fail
    refine (NA.out).mono ?_
    rintro e w1 ⟨rfl, rfl⟩
    go_wp2_with fail
    refine (NB.out).mono ?_
    rintro e w1 ⟨rfl, rfl⟩
    go_wp2_with fail
    refine (alive_any _ HT.out).mono ?_
    rintro e w9 ⟨rfl, h9⟩
    go_wp2
    go_ret
    exact ⟨rfl, h9⟩
  have hla2 : la.length ≤ 60 := by omega
  have hlb2 : lb.length ≤ 60 := by omega
  clear hga hgb hla hlb
  have RA := hid (refRight_any la (fun x hx => Nat.le_trans (HNA.out x hx) (by omega)) _ _ HA.out)
  cases hra : L.rightL la with
  | false =>
    rw [hra] at RA
    clear hra
    go_enter Tryd.func8, Tryd.ntmps8
    go_wp2_with fail
    refine (NA.out).mono ?_
    rintro e w1 ⟨rfl, rfl⟩
    go_wp2_with fail
    refine (NB.out).mono ?_
    rintro e w1 ⟨rfl, rfl⟩
    go_wp2_with fail
    refine (RA.out).mono ?_
    rintro e w2 ⟨rfl, b2⟩
    have HT2 := hid (HT.out.grows b2)
    have HX := hid b2
    clear b2
    go_wp2_with fail
    refine (alive_any _ HT2.out).mono ?_
    rintro e w9 ⟨rfl, h9⟩
    go_wp2
    go_ret
    exact ⟨rfl, HX.out.trans (h9.mono HX.out.size)⟩
  | true =>
  rw [hra] at RA
  cases hrb : L.rightL lb with
  | false =>
    clear hra
    go_enter Tryd.func8, Tryd.ntmps8
    go_wp2_with fail
    refine (NA.out).mono ?_
    rintro e w1 ⟨rfl, rfl⟩
    go_wp2_with fail
    refine (NB.out).mono ?_
    rintro e w1 ⟨rfl, rfl⟩
    go_wp2_with fail
    refine (RA.out).mono ?_
    rintro e w2 ⟨rfl, b2⟩
    have RB := hid (refRight_any lb (fun x hx => Nat.le_trans (HNB.out x hx) (by omega)) _ _ ((HB.out.below b2).mono b2.size))
    rw [hrb] at RB
    have HX := hid b2
    clear b2 hrb
    go_wp2_with fail
    refine (RB.out).mono ?_
    rintro e w3 ⟨rfl, b3⟩
    have HX3 := hid (HX.out.trans (b3.mono HX.out.size))
    have HT2 := hid (HT.out.grows HX3.out)
    clear b3
    go_wp2_with fail
    refine (alive_any _ HT2.out).mono ?_
    rintro e w9 ⟨rfl, h9⟩
    go_wp2
    go_ret
    exact ⟨rfl, HX3.out.trans (h9.mono HX3.out.size)⟩
  | true =>
  go_enter Tryd.func8, Tryd.ntmps8
  go_wp2_with fail
  refine (NA.out).mono ?_
  rintro e w1 ⟨rfl, rfl⟩
  go_wp2_with fail
  refine (NB.out).mono ?_
  rintro e w1 ⟨rfl, rfl⟩
  go_wp2_with fail
  refine (RA.out).mono ?_
  rintro e w2 ⟨rfl, b2⟩
  have RB := hid (refRight_any lb (fun x hx => Nat.le_trans (HNB.out x hx) (by omega)) _ _ ((HB.out.below b2).mono b2.size))
  rw [hrb] at RB
  have HX := hid b2
  clear b2
  go_wp2_with fail
  refine (RB.out).mono ?_
  rintro e w3 ⟨rfl, b3⟩
  have X0 := hid (HX.out.trans (b3.mono HX.out.size))
  have HT3 := hid (HT.out.grows X0.out)
  have A0 := hid ((HA.out.below X0.out).mono X0.out.size)
  have B0 := hid ((HB.out.below X0.out).mono X0.out.size)
  clear b3 HX RA RB HA HB HT NA NB
  obtain ⟨x, ka, hxa, -, bx, okx, -⟩ := (L.rightL_iff la).1 hra
  obtain ⟨y, kb, hyb, -, by', oky, -⟩ := (L.rightL_iff lb).1 hrb
  have OX := hid okx
  have OY := hid oky
  have BX := hid bx
  have BY := hid by'
  have HXA := hid hxa
  have HYB := hid hyb
  have hla0 : la ≠ [] := by rw [hxa]; simp
  have hlb0 : lb ≠ [] := by rw [hyb]; simp
  have hp0 : 0 < la.length := by rw [hxa]; simp
  have hx0 : la[0]'hp0 = x := by subst hxa; rfl
  have HTR : Hid (L.rightL (arr la lb) = true) := hid (by rw [hxa, hyb]; exact arr_right okx oky bx by' (by rw [← hxa]; exact hla2) (by rw [← hyb]; exact hlb2))
  have HTO := hid (arr_ok okx oky bx by')
  have HTF : Hid (arr la lb = ⟨5, ⟨#[]⟩, 0⟩ :: (arrK x ka y kb).flat) := hid (by rw [hxa, hyb, arr_flat]; rfl)
  have HTK : Hid (L.kidsL (arr la lb) 2 1 = [1, 1 + la.length]) := hid (by rw [hxa, hyb]; exact arr_kids okx)
  have HP1 : Hid (L.partL (arr la lb) 1 = la) := hid (by rw [hxa]; exact arr_part1 lb okx bx)
  have HP2 : Hid (L.partL (arr la lb) (1 + la.length) = lb) := hid (by rw [hyb]; exact arr_part2 la oky by')
  have HTS := hid (arr_static la lb)
  have HTP := hid (arr_plain la lb)
  have HPT := hid (arr_print (y := y) (ka := ka) (kb := kb) bx)
  have SA : Hid (Short la) := hid fun z hz => ⟨HNA.out z hz, H1.out z hz⟩
  have SB : Hid (Short lb) := hid fun z hz => ⟨HNB.out z hz, H2.out z hz⟩
  have ST : Hid (Short (arr la lb)) := hid fun z hz => by
    rcases List.mem_cons.1 hz with rfl | hz
    · exact ⟨by decide, by decide⟩
    · rcases List.mem_append.1 hz with hz | hz
      · exact SA.out z hz
      · exact SB.out z hz
  have hlt : (arr la lb).length = la.length + lb.length + 1 := by simp only [arr, List.length_cons, List.length_append]
  have FT : Hid (Few (arr la lb)) := hid (few_of (by omega) (by
    rw [List.all_eq_true]
    intro z hz
    rw [HTF.out] at hz
    have h := L.numbered_flat _ HTO.out z
    simp only [L.Fo.flat, List.append_nil] at h
    exact h hz))
  clear okx oky bx by' hra hrb hxa hyb
  have AR := hid (arrow_any _ _ _ _ _ A0.out B0.out hla0 hlb0 (by omega) (by omega))
  go_wp2_with fail
  refine (AR.out).mono ?_
  rintro e w4 ⟨vt, rfl, ot, b4⟩
  have HO := hid (show Own _ vt (arr la lb) w4 from ot)
  obtain ⟨At, ct, hvt, -⟩ := HO.out.rd
  rw [hlt] at hvt
  subst hvt
  have X1 := hid (X0.out.trans (b4.mono X0.out.size))
  have A1 := hid ((A0.out.below b4).mono b4.size)
  have B1 := hid ((B0.out.below b4).mono b4.size)
  have HT4 := hid (HT3.out.grows b4)
  clear ot b4 AR A0 B0 X0 HT3 hla0 hlb0 hlt
  have O1 := HO
  have T1 := HT4
  clear HO HT4
  have HAa : ∃ b o, Aa = some ⟨b, o, none⟩ := by
    obtain ⟨A', c', hv, -, -, -, hc⟩ := A1.out
    obtain ⟨b, o, h, -⟩ := hc (by intro h; rw [h] at hp0; exact absurd hp0 (by simp))
    injection hv with e1
    exact ⟨b, o, e1.trans h⟩
  obtain ⟨ba, oa, rfl⟩ := HAa
  obtain ⟨PA, hPA⟩ : ∃ PA : ByteArray, PA = ⟨(L.prT false x ka).toArray⟩ := ⟨_, rfl⟩
  obtain ⟨PB, hPB⟩ : ∃ PB : ByteArray, PB = ⟨(L.prT false y kb).toArray⟩ := ⟨_, rfl⟩
  have HST : Hid ((⟨(L.prT false ⟨5, ⟨#[]⟩, 0⟩ (arrK x ka y kb)).toArray⟩ : ByteArray) = (if x.kind = 5 then ⟨#[40]⟩ ++ PA ++ ⟨#[41]⟩ else PA) ++ ⟨#[32, 45, 62, 32]⟩ ++ PB) := hid (by
    rw [HPT.out, ← List.append_assoc, bytes_add, bytes_add, ← hPB]
    by_cases h : x.kind = 5
    · rw [if_pos h, if_pos h, bytes_add, bytes_add, ← hPA]
    · rw [if_neg h, if_neg h, ← hPA])
  have hPAs : PA.size ≤ 18000 := by
    have h1 := prT_len (p := false) OX.out (by rw [← HXA.out]; exact SA.out)
    have h2 := congrArg List.length HXA.out
    simp only [List.length_cons] at h2
    rw [hPA]
    show (L.prT false x ka).toArray.size ≤ 18000
    rw [List.size_toArray]
    omega
  have hPBs : PB.size ≤ 18000 := by
    have h1 := prT_len (p := false) OY.out (by rw [← HYB.out]; exact SB.out)
    have h2 := congrArg List.length HYB.out
    simp only [List.length_cons] at h2
    rw [hPB]
    show (L.prT false y kb).toArray.size ≤ 18000
    rw [List.size_toArray]
    omega
  have s1 : ((⟨#[40]⟩ : ByteArray) ++ PA).size ≤ 18001 := by rw [ByteArray.size_append]; show 1 + PA.size ≤ 18001; omega
  have s2 : ((⟨#[40]⟩ : ByteArray) ++ PA ++ ⟨#[41]⟩).size ≤ 18002 := by rw [ByteArray.size_append]; show ((⟨#[40]⟩ : ByteArray) ++ PA).size + 1 ≤ 18002; omega
  have s3 : ((⟨#[40]⟩ : ByteArray) ++ PA ++ ⟨#[41]⟩ ++ ⟨#[32, 45, 62, 32]⟩).size ≤ 18006 := by rw [ByteArray.size_append]; show ((⟨#[40]⟩ : ByteArray) ++ PA ++ ⟨#[41]⟩).size + 4 ≤ 18006; omega
  have s4 : (PA ++ (⟨#[32, 45, 62, 32]⟩ : ByteArray)).size ≤ 18004 := by rw [ByteArray.size_append]; show PA.size + 4 ≤ 18004; omega
  have HPA := hid hPA
  have HPB := hid hPB
  clear hPA hPB HPT
  obtain ⟨p2, hp2⟩ : ∃ p2, p2 = 1 + la.length := ⟨_, rfl⟩
  have hlbp : 0 < lb.length := by rw [HYB.out]; simp
  have hp2l : p2 < (arr la lb).length := by simp only [arr, List.length_cons, List.length_append]; omega
  have hp1l : 1 < (arr la lb).length := by simp only [arr, List.length_cons, List.length_append]; omega
  rw [← hp2] at HTK HP2
  have HP12 := hid hp1l
  have HP22 := hid hp2l
  clear hp2 hp1l hp2l
  have HC := hid (right_any (arr la lb) (fun z hz => Nat.le_trans (ST.out z hz).1 (by omega)) _ _ O1.out.rd)
  rw [HTR.out] at HC
  go_wp2_with fail
  refine (HC.out).mono ?_
  rintro e w5 ⟨rfl, h0⟩
  have X2 := hid (X1.out.trans (h0.mono X1.out.size))
  have A2 := hid ((A1.out.below h0).mono h0.size)
  have B2 := hid ((B1.out.below h0).mono h0.size)
  have O2 := hid (O1.out.below h0)
  have T2 := hid (T1.out.grows h0)
  clear h0 HC A1 B1 O1 T1 X1
  have HC := hid (print_any x ka OX.out (by rw [← HXA.out]; exact SA.out) (by have := congrArg List.length HXA.out; simp only [List.length_cons] at this; omega) _ _ (by rw [← HXA.out]; exact A2.out) T2.out)
  rw [← HPA.out] at HC
  go_wp2_with fail
  refine (HC.out).mono ?_
  rintro e w6 ⟨rfl, h0⟩
  have X3 := hid (X2.out.trans (h0.mono X2.out.size))
  have A3 := hid ((A2.out.below h0).mono h0.size)
  have B3 := hid ((B2.out.below h0).mono h0.size)
  have O3 := hid (O2.out.below h0)
  have T3 := hid (T2.out.grows h0)
  clear h0 HC A2 B2 O2 T2 X2
  have x0 := (Rd.at_slice A3.out (by intro h; rw [h] at hp0; exact absurd hp0 (by simp)) 0 hp0).1
  simp only [Nat.zero_mul, Nat.add_zero] at x0
  rw [hx0] at x0
  by_cases h5 : x.kind = 5
  · have HS5 := HST
    rw [if_pos h5] at HS5
    have h5z : (x.kind == 5) = true := by simpa using h5
    clear HST
    generalize x.kind = xk at *
    clear h5
    have HC := hid (kids_any (arr la lb) FT.out _ 0 (by have := HP12.out; omega) _ O3.out.rd)
    go_wp2_with fail
    refine (HC.out).mono ?_
    rintro e w7 ⟨vk, rfl, ok, h0⟩
    have hm : (L.many ((arr la lb)[0]'(by have := HP12.out; omega))).toNat = 2 := by
      show (L.many ⟨5, ⟨#[]⟩, 0⟩).toNat = 2
      decide
    rw [hm, HTK.out] at ok
    obtain ⟨g, ck, rfl⟩ : ∃ g ck, vk = .slice (some ⟨g, 0, none⟩) 2 ck := by
      rcases ok.2 with ⟨_, hz⟩ | ⟨g, ck, cur, hv, _⟩
      · simp at hz
      · exact ⟨g, ck, hv⟩
    have I4 := hid ok
    clear hm ok x0
    have X4 := hid (X3.out.trans (h0.mono X3.out.size))
    have A4 := hid ((A3.out.below h0).mono h0.size)
    have B4 := hid ((B3.out.below h0).mono h0.size)
    have O4 := hid (O3.out.below h0)
    have T4 := hid (T3.out.grows h0)
    clear h0 HC A3 B3 O3 T3 X3
    have i0 : w7.cell? ⟨g, 0, none⟩ = some (.int .i64 ((1 : Nat) : Int)) := World.ownsRow.cellAt I4.out 0 (by simp)
    have HC := hid (part_any (arr la lb) FT.out _ 1 HP12.out _ O4.out.rd)
    rw [HP1.out] at HC
    go_wp2_with fail
    refine (HC.out).mono ?_
    rintro e w8 ⟨vp, rfl, op, h0⟩
    have Q5 := hid op
    clear op i0
    have X5 := hid (X4.out.trans (h0.mono X4.out.size))
    have A5 := hid ((A4.out.below h0).mono h0.size)
    have B5 := hid ((B4.out.below h0).mono h0.size)
    have O5 := hid (O4.out.below h0)
    have T5 := hid (T4.out.grows h0)
    have I5 := hid (I4.out.below h0)
    clear h0 HC A4 B4 O4 T4 X4 I4
    have HC := hid (one_any la la _ _ _ Q5.out.rd A5.out)
    rw [decide_eq_true (rfl : la = la)] at HC
    go_wp2_with fail
    refine (HC.out).mono ?_
    clear Q5
    rintro e w9 ⟨rfl, h0⟩
    have X6 := hid (X5.out.trans (h0.mono X5.out.size))
    have A6 := hid ((A5.out.below h0).mono h0.size)
    have B6 := hid ((B5.out.below h0).mono h0.size)
    have O6 := hid (O5.out.below h0)
    have T6 := hid (T5.out.grows h0)
    have I6 := hid (I5.out.below h0)
    clear h0 HC A5 B5 O5 T5 X5 I5
    have i1 : w9.cell? ⟨g, 1, none⟩ = some (.int .i64 (p2 : Int)) := World.ownsRow.cellAt I6.out 1 (by simp)
    have HC := hid (part_any (arr la lb) FT.out _ p2 HP22.out _ O6.out.rd)
    rw [HP2.out] at HC
    go_wp2_with fail
    refine (HC.out).mono ?_
    rintro e w10 ⟨vp2, rfl, op, h0⟩
    have Q7 := hid op
    clear op i1 I6
    have X7 := hid (X6.out.trans (h0.mono X6.out.size))
    have A7 := hid ((A6.out.below h0).mono h0.size)
    have B7 := hid ((B6.out.below h0).mono h0.size)
    have O7 := hid (O6.out.below h0)
    have T7 := hid (T6.out.grows h0)
    clear h0 HC A6 B6 O6 T6 X6
    have HC := hid (one_any lb lb _ _ _ Q7.out.rd B7.out)
    rw [decide_eq_true (rfl : lb = lb)] at HC
    go_wp2_with fail
    refine (HC.out).mono ?_
    clear Q7
    rintro e w11 ⟨rfl, h0⟩
    have X8 := hid (X7.out.trans (h0.mono X7.out.size))
    have A8 := hid ((A7.out.below h0).mono h0.size)
    have B8 := hid ((B7.out.below h0).mono h0.size)
    have O8 := hid (O7.out.below h0)
    have T8 := hid (T7.out.grows h0)
    clear h0 HC A7 B7 O7 T7 X7
    have HC := hid (alive_any _ T8.out)
    go_wp2_with fail
    refine (HC.out).mono ?_
    rintro e w12 ⟨rfl, h0⟩
    have X9 := hid (X8.out.trans (h0.mono X8.out.size))
    have A9 := hid ((A8.out.below h0).mono h0.size)
    have B9 := hid ((B8.out.below h0).mono h0.size)
    have O9 := hid (O8.out.below h0)
    have T9 := hid (T8.out.grows h0)
    clear h0 HC A8 B8 O8 T8 X8
    have HC := hid (print_any ⟨5, ⟨#[]⟩, 0⟩ (arrK x ka y kb) HTO.out (by rw [← HTF.out]; exact ST.out) (by rw [arr_flat, ← HXA.out, ← HYB.out, List.length_append]; omega) _ _ (by rw [← HTF.out]; exact O9.out.rd) T9.out)
    rw [HS5.out] at HC
    go_wp2_with fail
    refine (HC.out).mono ?_
    rintro e w13 ⟨rfl, h0⟩
    have X10 := hid (X9.out.trans (h0.mono X9.out.size))
    have A10 := hid ((A9.out.below h0).mono h0.size)
    have B10 := hid ((B9.out.below h0).mono h0.size)
    have O10 := hid (O9.out.below h0)
    have T10 := hid (T9.out.grows h0)
    clear h0 HC A9 B9 O9 T9 X9
    have HC := hid (print_any y kb OY.out (by rw [← HYB.out]; exact SB.out) (by have := congrArg List.length HYB.out; simp only [List.length_cons] at this; omega) _ _ (by rw [← HYB.out]; exact B10.out) T10.out)
    rw [← HPB.out] at HC
    go_wp2_with fail
    refine (HC.out).mono ?_
    rintro e w14 ⟨rfl, h0⟩
    have X11 := hid (X10.out.trans (h0.mono X10.out.size))
    have A11 := hid ((A10.out.below h0).mono h0.size)
    have B11 := hid ((B10.out.below h0).mono h0.size)
    have O11 := hid (O10.out.below h0)
    have T11 := hid (T10.out.grows h0)
    clear h0 HC A10 B10 O10 T10 X10
    have HC := hid (static_any (arr la lb) _ _ O11.out.rd)
    rw [HTS.out] at HC
    go_wp2_with fail
    refine (HC.out).mono ?_
    rintro e w15 ⟨rfl, h0⟩
    have X12 := hid (X11.out.trans (h0.mono X11.out.size))
    have A12 := hid ((A11.out.below h0).mono h0.size)
    have B12 := hid ((B11.out.below h0).mono h0.size)
    have O12 := hid (O11.out.below h0)
    have T12 := hid (T11.out.grows h0)
    clear h0 HC A11 B11 O11 T11 X11
    have HC := hid (static_any la _ _ A12.out)
    go_wp2_with fail
    refine (HC.out).mono ?_
    rintro e w16 ⟨rfl, h0⟩
    have X13 := hid (X12.out.trans (h0.mono X12.out.size))
    have A13 := hid ((A12.out.below h0).mono h0.size)
    have B13 := hid ((B12.out.below h0).mono h0.size)
    have O13 := hid (O12.out.below h0)
    have T13 := hid (T12.out.grows h0)
    clear h0 HC A12 B12 O12 T12 X12
    cases hsa : L.staticL la with
    | false =>
      have HC := hid (plain_any (arr la lb) _ _ O13.out.rd)
      rw [HTP.out] at HC
      go_wp2_with fail
      refine (HC.out).mono ?_
      rintro e w17 ⟨rfl, h0⟩
      have X14 := hid (X13.out.trans (h0.mono X13.out.size))
      have A14 := hid ((A13.out.below h0).mono h0.size)
      have B14 := hid ((B13.out.below h0).mono h0.size)
      have O14 := hid (O13.out.below h0)
      have T14 := hid (T13.out.grows h0)
      clear h0 HC A13 B13 O13 T13 X13
      have HC := hid (plain_any la _ _ A14.out)
      go_wp2_with fail
      refine (HC.out).mono ?_
      rintro e w18 ⟨rfl, h0⟩
      have X15 := hid (X14.out.trans (h0.mono X14.out.size))
      have A15 := hid ((A14.out.below h0).mono h0.size)
      have B15 := hid ((B14.out.below h0).mono h0.size)
      have O15 := hid (O14.out.below h0)
      have T15 := hid (T14.out.grows h0)
      clear h0 HC A14 B14 O14 T14 X14
      cases hpa : L.plainL la with
      | false =>
        go_wp2
        go_ret
        exact ⟨ret_bool (by simp), X15.out⟩
      | true =>
        have HC := hid (plain_any lb _ _ B15.out)
        go_wp2_with fail
        refine (HC.out).mono ?_
        rintro e w19 ⟨rfl, h0⟩
        have X16 := hid (X15.out.trans (h0.mono X15.out.size))
        have A16 := hid ((A15.out.below h0).mono h0.size)
        have B16 := hid ((B15.out.below h0).mono h0.size)
        have O16 := hid (O15.out.below h0)
        have T16 := hid (T15.out.grows h0)
        clear h0 HC A15 B15 O15 T15 X15
        go_wp2
        go_ret
        exact ⟨ret_bool (by simp), X16.out⟩
    | true =>
      have HC := hid (static_any lb _ _ B13.out)
      go_wp2_with fail
      refine (HC.out).mono ?_
      rintro e w17 ⟨rfl, h0⟩
      have X14 := hid (X13.out.trans (h0.mono X13.out.size))
      have A14 := hid ((A13.out.below h0).mono h0.size)
      have B14 := hid ((B13.out.below h0).mono h0.size)
      have O14 := hid (O13.out.below h0)
      have T14 := hid (T13.out.grows h0)
      clear h0 HC A13 B13 O13 T13 X13
      have HC := hid (plain_any (arr la lb) _ _ O14.out.rd)
      rw [HTP.out] at HC
      go_wp2_with fail
      refine (HC.out).mono ?_
      rintro e w18 ⟨rfl, h0⟩
      have X15 := hid (X14.out.trans (h0.mono X14.out.size))
      have A15 := hid ((A14.out.below h0).mono h0.size)
      have B15 := hid ((B14.out.below h0).mono h0.size)
      have O15 := hid (O14.out.below h0)
      have T15 := hid (T14.out.grows h0)
      clear h0 HC A14 B14 O14 T14 X14
      have HC := hid (plain_any la _ _ A15.out)
      go_wp2_with fail
      refine (HC.out).mono ?_
      rintro e w19 ⟨rfl, h0⟩
      have X16 := hid (X15.out.trans (h0.mono X15.out.size))
      have A16 := hid ((A15.out.below h0).mono h0.size)
      have B16 := hid ((B15.out.below h0).mono h0.size)
      have O16 := hid (O15.out.below h0)
      have T16 := hid (T15.out.grows h0)
      clear h0 HC A15 B15 O15 T15 X15
      cases hpa : L.plainL la with
      | false =>
        go_wp2
        go_ret
        exact ⟨ret_bool (by simp), X16.out⟩
      | true =>
        have HC := hid (plain_any lb _ _ B16.out)
        go_wp2_with fail
        refine (HC.out).mono ?_
        rintro e w20 ⟨rfl, h0⟩
        have X17 := hid (X16.out.trans (h0.mono X16.out.size))
        have A17 := hid ((A16.out.below h0).mono h0.size)
        have B17 := hid ((B16.out.below h0).mono h0.size)
        have O17 := hid (O16.out.below h0)
        have T17 := hid (T16.out.grows h0)
        clear h0 HC A16 B16 O16 T16 X16
        go_wp2
        go_ret
        exact ⟨ret_bool (by simp), X17.out⟩
  · have HS5 := HST
    rw [if_neg h5] at HS5
    have h5z : (x.kind == 5) = false := by simpa using h5
    clear HST
    generalize x.kind = xk at *
    clear h5
    have HC := hid (kids_any (arr la lb) FT.out _ 0 (by have := HP12.out; omega) _ O3.out.rd)
    go_wp2_with fail
    refine (HC.out).mono ?_
    rintro e w7 ⟨vk, rfl, ok, h0⟩
    have hm : (L.many ((arr la lb)[0]'(by have := HP12.out; omega))).toNat = 2 := by
      show (L.many ⟨5, ⟨#[]⟩, 0⟩).toNat = 2
      decide
    rw [hm, HTK.out] at ok
    obtain ⟨g, ck, rfl⟩ : ∃ g ck, vk = .slice (some ⟨g, 0, none⟩) 2 ck := by
      rcases ok.2 with ⟨_, hz⟩ | ⟨g, ck, cur, hv, _⟩
      · simp at hz
      · exact ⟨g, ck, hv⟩
    have I4 := hid ok
    clear hm ok x0
    have X4 := hid (X3.out.trans (h0.mono X3.out.size))
    have A4 := hid ((A3.out.below h0).mono h0.size)
    have B4 := hid ((B3.out.below h0).mono h0.size)
    have O4 := hid (O3.out.below h0)
    have T4 := hid (T3.out.grows h0)
    clear h0 HC A3 B3 O3 T3 X3
    have i0 : w7.cell? ⟨g, 0, none⟩ = some (.int .i64 ((1 : Nat) : Int)) := World.ownsRow.cellAt I4.out 0 (by simp)
    have HC := hid (part_any (arr la lb) FT.out _ 1 HP12.out _ O4.out.rd)
    rw [HP1.out] at HC
    go_wp2_with fail
    refine (HC.out).mono ?_
    rintro e w8 ⟨vp, rfl, op, h0⟩
    have Q5 := hid op
    clear op i0
    have X5 := hid (X4.out.trans (h0.mono X4.out.size))
    have A5 := hid ((A4.out.below h0).mono h0.size)
    have B5 := hid ((B4.out.below h0).mono h0.size)
    have O5 := hid (O4.out.below h0)
    have T5 := hid (T4.out.grows h0)
    have I5 := hid (I4.out.below h0)
    clear h0 HC A4 B4 O4 T4 X4 I4
    have HC := hid (one_any la la _ _ _ Q5.out.rd A5.out)
    rw [decide_eq_true (rfl : la = la)] at HC
    go_wp2_with fail
    refine (HC.out).mono ?_
    clear Q5
    rintro e w9 ⟨rfl, h0⟩
    have X6 := hid (X5.out.trans (h0.mono X5.out.size))
    have A6 := hid ((A5.out.below h0).mono h0.size)
    have B6 := hid ((B5.out.below h0).mono h0.size)
    have O6 := hid (O5.out.below h0)
    have T6 := hid (T5.out.grows h0)
    have I6 := hid (I5.out.below h0)
    clear h0 HC A5 B5 O5 T5 X5 I5
    have i1 : w9.cell? ⟨g, 1, none⟩ = some (.int .i64 (p2 : Int)) := World.ownsRow.cellAt I6.out 1 (by simp)
    have HC := hid (part_any (arr la lb) FT.out _ p2 HP22.out _ O6.out.rd)
    rw [HP2.out] at HC
    go_wp2_with fail
    refine (HC.out).mono ?_
    rintro e w10 ⟨vp2, rfl, op, h0⟩
    have Q7 := hid op
    clear op i1 I6
    have X7 := hid (X6.out.trans (h0.mono X6.out.size))
    have A7 := hid ((A6.out.below h0).mono h0.size)
    have B7 := hid ((B6.out.below h0).mono h0.size)
    have O7 := hid (O6.out.below h0)
    have T7 := hid (T6.out.grows h0)
    clear h0 HC A6 B6 O6 T6 X6
    have HC := hid (one_any lb lb _ _ _ Q7.out.rd B7.out)
    rw [decide_eq_true (rfl : lb = lb)] at HC
    go_wp2_with fail
    refine (HC.out).mono ?_
    clear Q7
    rintro e w11 ⟨rfl, h0⟩
    have X8 := hid (X7.out.trans (h0.mono X7.out.size))
    have A8 := hid ((A7.out.below h0).mono h0.size)
    have B8 := hid ((B7.out.below h0).mono h0.size)
    have O8 := hid (O7.out.below h0)
    have T8 := hid (T7.out.grows h0)
    clear h0 HC A7 B7 O7 T7 X7
    have HC := hid (alive_any _ T8.out)
    go_wp2_with fail
    refine (HC.out).mono ?_
    rintro e w12 ⟨rfl, h0⟩
    have X9 := hid (X8.out.trans (h0.mono X8.out.size))
    have A9 := hid ((A8.out.below h0).mono h0.size)
    have B9 := hid ((B8.out.below h0).mono h0.size)
    have O9 := hid (O8.out.below h0)
    have T9 := hid (T8.out.grows h0)
    clear h0 HC A8 B8 O8 T8 X8
    have HC := hid (print_any ⟨5, ⟨#[]⟩, 0⟩ (arrK x ka y kb) HTO.out (by rw [← HTF.out]; exact ST.out) (by rw [arr_flat, ← HXA.out, ← HYB.out, List.length_append]; omega) _ _ (by rw [← HTF.out]; exact O9.out.rd) T9.out)
    rw [HS5.out] at HC
    go_wp2_with fail
    refine (HC.out).mono ?_
    rintro e w13 ⟨rfl, h0⟩
    have X10 := hid (X9.out.trans (h0.mono X9.out.size))
    have A10 := hid ((A9.out.below h0).mono h0.size)
    have B10 := hid ((B9.out.below h0).mono h0.size)
    have O10 := hid (O9.out.below h0)
    have T10 := hid (T9.out.grows h0)
    clear h0 HC A9 B9 O9 T9 X9
    have HC := hid (print_any y kb OY.out (by rw [← HYB.out]; exact SB.out) (by have := congrArg List.length HYB.out; simp only [List.length_cons] at this; omega) _ _ (by rw [← HYB.out]; exact B10.out) T10.out)
    rw [← HPB.out] at HC
    go_wp2_with fail
    refine (HC.out).mono ?_
    rintro e w14 ⟨rfl, h0⟩
    have X11 := hid (X10.out.trans (h0.mono X10.out.size))
    have A11 := hid ((A10.out.below h0).mono h0.size)
    have B11 := hid ((B10.out.below h0).mono h0.size)
    have O11 := hid (O10.out.below h0)
    have T11 := hid (T10.out.grows h0)
    clear h0 HC A10 B10 O10 T10 X10
    have HC := hid (static_any (arr la lb) _ _ O11.out.rd)
    rw [HTS.out] at HC
    go_wp2_with fail
    refine (HC.out).mono ?_
    rintro e w15 ⟨rfl, h0⟩
    have X12 := hid (X11.out.trans (h0.mono X11.out.size))
    have A12 := hid ((A11.out.below h0).mono h0.size)
    have B12 := hid ((B11.out.below h0).mono h0.size)
    have O12 := hid (O11.out.below h0)
    have T12 := hid (T11.out.grows h0)
    clear h0 HC A11 B11 O11 T11 X11
    have HC := hid (static_any la _ _ A12.out)
    go_wp2_with fail
    refine (HC.out).mono ?_
    rintro e w16 ⟨rfl, h0⟩
    have X13 := hid (X12.out.trans (h0.mono X12.out.size))
    have A13 := hid ((A12.out.below h0).mono h0.size)
    have B13 := hid ((B12.out.below h0).mono h0.size)
    have O13 := hid (O12.out.below h0)
    have T13 := hid (T12.out.grows h0)
    clear h0 HC A12 B12 O12 T12 X12
    cases hsa : L.staticL la with
    | false =>
      have HC := hid (plain_any (arr la lb) _ _ O13.out.rd)
      rw [HTP.out] at HC
      go_wp2_with fail
      refine (HC.out).mono ?_
      rintro e w17 ⟨rfl, h0⟩
      have X14 := hid (X13.out.trans (h0.mono X13.out.size))
      have A14 := hid ((A13.out.below h0).mono h0.size)
      have B14 := hid ((B13.out.below h0).mono h0.size)
      have O14 := hid (O13.out.below h0)
      have T14 := hid (T13.out.grows h0)
      clear h0 HC A13 B13 O13 T13 X13
      have HC := hid (plain_any la _ _ A14.out)
      go_wp2_with fail
      refine (HC.out).mono ?_
      rintro e w18 ⟨rfl, h0⟩
      have X15 := hid (X14.out.trans (h0.mono X14.out.size))
      have A15 := hid ((A14.out.below h0).mono h0.size)
      have B15 := hid ((B14.out.below h0).mono h0.size)
      have O15 := hid (O14.out.below h0)
      have T15 := hid (T14.out.grows h0)
      clear h0 HC A14 B14 O14 T14 X14
      cases hpa : L.plainL la with
      | false =>
        go_wp2
        go_ret
        exact ⟨ret_bool (by simp), X15.out⟩
      | true =>
        have HC := hid (plain_any lb _ _ B15.out)
        go_wp2_with fail
        refine (HC.out).mono ?_
        rintro e w19 ⟨rfl, h0⟩
        have X16 := hid (X15.out.trans (h0.mono X15.out.size))
        have A16 := hid ((A15.out.below h0).mono h0.size)
        have B16 := hid ((B15.out.below h0).mono h0.size)
        have O16 := hid (O15.out.below h0)
        have T16 := hid (T15.out.grows h0)
        clear h0 HC A15 B15 O15 T15 X15
        go_wp2
        go_ret
        exact ⟨ret_bool (by simp), X16.out⟩
    | true =>
      have HC := hid (static_any lb _ _ B13.out)
      go_wp2_with fail
      refine (HC.out).mono ?_
      rintro e w17 ⟨rfl, h0⟩
      have X14 := hid (X13.out.trans (h0.mono X13.out.size))
      have A14 := hid ((A13.out.below h0).mono h0.size)
      have B14 := hid ((B13.out.below h0).mono h0.size)
      have O14 := hid (O13.out.below h0)
      have T14 := hid (T13.out.grows h0)
      clear h0 HC A13 B13 O13 T13 X13
      have HC := hid (plain_any (arr la lb) _ _ O14.out.rd)
      rw [HTP.out] at HC
      go_wp2_with fail
      refine (HC.out).mono ?_
      rintro e w18 ⟨rfl, h0⟩
      have X15 := hid (X14.out.trans (h0.mono X14.out.size))
      have A15 := hid ((A14.out.below h0).mono h0.size)
      have B15 := hid ((B14.out.below h0).mono h0.size)
      have O15 := hid (O14.out.below h0)
      have T15 := hid (T14.out.grows h0)
      clear h0 HC A14 B14 O14 T14 X14
      have HC := hid (plain_any la _ _ A15.out)
      go_wp2_with fail
      refine (HC.out).mono ?_
      rintro e w19 ⟨rfl, h0⟩
      have X16 := hid (X15.out.trans (h0.mono X15.out.size))
      have A16 := hid ((A15.out.below h0).mono h0.size)
      have B16 := hid ((B15.out.below h0).mono h0.size)
      have O16 := hid (O15.out.below h0)
      have T16 := hid (T15.out.grows h0)
      clear h0 HC A15 B15 O15 T15 X15
      cases hpa : L.plainL la with
      | false =>
        go_wp2
        go_ret
        exact ⟨ret_bool (by simp), X16.out⟩
      | true =>
        have HC := hid (plain_any lb _ _ B16.out)
        go_wp2_with fail
        refine (HC.out).mono ?_
        rintro e w20 ⟨rfl, h0⟩
        have X17 := hid (X16.out.trans (h0.mono X16.out.size))
        have A17 := hid ((A16.out.below h0).mono h0.size)
        have B17 := hid ((B16.out.below h0).mono h0.size)
        have O17 := hid (O16.out.below h0)
        have T17 := hid (T16.out.grows h0)
        clear h0 HC A16 B16 O16 T16 X16
        go_wp2
        go_ret
        exact ⟨ret_bool (by simp), X17.out⟩

set_option maxRecDepth 100000 in
theorem tyArrows_lifted (os : Os) (started : os.Started) (H : Type) (enc : TypeId × Value → H) :
    ReturnsInHanded {} Tryd.checked os 8 .any (fun w args => (Rows.tyArrowsSpec.pre enc Tryd.prog Tryd.f8 [] false w args ∧ laidMetH Tryd.prog laidAll w) ∧ sizedMet enc Tryd.prog Tryd.f8 (OpenSpec.ofChange Rows.tyArrowsSpec) false w args)
      (Rows.tyArrowsSpec.post enc Tryd.prog Tryd.f8 false true false false) := by
  refine returnsInHanded_of_change_and (C := Tryd.checked) (X := fun w _ => laidMetH Tryd.prog laidAll w) (fun _ _ _ hh h => h.of_heap hh) own started (by kernel_rfl) Tryd.func8
    (ChangeSpec.witness_shaped (enc := enc) (C := Tryd.checked) (os := os) (X := fun w _ => laidMetH Tryd.prog laidAll w) false (World.doorLaid Tryd.prog 400 os) #[.slice none 0 0, .slice none 0 0] 8 rfl (World.shaped_of_RefB (by kernel_rfl) (by kernel_rfl)) (by kernel_rfl) (by kernel_rfl) (by kernel_rfl) (door_met os _)) ?_
  intro W base args ds gs before hval0 hW _ _ hL _
  have hT := tab_of_laid hL
  have hlts := hW.lt
  have hval : ∀ (j : Nat) t v, Tryd.f8.params[j]? = some t → args[j]? = some v → Value.okWide Tryd.prog W .any base t v := hval0
  have hW' := hW
  obtain ⟨p, q, hA0, hV, rfl, hfz, hnd⟩ := hW
  have hA : DataW.TrodAll enc Tryd.prog W 0 (fun _ => true) true Tryd.f8.params.toList args.toList ds p := hA0
  rw [Tryd.params8] at hA hval
  obtain ⟨v0, vs0, d0, ds0, p0, q0, hargs, rfl, rfl, h0, r0⟩ := trodAll_cons hA
  obtain ⟨v1, vs1, d1, ds1, p1, q1, hargs1, rfl, rfl, h1, r1⟩ := trodAll_cons r0
  obtain ⟨hn, rfl, rfl⟩ := trodAll_nil r1
  obtain rfl : args = #[v0, v1] := by cases args; simp_all
  obtain ⟨rfl, rfl⟩ := trodVars_none hV
  obtain ⟨sa0, sl0, sc0, hsv0⟩ := okWide_slice Tryd.underlying23 (hval 0 23 v0 rfl rfl)
  obtain ⟨sa1, sl1, sc1, hsv1⟩ := okWide_slice Tryd.underlying23 (hval 1 23 v1 rfl rfl)
  obtain ⟨fuel0, hf0⟩ := h0
  obtain ⟨u0, l0, hu0, hR0, hn0⟩ := rd_of_trod hf0
  obtain rfl : v0 = u0 := by
    rw [hsv0] at hu0
    rw [hsv0]
    simpa [Value.cells] using hu0
  obtain ⟨fuel1, hf1⟩ := h1
  obtain ⟨u1, l1, hu1, hR1, hn1⟩ := rd_of_trod hf1
  obtain rfl : v1 = u1 := by
    rw [hsv1] at hu1
    rw [hsv1]
    simpa [Value.cells] using hu1
  clear hA0 hval0
  simp only [List.append_nil] at hW' hlts
  refine (tyArrows_true v0 l0 hR0 hn0 v1 l1 hR1 hn1 hT).mono fun e W' ⟨he, hB⟩ => ?_
  subst he
  refine ⟨_, rfl, _, _, _, [], (p0 ++ (p1 ++ [])), [], by simpa using hW', ?_, ?_, ?_, hB.frame _, fun h => by cases h⟩
  · exact trodAll_cons_mk (shut_bool Tryd.underlying4 _) trodAll_mk0
  · exact (trodAll_cons_mk (Below.trod (by kernel_rfl) (by kernel_rfl) (of_decide_eq_true (by kernel_rfl)) ⟨fuel0, hf0⟩ hB (fun x hx => hlts x (by simp [hx]))) (trodAll_cons_mk (Below.trod (by kernel_rfl) (by kernel_rfl) (of_decide_eq_true (by kernel_rfl)) ⟨fuel1, hf1⟩ hB (fun x hx => hlts x (by simp [hx]))) trodAll_mk0))
  · rfl

/-- TyArrows: the row. -/
theorem tyArrows_holds : Rows.TyArrowsSaid :=
  OpenClaim.holds_of_wide 8 Tryd.f8 rfl rfl rfl rfl rfl rfl rfl ⟨rfl, rfl, rfl, rfl, rfl⟩ rfl rfl rfl rfl rfl (by kernel_rfl) Tryd.func8 (by kernel_rfl)
    (of_decide_eq_true (by kernel_rfl)) (by unfold Func.isWrapper; first | (rw [if_pos (by decide +kernel)]; kernel_rfl) | (rw [if_neg (by decide +kernel)]; exact ⟨rfl, rfl⟩))
    (fun os started H enc _ => tyArrows_lifted os started H enc)

/-- TyArrows: the given statement, the card: the three tables are tied to the program's text. -/
theorem tyArrows_card : Rows.TyArrowsCardSaid :=
  Claim7.holds_tied_plain_at .later [] [.data, .data, .data] true Rows.tyArrowsCard.stood.harness false
    tyArrows_holds (fun _ h => by cases h) (by kernel_rfl) (fun _ h => by cases h) tyArrows_row_tie rfl ⟨rfl, rfl⟩ (by kernel_rfl) rfl
    (fun f fn hf hfn => by
      obtain rfl : f = 8 := Option.some.inj ((show Tryd.prog.funcNamed "leaven/leavenlaw03.TyArrows" = some 8 by kernel_rfl).symm.trans hf) |>.symm
      obtain rfl : fn = Tryd.f8 := (Option.some.inj (Tryd.func8.symm.trans hfn)).symm
      exact ⟨by kernel_rfl, fun j t ht => by
        rw [Tryd.params8] at ht
        have hm : t ∈ [23, 23] := by simpa using Array.mem_of_getElem? ht
        have hall : ([23, 23].all fun u => !Tryd.prog.wantsStandIn u) = true := by kernel_rfl
        exact (show Tryd.prog.wantsStandIn t = false by simpa using List.all_eq_true.1 hall t hm)⟩)
    (by kernel_rfl)

end Go.Proofs.YtjcocjpenchplaaDoor.tyArrows
