/-
  TyParts is true for any type: the children of a type, laid together again with their labels, are the type. No conditions but the card's own.
-/
import Derived.Test.YtimlblbmfckeiaaDoorRows
import Derived.Test.YtimlblbmfckeiaaDoorCards
import Derived.Test.YtimlblbmfckeiaaDoorTie
import Derived.Test.YtimlblbmfckeiaaDoorTyLq
import Derived.Test.YtimlblbmfckeiaaDoorTyAl
import Derived.Test.YtimlblbmfckeiaaDoorTyT
import Derived.Test.YtimlblbmfckeiaaDoorTyAr
import Derived.Test.YtimlblbmfckeiaaDoorTyQa
import Derived.Test.YtimlblbmfckeiaaDoorTyRw
import Derived.Test.YtimlblbmfckeiaaDoorTyPe
import Derived.SevenTiedAt
import Derived.Deep.CutRange
import Derived.Deep.RegionHeld3
namespace Go.Proofs.YtimlblbmfckeiaaDoor.tyParts
open Go.ChangeShapes Go.WideShapes Go.ChangeAt Go.RowKit

theorem own : ownKnob Tryd.prog.godebug = none := by kernel_rfl

theorem names_of {l : List L.Nd} (h : L.namedL l = true) : (∀ x ∈ l, x.name.size ≤ 200) ∧ l.length ≤ 200 := by
  simp only [L.namedL, Bool.and_eq_true, decide_eq_true_eq, List.all_eq_true] at h
  exact ⟨h.2, h.1⟩

theorem plain_sub {a b : List L.Nd} (h : L.plainL a = true) (hs : ∀ x ∈ b, x ∈ a) : L.plainL b = true := by
  simp only [L.plainL, Bool.not_eq_true', List.any_eq_false] at h ⊢
  exact fun x hx => h x (hs x hx)
theorem static_sub {a b : List L.Nd} (h : L.staticL a = true) (hs : ∀ x ∈ b, x ∈ a) : L.staticL b = true := by
  simp only [L.staticL, Bool.not_eq_true', List.any_eq_false] at h ⊢
  exact fun x hx => h x (hs x hx)

theorem two_of {α β : Type} {f : α → β} {l : List α} {a b : β} (h : l.map f = [a, b]) : ∃ x y, l = [x, y] ∧ f x = a ∧ f y = b := by
  match l, h with
  | [x, y], h =>
    simp at h
    exact ⟨x, y, rfl, h.1, h.2⟩

/-- How deep what is left of a row of trees is. -/
theorem deep_cons (y : L.Nd) (k r : L.Fo) : k.deep + 1 ≤ (L.Fo.cons y k r).deep ∧ r.deep ≤ (L.Fo.cons y k r).deep := by
  simp only [L.Fo.deep]
  omega

set_option maxHeartbeats 8000000 in
set_option maxRecDepth 100000 in
theorem tyParts_true {W : World} (va : Value) (la : List L.Nd) (ha : Rd W W.heap.size va la) (h1 : ∀ y ∈ la, y.n ≤ 9223372036854775807) (hT : Tab W) :
    Calls Tryd.prog 5 #[va] W fun e w' => e = .returned (.bool true) ∧ Below W.heap.size W w' := by
  obtain ⟨is, his, hzs0, hzs1, hzs2⟩ := info_parts infoStr
  obtain ⟨it, hit, hzt0, hzt1, hzt2⟩ := info_parts infoTyp
  have NA := hid (named_any la va W ha)
  have HA := hid ha
  have HT := hid hT
  have H1 := hid h1
  obtain ⟨Aa, ca, rfl, hca, hcm, -⟩ := ha
  unfold maxLen at hcm
  clear hT h1
  cases hna : L.namedL la with
  | false =>
    rw [hna] at NA
    clear hna
    go_enter Tryd.func5, Tryd.ntmps5
    go_wp2_with fail
    refine (NA.out).mono ?_
    rintro e w1 ⟨rfl, rfl⟩
    go_wp2_with fail
    refine (alive_any _ HT.out).mono ?_
    rintro e w9 ⟨rfl, h9⟩
    go_wp2
    go_ret
    exact ⟨rfl, h9⟩
  | true =>
  rw [hna] at NA
  have hla := (names_of hna).2
  have HNA := hid (names_of hna).1
  clear hna
  go_enter Tryd.func5, Tryd.ntmps5
  go_wp2_with fail
  refine (NA.out).mono ?_
  rintro e w1 ⟨rfl, rfl⟩
  have HC := hid (refRight_any la (fun x hx => Nat.le_trans (HNA.out x hx) (by omega)) _ _ HA.out)
  clear NA
  cases hra : L.rightL la with
  | false =>
    rw [hra] at HC
    clear hra
    go_wp2_with fail
    refine (HC.out).mono ?_
    rintro e w2 ⟨rfl, h0⟩
    have HT2 := hid (HT.out.grows h0)
    have HX := hid h0
    clear h0
    go_wp2_with fail
    refine (alive_any _ HT2.out).mono ?_
    rintro e w9 ⟨rfl, h9⟩
    go_wp2
    go_ret
    exact ⟨rfl, HX.out.trans (h9.mono HX.out.size)⟩
  | true =>
  rw [hra] at HC
  have HRA := hid hra
  clear hra
  go_wp2_with fail
  refine (HC.out).mono ?_
  rintro e w2 ⟨rfl, h0⟩
  have X2 := hid h0
  have A2 := hid ((HA.out.below h0).mono h0.size)
  have T2 := hid (HT.out.grows h0)
  have hs2 := h0.size
  clear h0 HC
  obtain ⟨x, ks, hxa, hlx, bx, okx, dpx⟩ := (L.rightL_iff la).1 HRA.out
  have OX := hid okx
  have BX := hid bx
  have HXA := hid hxa
  have FT : Hid (Few la) := hid (few_of (by omega) (by
    rw [List.all_eq_true]
    intro z hz
    rw [hxa] at hz
    have h := L.numbered_flat _ okx z
    simp only [L.Fo.flat, List.append_nil] at h
    exact h hz))
  have hla0 : 0 < la.length := by rw [hxa]; simp
  have hx0 : la[0]'hla0 = x := by subst hxa; rfl
  have hparts : (L.Fo.cons x ks .nil).ok = true := okx
  simp only [L.Fo.ok, Bool.and_true, Bool.and_eq_true, decide_eq_true_eq] at hparts
  obtain ⟨⟨⟨hnum, hmany⟩, hst⟩, hkok⟩ := hparts
  have hd1 : la.drop 1 = ks.flat ++ [] := by rw [hxa]; simp
  have HC := hid (kids_any la FT.out _ 0 hla0 _ A2.out)
  rw [hx0, hmany, Int.toNat_natCast, L.kids_pos la ks (0 + 1) [] hkok hd1] at HC
  have HST := hid hst
  have HKOK := hid hkok
  have HD1 := hid hd1
  have HMANY := hid hmany
  have HNUM := hid hnum
  have HDP := hid dpx
  have hkl200 : ks.count ≤ 50 := by
    have := (L.many_of_numbered hnum).2
    omega
  have HX0 := hid hx0
  clear okx bx hxa hst hkok hd1 hmany hnum dpx hx0 hlx
  go_wp2_with fail
  refine (HC.out).mono ?_
  rintro e w3 ⟨vk, rfl, ok, h0⟩
  have X3 := hid (X2.out.trans (h0.mono X2.out.size))
  have A3 := hid ((A2.out.below h0).mono h0.size)
  have T3 := hid (T2.out.grows h0)
  have hbw3 : w1.heap.size ≤ w3.heap.size := X3.out.size
  obtain ⟨Ak, ck, hvk, hck⟩ := ok.rd
  have HCK := hid hck
  have hpl : (L.posF ks (0 + 1)).length = ks.count := L.posF_length _ _
  obtain ⟨PF, hPF⟩ : ∃ PF, PF = L.posF ks (0 + 1) := ⟨_, rfl⟩
  rw [← hPF] at hvk HCK hpl
  have HPLN := hid hpl
  clear hpl
  have HPF : Hid (PF.drop 0 = L.posF ks 1) := hid hPF
  subst hvk
  clear hck ok h0 HC X2 A2 T2 hPF
  go_wp2
  go_loopw [4, 5, 6, 7] (fun vat vp vl vi wr => ∃ (k : Nat) (f : L.Fo) (p : Nat) (bb : ByteArray) (ts : List (Value × List L.Nd)) (ss : List ByteArray), vat = .int .i64 p ∧ vi = .int .i64 k ∧ k + f.count = ks.count ∧ OwnT w3.heap.size vp ts wr ∧ OwnS w3.heap.size vl ss wr ∧ ts.length = k ∧ ss.length = k ∧ Below w3.heap.size w3 wr ∧
      Hid (f.ok = true ∧ L.Fo.stand x k bb f = true ∧ la.drop p = f.flat ++ [] ∧ PF.drop k = L.posF f p ∧ ts.map (·.2) ++ L.partsF f = L.partsF ks ∧ ss ++ L.namesF f = L.namesF ks ∧ f.deep ≤ ks.deep ∧ f.flat.length ≤ la.length ∧ p ≤ la.length)) (fun _ _ _ vi _ => ks.count - (intOf vi).toNat)
  case atStart =>
    refine ⟨0, ks, 1, ⟨#[]⟩, [], [], rfl, rfl, by omega, ⟨(World.ownsRow_made w3 #[] 0 (Nat.le_refl _) (Nat.zero_le _) (by simp)).alloc _, by simp⟩, (by have h := World.ownsRow_made (base := w3.heap.size) (e := 9) (size := 1) (w3.alloc (.cells #[] 23)) #[] 0 (by simp) (Nat.zero_le _) (by simp); simpa [OwnS] using h), rfl, rfl, (below_new _).alloc (by simp) _, hid ⟨HKOK.out, HST.out, HD1.out, HPF.out, rfl, rfl, Nat.le_refl _, ?_, by omega⟩⟩
    have := congrArg List.length HXA.out
    simp at this
    omega
  case round =>
    obtain ⟨k, f, p, bb, ts, ss, rfl, rfl, hkf, hOT, hOS, htl, hsl, hB, hI⟩ := hrel
    have hbw := hB.size
    have XR := hid (X3.out.trans (hB.mono hbw3))
    have AR := hid ((A3.out.below hB).mono hbw)
    have TR := hid (T3.out.grows hB)
    have hWr : w1.heap.size ≤ wr.heap.size := XR.out.size
    obtain ⟨Ap, cp, hvp⟩ := hOT.val
    obtain ⟨As, cs, hvs⟩ := hOS.val
    subst hvp
    subst hvs
    have HOT := hid hOT
    have HOS := hid hOS
    have HTL := hid htl
    have HSL := hid hsl
    have HKF := hid hkf
    clear hOT hOS htl hsl hkf
    cases f with
    | cons y ka r =>
      obtain ⟨hfo, hfs, hfd, hfp, hft, hfn, hfdp, hffl, -⟩ := hI.out
      have HKF2 : Hid (k + 1 + r.count = ks.count) := hid (by have := HKF.out; simp only [L.Fo.count] at this; omega)
      have hk50 : k < 50 := by have := HKF2.out; omega
      have hkl : k < PF.length := by have := HKF2.out; have := HPLN.out; omega
      have htl50 : ts.length ≤ 50 := by have := HTL.out; omega
      have hsl50 : ss.length ≤ 50 := by have := HSL.out; omega
      have hfo2 := hfo
      simp only [L.Fo.ok, Bool.and_eq_true] at hfo2
      have hoy : (L.Fo.cons y ka .nil).ok = true := by simp only [L.Fo.ok, Bool.and_true, Bool.and_eq_true]; exact hfo2.1
      have HOR := hid hfo2.2
      have hpk : PF[k] = p := by
        have := List.drop_eq_getElem_cons hkl
        rw [hfp, L.posF] at this
        injection this with h1 _
        exact h1.symm
      have HPN : Hid (PF.drop (k + 1) = L.posF r (p + (ka.flat.length + 1))) := hid (by
        have := List.drop_eq_getElem_cons hkl
        rw [hfp, L.posF] at this
        injection this with _ h2
        exact h2.symm)
      have hdy : la.drop p = y :: (ka.flat ++ (r.flat ++ [])) := by rw [hfd]; simp [L.Fo.flat]
      have HDN2 : Hid (la.drop (p + (ka.flat.length + 1)) = r.flat ++ []) := hid (by
        have := L.drop_more (l := la) (a := y :: ka.flat) (b := r.flat ++ []) (p := p) (by rw [hdy]; simp)
        simpa using this)
      obtain ⟨hpq, hly, -⟩ := drop_at hdy
      have heat : L.eat 1 (la.drop p) = ka.flat.length + 1 := by rw [hdy]; exact L.eat_tree hoy _
      have hpart : L.partL la p = L.setName (y :: ka.flat) ⟨#[]⟩ := by
        unfold L.partL
        rw [heat, hdy]
        congr 1
        simp
      simp only [L.Fo.stand, Bool.and_eq_true] at hfs
      have HSR := hid hfs.2
      have hsub : ∀ z ∈ y :: ka.flat, z ∈ la := fun z hz => by
        have h2 : z ∈ la.drop p := by
          rw [hdy]
          simp only [List.mem_cons, List.mem_append] at hz ⊢
          rcases hz with h | h
          · exact Or.inl h
          · exact Or.inr (Or.inl h)
        exact List.mem_of_mem_drop h2
      obtain ⟨hdc1, hdc2⟩ := deep_cons y ka r
      have hlen2 : (y :: ka.flat).length ≤ la.length := by
        simp only [L.Fo.flat, List.length_cons, List.length_append] at hffl ⊢
        omega
      have HRP : Hid (y.kind ≠ 9 → L.rightL (L.setName (y :: ka.flat) ⟨#[]⟩) = true) := hid fun h9 => L.part_right hoy h9 (by omega) (by have := HDP.out; omega)
      have HPP : Hid (L.plainL la = true → L.plainL (L.setName (y :: ka.flat) ⟨#[]⟩) = true) := hid fun h => by rw [L.setName_plain]; exact plain_sub h hsub
      have HSP : Hid (L.staticL la = true → L.staticL (L.setName (y :: ka.flat) ⟨#[]⟩) = true) := hid fun h => by rw [L.setName_static]; exact static_sub h hsub
      have HNP : Hid (∀ z ∈ L.setName (y :: ka.flat) ⟨#[]⟩, z.name.size ≤ 2000000) := hid fun z hz => by
        simp only [L.setName, List.mem_cons] at hz
        rcases hz with rfl | hz
        · exact Nat.zero_le _
        · exact Nat.le_trans (HNA.out z (hsub z (by simp [hz]))) (by omega)
      have HPT := hid (part_any la FT.out _ p hpq _ AR.out)
      rw [hpart] at HPT
      have hys : y.name.size ≤ 200 := HNA.out y (hsub y (by simp))
      obtain ⟨Aa', ca', hva, hla', hcm', hAn', hcy⟩ := HA.out
      simp only [Value.slice.injEq, true_and] at hva
      obtain ⟨hva1, -⟩ := hva
      subst hva1
      obtain ⟨b, o, hAa, hb, hcx⟩ := hcy (by intro h; rw [h] at hpq; simp at hpq)
      subst hAa
      have HCX := hid hcx
      obtain ⟨c0, c1, c2⟩ := hcx p hpq
      rw [hly] at c0 c1 c2
      have c0 := (XR.out.cell (p := ⟨b, o + p * 3, none⟩) hb).trans c0
      have c1 := (XR.out.cell (p := ⟨b, o + p * 3 + 1, none⟩) hb).trans c1
      have hbr : b < wr.heap.size := Nat.lt_of_lt_of_le hb hWr
      have C0 := hid c0
      have C1 := hid c1
      obtain ⟨gk, hAk, hgk, hgc⟩ := HCK.out (by intro h; rw [h] at hkl; simp at hkl)
      subst hAk
      have ik := (hB.cell (p := ⟨gk, k, none⟩) hgk).trans (hgc k hkl)
      rw [hpk] at ik
      have hpz : (p : Int) < (la.length : Int) := by omega
      have hkz : (k : Int) < (PF.length : Int) := by omega
      have HPI : Hid (p + L.eat 1 (la.drop p) = p + (ka.flat.length + 1)) := hid (by rw [heat])
      have HFT := hid hft
      have HFN := hid hfn
      have HDC : Hid (r.deep ≤ ks.deep) := hid (by omega)
      have HFL : Hid (r.flat.length ≤ la.length) := hid (by
        simp only [L.Fo.flat, List.length_cons, List.length_append] at hffl
        omega)
      have HPQ := hid hpq
      have HPE : Hid (p + (ka.flat.length + 1) ≤ la.length) := hid (by
        have := congrArg List.length hdy
        simp only [List.length_drop, List.length_cons, List.length_append] at this
        omega)
      have hplen : (L.setName (y :: ka.flat) ⟨#[]⟩).length = ka.flat.length + 1 := by rw [L.setName_length]; simp
      have HPARTS : Hid (L.partsF (.cons y ka r) = L.setName (y :: ka.flat) ⟨#[]⟩ :: L.partsF r ∧ L.namesF (.cons y ka r) = y.name :: L.namesF r) := hid ⟨rfl, rfl⟩
      clear hcy hfo hfs hfd hfp hft hfn hfdp hffl hfo2 hoy hpk hdy hpq hly heat hpart hsub hdc1 hdc2 hlen2 hcx c0 c1 c2 hgc hI hla' hcm' hAn'
      obtain ⟨PT, hPT⟩ : ∃ PT, PT = L.setName (y :: ka.flat) ⟨#[]⟩ := ⟨_, rfl⟩
      rw [← hPT] at HRP HPP HSP HNP HPT hplen HPARTS
      obtain ⟨YN, hYN⟩ : ∃ YN, YN = y.name := ⟨_, rfl⟩
      rw [← hYN] at hys C1 HPARTS
      obtain ⟨YK, hYK⟩ : ∃ YK, YK = y.kind := ⟨_, rfl⟩
      rw [← hYK] at C0 HRP
      have hPl0 : ¬ PT = [] := by intro h; rw [h] at hplen; simp at hplen
      have hplz : ((PT.length : Int) == 0) = false := by rw [hplen]; simp; omega
      have HPLEN := hid hplen
      clear hPT hYN hYK hplen
      go_wp2_with fail
      refine (HPT.out).mono ?_
      rintro e w5 ⟨vp, rfl, op, h5⟩
      obtain ⟨Aq, cq, hvq, -⟩ := op.rd
      subst hvq
      have X5 := hid (XR.out.trans (h5.mono hWr))
      have A5 := hid ((AR.out.below h5).mono h5.size)
      have T5 := hid (TR.out.grows h5)
      have P5 := hid (Own.more op hbw)
      have B5 := hid (hB.trans (h5.mono hbw))
      have c0 := (h5.cell (p := ⟨b, o + p * 3, none⟩) hbr).trans C0.out
      have hbb : b < w5.heap.size := Nat.lt_of_lt_of_le hbr h5.size
      have D0 := hid c0
      have D1 := hid ((h5.cell (p := ⟨b, o + p * 3 + 1, none⟩) hbr).trans C1.out)
      have HOT5 := hid (HOT.out.below h5)
      have HOS5 := hid (HOS.out.below h5)
      clear op h5 ik AR TR XR HPT HOT HOS C0 C1
      go_upto_region 12 with fail
      go_cut [81] from 24 to 96 (fun s81 wx => s81 = .bool false ∧ Below w5.heap.size w5 wx)
      case first =>
        by_cases h9 : YK = 9
        · subst h9
          have E := hid (plain_any la _ _ A5.out)
          go_wp2_with fail
          refine (E.out).mono ?_
          rintro e w6 ⟨rfl, h0⟩
          have Y6 := hid h0
          have A6 := hid ((A5.out.below h0).mono h0.size)
          have P6 := hid (P5.out.below h0)
          clear h0 E
          cases hpa : L.plainL la with
          | false =>
            clear hpa
            have E := hid (static_any la _ _ A6.out)
            go_wp2_with fail
            refine (E.out).mono ?_
            rintro e w7 ⟨rfl, h0⟩
            have Y7 := hid (Y6.out.trans (h0.mono Y6.out.size))
            have A7 := hid ((A6.out.below h0).mono h0.size)
            have P7 := hid (P6.out.below h0)
            clear h0 E
            cases hsa : L.staticL la with
            | false =>
              clear hsa
              go_wp2
              go_meet
              exact ⟨rfl, Y7.out⟩
            | true =>
              have E := hid (static_any PT _ _ P7.out.rd)
              rw [HSP.out hsa] at E
              go_wp2_with fail
              refine (E.out).mono ?_
              rintro e w8 ⟨rfl, h0⟩
              have Y8 := hid (Y7.out.trans (h0.mono Y7.out.size))
              have A8 := hid ((A7.out.below h0).mono h0.size)
              have P8 := hid (P7.out.below h0)
              clear h0 E
              clear hsa
              go_wp2
              go_meet
              exact ⟨rfl, Y8.out⟩
          | true =>
            have E := hid (plain_any PT _ _ P6.out.rd)
            rw [HPP.out hpa] at E
            go_wp2_with fail
            refine (E.out).mono ?_
            rintro e w7 ⟨rfl, h0⟩
            have Y7 := hid (Y6.out.trans (h0.mono Y6.out.size))
            have A7 := hid ((A6.out.below h0).mono h0.size)
            have P7 := hid (P6.out.below h0)
            clear h0 E
            clear hpa
            have E := hid (static_any la _ _ A7.out)
            go_wp2_with fail
            refine (E.out).mono ?_
            rintro e w8 ⟨rfl, h0⟩
            have Y8 := hid (Y7.out.trans (h0.mono Y7.out.size))
            have A8 := hid ((A7.out.below h0).mono h0.size)
            have P8 := hid (P7.out.below h0)
            clear h0 E
            cases hsa : L.staticL la with
            | false =>
              clear hsa
              go_wp2
              go_meet
              exact ⟨rfl, Y8.out⟩
            | true =>
              have E := hid (static_any PT _ _ P8.out.rd)
              rw [HSP.out hsa] at E
              go_wp2_with fail
              refine (E.out).mono ?_
              rintro e w9 ⟨rfl, h0⟩
              have Y9 := hid (Y8.out.trans (h0.mono Y8.out.size))
              have A9 := hid ((A8.out.below h0).mono h0.size)
              have P9 := hid (P8.out.below h0)
              clear h0 E
              clear hsa
              go_wp2
              go_meet
              exact ⟨rfl, Y9.out⟩
        · have h9z : (YK != 9) = true := by simpa using h9
          have h9y : (YK == 9) = false := by simpa using h9
          have E := hid (refRight_any PT HNP.out _ _ P5.out.rd)
          rw [HRP.out h9] at E
          go_wp2_with fail
          refine (E.out).mono ?_
          rintro e w6 ⟨rfl, h0⟩
          have Y6 := hid h0
          have A6 := hid ((A5.out.below h0).mono h0.size)
          have P6 := hid (P5.out.below h0)
          clear h0 E
          clear h9
          have E := hid (plain_any la _ _ A6.out)
          go_wp2_with fail
          refine (E.out).mono ?_
          rintro e w7 ⟨rfl, h0⟩
          have Y7 := hid (Y6.out.trans (h0.mono Y6.out.size))
          have A7 := hid ((A6.out.below h0).mono h0.size)
          have P7 := hid (P6.out.below h0)
          clear h0 E
          cases hpa : L.plainL la with
          | false =>
            clear hpa
            have E := hid (static_any la _ _ A7.out)
            go_wp2_with fail
            refine (E.out).mono ?_
            rintro e w8 ⟨rfl, h0⟩
            have Y8 := hid (Y7.out.trans (h0.mono Y7.out.size))
            have A8 := hid ((A7.out.below h0).mono h0.size)
            have P8 := hid (P7.out.below h0)
            clear h0 E
            cases hsa : L.staticL la with
            | false =>
              clear hsa
              go_wp2
              go_meet
              exact ⟨rfl, Y8.out⟩
            | true =>
              have E := hid (static_any PT _ _ P8.out.rd)
              rw [HSP.out hsa] at E
              go_wp2_with fail
              refine (E.out).mono ?_
              rintro e w9 ⟨rfl, h0⟩
              have Y9 := hid (Y8.out.trans (h0.mono Y8.out.size))
              have A9 := hid ((A8.out.below h0).mono h0.size)
              have P9 := hid (P8.out.below h0)
              clear h0 E
              clear hsa
              go_wp2
              go_meet
              exact ⟨rfl, Y9.out⟩
          | true =>
            have E := hid (plain_any PT _ _ P7.out.rd)
            rw [HPP.out hpa] at E
            go_wp2_with fail
            refine (E.out).mono ?_
            rintro e w8 ⟨rfl, h0⟩
            have Y8 := hid (Y7.out.trans (h0.mono Y7.out.size))
            have A8 := hid ((A7.out.below h0).mono h0.size)
            have P8 := hid (P7.out.below h0)
            clear h0 E
            clear hpa
            have E := hid (static_any la _ _ A8.out)
            go_wp2_with fail
            refine (E.out).mono ?_
            rintro e w9 ⟨rfl, h0⟩
            have Y9 := hid (Y8.out.trans (h0.mono Y8.out.size))
            have A9 := hid ((A8.out.below h0).mono h0.size)
            have P9 := hid (P8.out.below h0)
            clear h0 E
            cases hsa : L.staticL la with
            | false =>
              clear hsa
              go_wp2
              go_meet
              exact ⟨rfl, Y9.out⟩
            | true =>
              have E := hid (static_any PT _ _ P9.out.rd)
              rw [HSP.out hsa] at E
              go_wp2_with fail
              refine (E.out).mono ?_
              rintro e w10 ⟨rfl, h0⟩
              have Y10 := hid (Y9.out.trans (h0.mono Y9.out.size))
              have A10 := hid ((A9.out.below h0).mono h0.size)
              have P10 := hid (P9.out.below h0)
              clear h0 E
              clear hsa
              go_wp2
              go_meet
              exact ⟨rfl, Y10.out⟩
      case rest =>
        obtain ⟨rfl, hBc⟩ := hcut
        have Bc := hid (B5.out.trans (hBc.mono B5.out.size))
        have Pc := hid (P5.out.below hBc)
        have HOTc : wc.ownsRow w3.heap.size 23 1 (.slice Ap ts.length cp) ts.length (ts.map (·.1)) := (HOT5.out.below hBc).1
        have HPTc := hid (HOT5.out.below hBc).2
        have HOSc := hid (HOS5.out.below hBc)
        have c1 := (hBc.cell (p := ⟨b, o + p * 3 + 1, none⟩) hbb).trans D1.out
        have hWc : w3.heap.size ≤ wc.heap.size := Bc.out.size
        have hbc : b < wc.heap.size := Nat.lt_of_lt_of_le hbb hBc.size
        have HC1 := hid c1
        clear hBc A5 T5 P5 X5 B5 HOT5 HOS5 c0 D0 D1 c1
        go_wp2_with (at_builtin; refine wpList_append_own _ rfl _ _ 35 rfl w3.heap.size 23 it (.slice none 0 0) 1 24 Tryd.underlying35 hit hzt0 hzt1 hzt2 rfl (by decide) _ _ _ rfl (World.ownsRow.alloc HOTc _) ⟨wc.heap.size, 0, none⟩ 1 1 [.slice Aq PT.length cq] rfl rfl ?c1 ?c2 ?c3 ?c4 ?c5 ?_)
        case c1 => intro j u hj; match j, hj with | 0, hj => simp at hj; subst hj; simp [Addr.add]
        case c2 => intro u hu; simp at hu; subst hu; rfl
        case c3 => unfold maxLen; omega
        case c4 => omega
        case c5 => simp; omega
        intro v' w6 hown hgrow _
        have hOTn := OwnT.snoc (ts := ts) (.slice Aq PT.length cq, PT) hown (fun z hz => row_aside ((HPTc.out z hz).alloc _) (World.ownsRow.alloc HOTc _) (by decide) hgrow) (row_aside (Own.alloc Pc.out _) (World.ownsRow.alloc HOTc _) (by decide) hgrow)
        have hOSn : w6.ownsRow w3.heap.size 9 1 (.slice As ss.length cs) ss.length (ss.map .string) := row_aside (World.ownsRow.alloc HOSc.out _) (World.ownsRow.alloc HOTc _) (by decide) hgrow
        have hB6 : Below w3.heap.size w3 w6 := (Bc.out.alloc hWc _).grown hgrow (by simp; omega) (fun k hk => (World.ownsRow.lt HOTc k hk).1)
        have HOTn := hid hOTn
        have hg6 : Below b.succ wc w6 := ((below_new _).mono hbc).grown hgrow (by simp; omega) (fun k hk => by have := (World.ownsRow.lt HOTc k hk).1; omega)
        have c1 := (hg6.cell (p := ⟨b, o + p * 3 + 1, none⟩) (Nat.lt_succ_self b)).trans HC1.out
        have hw6 : wc.heap.size + 1 ≤ w6.heap.size := by have := hgrow.size; simpa using this
        have HB6 := hid hB6
        obtain ⟨Av, cv, hvv⟩ := hOTn.val
        have hvv : v' = .slice Av (ts.length + 1) cv := by simpa using hvv
        subst hvv
        clear hown hgrow hOTn HOTc HPTc HOSc hB6 hg6 Pc Bc HC1
        go_wp2_with (at_builtin; refine wpList_append_own _ rfl _ _ 34 rfl w3.heap.size 9 is (.string ⟨#[]⟩) 1 16 Tryd.underlying34 his hzs0 hzs1 hzs2 rfl (by decide) _ _ _ rfl (World.ownsRow.alloc hOSn _) ⟨w6.heap.size, 0, none⟩ 1 1 [.string YN] rfl rfl ?c1 ?c2 ?c3 ?c4 ?c5 ?_)
        case c1 => intro j u hj; match j, hj with | 0, hj => simp at hj; subst hj; simp [Addr.add]
        case c2 => intro u hu; simp at hu; subst hu; rfl
        case c3 => unfold maxLen; omega
        case c4 => omega
        case c5 => simp; omega
        intro v'' w7 hown hgrow _
        have hB7 : Below w3.heap.size w3 w7 := (HB6.out.alloc (by omega) _).grown hgrow (by simp; omega) (fun k hk => (World.ownsRow.lt hOSn k hk).1)
        have hOT7 : OwnT w3.heap.size _ _ w7 := ⟨row_aside (World.ownsRow.alloc HOTn.out.1 _) (World.ownsRow.alloc hOSn _) (by decide) hgrow, fun z hz => row_aside ((HOTn.out.2 z hz).alloc _) (World.ownsRow.alloc hOSn _) (by decide) hgrow⟩
        have hOS7 : OwnS w3.heap.size v'' (ss ++ [YN]) w7 := OwnS.snoc YN hown
        have HOT7 := hid hOT7
        have HOS7 := hid hOS7
        have HB7 := hid hB7
        have HEN := hid (end_any la FT.out _ p HPQ.out w7 (((HA.out.low (X3.out.trans (hB7.mono hbw3))).mono (by have := hB7.size; omega))))
        rw [HPI.out] at HEN
        have hw7 := hB7.size
        clear hown hgrow hB7 hOT7 hOS7 hOSn HOTn HB6 c1
        go_wp2_with fail
        refine (HEN.out).mono ?_
        rintro e w8 ⟨rfl, h8⟩
        have hOT8 := HOT7.out.below h8
        have hOS8 := HOS7.out.below h8
        have hB8 := HB7.out.trans (h8.mono hw7)
        clear h8
        go_wp2
        go_roundw
        case rel =>
          refine ⟨k + 1, r, p + (ka.flat.length + 1), y.name, ts ++ [(Value.slice Aq PT.length cq, PT)], ss ++ [YN], by go_num, by go_num, HKF2.out, by first | exact hOT8 | (simpa using hOT8), hOS8, by rw [List.length_append, HTL.out]; rfl, by rw [List.length_append, HSL.out]; rfl, hB8, hid ⟨HOR.out, HSR.out, HDN2.out, HPN.out, ?_, ?_, HDC.out, HFL.out, HPE.out⟩⟩
          · rw [← HFT.out, HPARTS.out.1]
            simp
          · rw [← HFN.out, HPARTS.out.2]
            simp
        case measure =>
          have := HKF2.out
          simp [intOf]
          omega
    | nil =>
      have hk : k = ks.count := by simpa [L.Fo.count] using HKF.out
      obtain ⟨-, -, hfd, -, hft, hfn, -, -, hple⟩ := hI.out
      have hpe : p = la.length := by
        have := congrArg List.length hfd
        simp [L.Fo.flat] at this
        omega
      simp only [L.partsF, L.namesF, List.append_nil] at hft hfn
      have HFT := hid hft
      have HFN := hid hfn
      subst hpe
      subst hk
      clear hI hfd hft hfn hple
      have hpz : ¬ ((ks.count : Int) < (PF.length : Int)) := by have := HPLN.out; omega
      obtain ⟨Aa', ca', hva, -, -, -, hcy⟩ := AR.out
      simp only [Value.slice.injEq, true_and] at hva
      obtain ⟨hva1, -⟩ := hva
      subst hva1
      obtain ⟨b, o, hAa, hb, hcx⟩ := hcy (by intro h; rw [h] at hla0; simp at hla0)
      subst hAa
      have c0 := (hcx 0 hla0).1
      rw [HX0.out] at c0
      simp only [Nat.zero_mul, Nat.add_zero] at c0
      have HC0 := hid c0
      have HRC := hid (right_any la (fun z hz => Nat.le_trans (HNA.out z hz) (by omega)) _ _ AR.out)
      rw [HRA.out] at HRC
      clear hcx hcy c0
      have HB := hid hB
      clear hB
      go_wp2_with fail
      refine (HRC.out).mono ?_
      rintro e w5 ⟨rfl, h5⟩
      have X5 := hid (XR.out.trans (h5.mono hWr))
      have A5 := hid ((AR.out.below h5).mono h5.size)
      have T5 := hid (TR.out.grows h5)
      have P5 := hid (HOT.out.below h5)
      have S5 := hid (HOS.out.below h5)
      have c0 := (h5.cell (p := ⟨b, o, none⟩) hb).trans HC0.out
      have hb5 : b < w5.heap.size := Nat.lt_of_lt_of_le hb h5.size
      clear h5 HRC AR TR XR HOT HOS HC0
      by_cases h5 : x.kind = 5
      · have hm2 : ks.count = 2 := by
          have := HMANY.out
          unfold L.many at this
          rw [if_pos h5] at this
          omega
        have hx5 : x = ⟨5, ⟨#[]⟩, 0⟩ := by
          have h1 := bare_name BX.out
          have h2 := n_zero HNUM.out (by omega)
          obtain ⟨a, b, c⟩ := x
          simp only at h1 h2 h5
          rw [h1, h2, h5]
        obtain ⟨y, ka, z, kb, hks⟩ : ∃ y ka z kb, ks = .cons y ka (.cons z kb .nil) := by
          cases ks with
          | nil => simp [L.Fo.count] at hm2
          | cons y ka r =>
            cases r with
            | nil => simp [L.Fo.count] at hm2
            | cons z kb r2 =>
              cases r2 with
              | nil => exact ⟨y, ka, z, kb, rfl⟩
              | cons _ _ _ => simp [L.Fo.count] at hm2
        have hst := HST.out
        rw [hks] at hst
        simp only [L.Fo.stand, L.mayStand, if_pos h5, Bool.and_true, Bool.and_eq_true] at hst
        have hpy : L.setName (y :: ka.flat) ⟨#[]⟩ = y :: ka.flat := setName_bare _ hst.1
        have hpz' : L.setName (z :: kb.flat) ⟨#[]⟩ = z :: kb.flat := setName_bare _ hst.2
        have hft := HFT.out
        rw [hks] at hft
        simp only [L.partsF, hpy, hpz'] at hft
        obtain ⟨t1, t2, hts, ht1, ht2⟩ := two_of hft
        have HLA : Hid (⟨5, ⟨#[]⟩, 0⟩ :: (t1.2 ++ t2.2) = la) := hid (by rw [HXA.out, hx5, hks, ht1, ht2]; simp [L.Fo.flat])
        have hln : t1.2.length + t2.2.length + 1 = la.length := by have := congrArg List.length HLA.out; simp only [List.length_cons, List.length_append] at this; omega
        have H1n : Hid (t1.2 ≠ []) := hid (by rw [ht1]; simp)
        have H2n : Hid (t2.2 ≠ []) := hid (by rw [ht2]; simp)
        have ho1 := P5.out.2 t1 (by rw [hts]; simp)
        have ho2 := P5.out.2 t2 (by rw [hts]; simp)
        have O1 := hid ho1
        have O2 := hid ho2
        obtain ⟨A1, c1, hv1, -⟩ := ho1.rd
        obtain ⟨A2, c2, hv2, -⟩ := ho2.rd
        obtain ⟨g, hAg, hgl, gc0, gc1⟩ := OwnT.two P5.out hts
        subst hAg
        rw [hv1] at gc0
        rw [hv2] at gc1
        have htl2 : ((ts.length : Int) == 2) = true := by rw [hts]; rfl
        have htl3 : (1 : Int) < (ts.length : Int) := by rw [hts]; simp
        have htl0 : (0 : Int) < (ts.length : Int) := by omega
        have htl0n : 0 < ts.length := by omega
        have htl0e : ¬ ts = [] := by intro h; rw [h] at htl0n; exact absurd htl0n (by simp)
        have h5z : (x.kind == 5) = true := by simp [h5]
        rw [hv1] at O1
        rw [hv2] at O2
        generalize t1.2 = L1 at *
        generalize t2.2 = L2 at *
        have HAR := hid (fun (w' : World) (h : Below w5.heap.size w5 w') => arrow_any L1 L2 _ _ w' (O1.out.below h).rd (O2.out.below h).rd H1n.out H2n.out (by omega) (by omega))
        have HAL := hid (fun (w' : World) (h : Below w5.heap.size w5 w') => alive_any w' (T5.out.grows h))
        have HD := hid (show Below w5.heap.size w5 w5.drew from (Below.refl _ _).drew)
        have HON := hid (fun (w' : World) (v' : Value) (B' : Nat) (h : Below w5.heap.size w5 w') (ho : Own B' v' (⟨5, ⟨#[]⟩, 0⟩ :: (L1 ++ L2)) w') => one_any (⟨5, ⟨#[]⟩, 0⟩ :: (L1 ++ L2)) la _ _ w' ho.rd ((A5.out.below h).mono h.size))
        have G0 := hid gc0
        have G1 := hid gc1
        have HGL := hid hgl
        clear hx5 hks hst hpy hpz' hft hts ht1 ht2 ho1 ho2 hv1 hv2 h5 hm2
        clear gc0 gc1
        go_upto_region 20 with fail
        go_region_held3 (fun w' => w'.cell? ⟨g, 0, none⟩ = some (.slice A1 L1.length c1) ∧ w'.cell? ⟨g, 1, none⟩ = some (.slice A2 L2.length c2)) (first | exact ⟨G0.out, G1.out⟩ | exact ⟨(HB9.out.cell (p := ⟨g, 0, none⟩) HGL.out).trans G0.out, (HB9.out.cell (p := ⟨g, 1, none⟩) HGL.out).trans G1.out⟩ | exact ⟨(HB10.out.cell (p := ⟨g, 0, none⟩) HGL.out).trans G0.out, (HB10.out.cell (p := ⟨g, 1, none⟩) HGL.out).trans G1.out⟩ | exact ⟨(HB11.out.cell (p := ⟨g, 0, none⟩) HGL.out).trans G0.out, (HB11.out.cell (p := ⟨g, 1, none⟩) HGL.out).trans G1.out⟩) (first
          | (go_at_call 8; refine (HAL.out _ HD.out).mono ?_; rintro e w9 ⟨rfl, h9⟩; have HB9 := hid (HD.out.trans h9); clear h9)
          | (go_at_call 21; refine (HAR.out _ HB9.out).mono ?_; rintro e w10 ⟨v10, rfl, ho10, h10⟩; have HB10 := hid (HB9.out.trans (h10.mono HB9.out.size)); have HO10 := hid ho10; clear h10 ho10)
          | (go_at_call 16; refine (HON.out _ _ _ HB10.out HO10.out).mono ?_; rintro e w11 ⟨rfl, h11⟩; have HB11 := hid (HB10.out.trans (h11.mono HB10.out.size)); clear h11))
        all_goals go_wp2
        all_goals go_ret
        all_goals exact ⟨ret_bool (by simp [HLA.out]), X5.out.trans (HB11.out.mono X5.out.size)⟩
      · have h5z : (x.kind == 5) = false := by simpa using h5
        have HPL := hid (plain_any la _ _ A5.out)
        cases hpa : L.plainL la with
        | false =>
          rw [hpa] at HPL
          clear hpa
          go_wp2_with fail
          refine (HPL.out).mono ?_
          rintro e w6 ⟨rfl, h6⟩
          have X6 := hid (X5.out.trans (h6.mono X5.out.size))
          have T6 := hid (T5.out.grows h6)
          clear h6
          go_wp2_with fail
          refine (alive_any _ T6.out).mono ?_
          rintro e w9 ⟨rfl, h9⟩
          go_wp2
          go_ret
          exact ⟨rfl, X6.out.trans (h9.mono X6.out.size)⟩
        | true =>
          rw [hpa] at HPL
          have HPA := hid hpa
          clear hpa
          by_cases h67 : x.kind = 6 ∨ x.kind = 7
          · have HRO := hid (fun (w' : World) (hs : RdS w' w'.heap.size (.slice As ss.length cs) ss) (ht : RdT w' (.slice Ap ts.length cp) ts) => rowParts_any x ks OX.out h67 (fun z hz => by
              have := HPA.out
              simp only [L.plainL, Bool.not_eq_true', List.any_eq_false] at this
              have := this z (by rw [HXA.out]; simp [hz])
              simp only [L.varN, Bool.or_eq_true, decide_eq_true_eq, not_or] at this
              exact this.2) BX.out (by have := congrArg List.length HXA.out; simp only [List.length_cons] at this; omega) (fun z hz => Nat.le_trans (HNA.out z (by rw [HXA.out]; simp [hz])) (by omega)) ts HFT.out _ _ w' (by rw [← HFN.out]; exact hs) ht)
            rcases h67 with h6 | h6
            · rw [h6] at c0 HRO
              go_wp2_with fail
              refine (HPL.out).mono ?_
              rintro e w6 ⟨rfl, h6'⟩
              have X6 := hid (X5.out.trans (h6'.mono X5.out.size))
              have A6 := hid ((A5.out.below h6').mono h6'.size)
              have T6 := hid (T5.out.grows h6')
              have P6 := hid (P5.out.below h6')
              have S6 := hid (S5.out.below h6')
              have c0 := (h6'.cell (p := ⟨b, o, none⟩) hb5).trans c0
              clear h6' A5 T5 P5 S5 X5 HPL
              have HRR := hid (HRO.out w6 S6.out.rd P6.out.rd)
              go_wp2_with fail
              refine (HRR.out).mono ?_
              rintro e w7 ⟨h7', vr, rfl, hor⟩
              obtain ⟨Ar, cr, hvr, -⟩ := hor.rd
              rw [← HXA.out] at hvr hor
              subst hvr
              have X7 := hid (X6.out.trans (h7'.mono X6.out.size))
              have A7 := hid ((A6.out.below h7').mono h7'.size)
              have T7 := hid (T6.out.grows h7')
              have R7 := hid hor
              clear h7' hor A6 T6 P6 S6 X6 HRR HRO c0
              go_wp2_with fail
              refine (alive_any _ T7.out).mono ?_
              rintro e w8 ⟨rfl, h8⟩
              have X8 := hid (X7.out.trans (h8.mono X7.out.size))
              have HO8 := hid (one_any la la _ _ _ (R7.out.below h8).rd ((A7.out.below h8).mono h8.size))
              rw [decide_eq_true (rfl : la = la)] at HO8
              clear h8 A7 T7 R7 X7
              go_wp2_with fail
              refine (HO8.out).mono ?_
              rintro e w9 ⟨rfl, h9⟩
              go_wp2
              go_ret
              exact ⟨ret_bool (by simp), X8.out.trans (h9.mono X8.out.size)⟩
            · rw [h6] at c0 HRO
              go_wp2_with fail
              refine (HPL.out).mono ?_
              rintro e w6 ⟨rfl, h6'⟩
              have X6 := hid (X5.out.trans (h6'.mono X5.out.size))
              have A6 := hid ((A5.out.below h6').mono h6'.size)
              have T6 := hid (T5.out.grows h6')
              have P6 := hid (P5.out.below h6')
              have S6 := hid (S5.out.below h6')
              have c0 := (h6'.cell (p := ⟨b, o, none⟩) hb5).trans c0
              clear h6' A5 T5 P5 S5 X5 HPL
              have HRR := hid (HRO.out w6 S6.out.rd P6.out.rd)
              go_wp2_with fail
              refine (HRR.out).mono ?_
              rintro e w7 ⟨h7', vr, rfl, hor⟩
              obtain ⟨Ar, cr, hvr, -⟩ := hor.rd
              rw [← HXA.out] at hvr hor
              subst hvr
              have X7 := hid (X6.out.trans (h7'.mono X6.out.size))
              have A7 := hid ((A6.out.below h7').mono h7'.size)
              have T7 := hid (T6.out.grows h7')
              have R7 := hid hor
              clear h7' hor A6 T6 P6 S6 X6 HRR HRO c0
              go_wp2_with fail
              refine (alive_any _ T7.out).mono ?_
              rintro e w8 ⟨rfl, h8⟩
              have X8 := hid (X7.out.trans (h8.mono X7.out.size))
              have HO8 := hid (one_any la la _ _ _ (R7.out.below h8).rd ((A7.out.below h8).mono h8.size))
              rw [decide_eq_true (rfl : la = la)] at HO8
              clear h8 A7 T7 R7 X7
              go_wp2_with fail
              refine (HO8.out).mono ?_
              rintro e w9 ⟨rfl, h9⟩
              go_wp2
              go_ret
              exact ⟨ret_bool (by simp), X8.out.trans (h9.mono X8.out.size)⟩
          · have h6z : (x.kind != 6) = true := by simp; omega
            have h7z : (x.kind != 7) = true := by simp; omega
            have h6y : (x.kind == 6) = false := by simp; omega
            have h7y : (x.kind == 7) = false := by simp; omega
            clear h5 h67
            generalize x.kind = xk at *
            go_wp2_with fail
            refine (HPL.out).mono ?_
            rintro e w6 ⟨rfl, h6⟩
            have X6 := hid (X5.out.trans (h6.mono X5.out.size))
            have T6 := hid (T5.out.grows h6)
            have c0 := (h6.cell (p := ⟨b, o, none⟩) hb5).trans c0
            clear h6
            go_wp2_with fail
            refine (alive_any _ T6.out).mono ?_
            rintro e w9 ⟨rfl, h9⟩
            go_wp2
            go_ret
            exact ⟨rfl, X6.out.trans (h9.mono X6.out.size)⟩

set_option maxRecDepth 100000 in
theorem tyParts_lifted (os : Os) (started : os.Started) (H : Type) (enc : TypeId × Value → H) :
    ReturnsInHanded {} Tryd.checked os 5 .any (fun w args => (Rows.tyPartsSpec.pre enc Tryd.prog Tryd.f5 [] false w args ∧ laidMetH Tryd.prog laidAll w) ∧ sizedMet enc Tryd.prog Tryd.f5 (OpenSpec.ofChange Rows.tyPartsSpec) false w args)
      (Rows.tyPartsSpec.post enc Tryd.prog Tryd.f5 false true false false) := by
  refine returnsInHanded_of_change_and (C := Tryd.checked) (X := fun w _ => laidMetH Tryd.prog laidAll w) (fun _ _ _ hh h => h.of_heap hh) own started (by kernel_rfl) Tryd.func5
    (ChangeSpec.witness_shaped (enc := enc) (C := Tryd.checked) (os := os) (X := fun w _ => laidMetH Tryd.prog laidAll w) false (World.doorLaid Tryd.prog 400 os) #[.slice none 0 0] 8 rfl (World.shaped_of_RefB (by kernel_rfl) (by kernel_rfl)) (by kernel_rfl) (by kernel_rfl) (by kernel_rfl) (door_met os _)) ?_
  intro W base args ds gs before hval0 hW _ _ hL _
  have hT := tab_of_laid hL
  have hlts := hW.lt
  have hval : ∀ (j : Nat) t v, Tryd.f5.params[j]? = some t → args[j]? = some v → Value.okWide Tryd.prog W .any base t v := hval0
  have hW' := hW
  obtain ⟨p, q, hA0, hV, rfl, hfz, hnd⟩ := hW
  have hA : DataW.TrodAll enc Tryd.prog W 0 (fun _ => true) true Tryd.f5.params.toList args.toList ds p := hA0
  rw [Tryd.params5] at hA hval
  obtain ⟨v0, vs0, d0, ds0, p0, q0, hargs, rfl, rfl, h0, r0⟩ := trodAll_cons hA
  obtain ⟨hn, rfl, rfl⟩ := trodAll_nil r0
  obtain rfl : args = #[v0] := by cases args; simp_all
  obtain ⟨rfl, rfl⟩ := trodVars_none hV
  obtain ⟨sa0, sl0, sc0, hsv0⟩ := okWide_slice Tryd.underlying23 (hval 0 23 v0 rfl rfl)
  obtain ⟨fuel0, hf0⟩ := h0
  obtain ⟨u0, l0, hu0, hR0, hn0⟩ := rd_of_trod hf0
  obtain rfl : v0 = u0 := by
    rw [hsv0] at hu0
    rw [hsv0]
    simpa [Value.cells] using hu0
  clear hA0 hval0
  simp only [List.append_nil] at hW' hlts
  refine (tyParts_true v0 l0 hR0 hn0 hT).mono fun e W' ⟨he, hB⟩ => ?_
  subst he
  refine ⟨_, rfl, _, _, _, [], (p0 ++ []), [], by simpa using hW', ?_, ?_, ?_, hB.frame _, fun h => by cases h⟩
  · exact trodAll_cons_mk (shut_bool Tryd.underlying4 _) trodAll_mk0
  · exact (trodAll_cons_mk (Below.trod (by kernel_rfl) (by kernel_rfl) (of_decide_eq_true (by kernel_rfl)) ⟨fuel0, hf0⟩ hB (fun x hx => hlts x (by simp [hx]))) trodAll_mk0)
  · rfl

/-- TyParts: the row. -/
theorem tyParts_holds : Rows.TyPartsSaid :=
  OpenClaim.holds_of_wide 5 Tryd.f5 rfl rfl rfl rfl rfl rfl rfl ⟨rfl, rfl, rfl, rfl, rfl⟩ rfl rfl rfl rfl rfl (by kernel_rfl) Tryd.func5 (by kernel_rfl)
    (of_decide_eq_true (by kernel_rfl)) (by unfold Func.isWrapper; first | (rw [if_pos (by decide +kernel)]; kernel_rfl) | (rw [if_neg (by decide +kernel)]; exact ⟨rfl, rfl⟩))
    (fun os started H enc _ => tyParts_lifted os started H enc)

/-- TyParts: the given statement, the card: the three tables are tied to the program's text. -/
theorem tyParts_card : Rows.TyPartsCardSaid :=
  Claim7.holds_tied_plain_at .later [] [.data, .data, .data] true Rows.tyPartsCard.stood.harness false
    tyParts_holds (fun _ h => by cases h) (by kernel_rfl) (fun _ h => by cases h) tyParts_row_tie rfl ⟨rfl, rfl⟩ (by kernel_rfl) rfl
    (fun f fn hf hfn => by
      obtain rfl : f = 5 := Option.some.inj ((show Tryd.prog.funcNamed "leaven/leavenlaw03.TyParts" = some 5 by kernel_rfl).symm.trans hf) |>.symm
      obtain rfl : fn = Tryd.f5 := (Option.some.inj (Tryd.func5.symm.trans hfn)).symm
      exact ⟨by kernel_rfl, fun j t ht => by
        rw [Tryd.params5] at ht
        have hm : t ∈ [23] := by simpa using Array.mem_of_getElem? ht
        have hall : ([23].all fun u => !Tryd.prog.wantsStandIn u) = true := by kernel_rfl
        exact (show Tryd.prog.wantsStandIn t = false by simpa using List.all_eq_true.1 hall t hm)⟩)
    (by kernel_rfl)

end Go.Proofs.YtimlblbmfckeiaaDoor.tyParts
