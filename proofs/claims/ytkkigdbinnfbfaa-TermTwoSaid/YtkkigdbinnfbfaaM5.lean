/-
  The texts TyPe, one behind the other. Conditions: those that each of them names.
-/
import Derived.Test.YtkkigdbinnfbfaaM4
section
/-
  The walk of the reference's Print of a right tree. Conditions: a slice that reads as a right tree of at most 10000 nodes, labels of at most 200 bytes, numbers below 2^63.
-/
namespace Go.Proofs.Ytkkigdbinnfbfaa
open Go.RowKit

theorem drop_at {l : List L.Nd} {q : Nat} {x : L.Nd} {r : List L.Nd} (h : l.drop q = x :: r) : ∃ hq : q < l.length, l[q] = x ∧ l.drop (q + 1) = r := by
  have hq : q < l.length := by
    rcases Nat.lt_or_ge q l.length with h2 | h2
    · exact h2
    · rw [List.drop_eq_nil_of_le h2] at h; cases h
  have := List.drop_eq_getElem_cons hq
  rw [h] at this
  injection this with h1 h2
  exact ⟨hq, h1.symm, h2.symm⟩

/-- The body of an arrow, of its children's bodies. -/
theorem body_arrow {x y z : L.Nd} {k1 k2 : L.Fo} (h5 : x.kind = 5) (hy : y.name.size = 0) (hz : z.name.size = 0) :
    body false x (.cons y k1 (.cons z k2 .nil)) = (if y.kind = 5 then [40] ++ (body false y k1 ++ [41]) else body false y k1) ++ ([32, 45, 62, 32] ++ body false z k2) := by
  rw [body_plain, L.prs_cons, L.prs_cons]
  have hf : L.first x = [] := by simp [L.first, h5]
  have hl : L.last x.kind = [] := by simp [L.last, h5]
  have hp : L.par x.kind 0 y = decide (y.kind = 5) := by simp [L.par, h5]
  have hp1 : L.par x.kind (0 + 1) z = false := by simp [L.par]
  rw [hf, hl, hp, hp1, prT_body, prT_body, L.lab, L.lab, if_pos hy, if_pos hz]
  by_cases hk : y.kind = 5
  · simp [hk, body_par, L.betw, h5, L.prs]
  · simp [hk, L.betw, h5, L.prs]

set_option maxHeartbeats 4000000 in
set_option maxRecDepth 100000 in
theorem printed_any (l : List L.Nd) (hs : Short l) (hF : Few l) (hll : l.length ≤ 10000) (v : Value) : ∀ (n : Nat) (x : L.Nd) (ks : L.Fo), ks.flat.length < n → (L.Fo.cons x ks .nil).ok = true →
    ∀ (rest : List L.Nd) (q : Nat) (w : World), l.drop q = x :: (ks.flat ++ rest) → Rd w w.heap.size v l →
    Calls Try.prog 27 #[v, .int .i64 q] w fun e w' => e = .returned (.string ⟨(body false x ks).toArray⟩) ∧ Below w.heap.size w w' := by
  intro n
  induction n with
  | zero => intro x ks h; omega
  | succ n ih =>
    intro x ks hn hok rest q w hd hx
    have IH := hid ih
    clear ih
    have HOK := hid hok
    have HS := hid hs
    have HF := hid hF
    obtain ⟨hq, hxq, hdn⟩ := drop_at hd
    simp only [L.Fo.ok, Bool.and_true, Bool.and_eq_true, decide_eq_true_eq] at hok
    obtain ⟨⟨⟨hnum, hmany⟩, hst⟩, hkok⟩ := hok
    have hKC := hid (refKids_any l hF v q hq w hx)
    rw [hxq, hmany, Int.toNat_natCast, L.kids_pos l ks (q + 1) rest hkok hdn] at hKC
    have hkd := kind_of hnum
    have hkc : ks.count ≤ 50 := by have := (L.many_of_numbered hnum).2; omega
    have hsx := hs x (by rw [← hxq]; exact List.getElem_mem hq)
    have hbl : (body false x ks).length ≤ 3000000 := by
      have hsub : Short (x :: ks.flat) := fun y hy => hs y (by
        have : y ∈ l.drop q := by rw [hd]; simp only [List.mem_cons, List.mem_append] at hy ⊢; exact hy.imp id Or.inl
        exact List.mem_of_mem_drop this)
      have h1 := prT_len (p := false) HOK.out hsub
      have h2 := congrArg List.length hd
      rw [prT_body, List.length_append] at h1
      simp only [List.length_drop, List.length_cons, List.length_append] at h2
      omega
    have HX := hid hx
    obtain ⟨A, cap, rfl, hl1, hl2, -, hcx⟩ := hx
    unfold maxLen at hl2
    obtain ⟨b, o, rfl, hb, hcx⟩ := hcx (by intro h; rw [h] at hq; simp at hq)
    have HCX := hid hcx
    obtain ⟨x0, x1, x2⟩ := hcx q hq
    rw [hxq] at x0 x1 x2
    have X0 := hid x0
    have X1 := hid x1
    have X2 := hid x2
    have HST := hid hst
    have HKOK := hid hkok
    have HDN := hid hdn
    have HBL := hid hbl
    have hqz : (q : Int) < (l.length : Int) := by omega
    clear hs hF hcx x0 x1 x2 hst hkok hdn hbl hd hxq
    obtain ⟨k1, s1, n1⟩ := x
    simp only at hkd hsx hmany
    by_cases h5 : k1 = 5
    · subst h5
      have hm2 : ks.count = 2 := by have : L.many ⟨5, s1, n1⟩ = 2 := by simp [L.many]
                                    omega
      match ks, hm2 with
      | .cons y ka (.cons z kb .nil), _ =>
        have hsty := HST.out
        simp only [L.Fo.stand, L.mayStand, if_true, Bool.and_true, Bool.and_eq_true] at hsty
        have hby : y.name.size = 0 := by have := hsty.1; simp only [L.bare, Bool.and_eq_true, decide_eq_true_eq] at this; exact this.1
        have hbz : z.name.size = 0 := by have := hsty.2; simp only [L.bare, Bool.and_eq_true, decide_eq_true_eq] at this; exact this.1
        have hoo := HKOK.out
        simp only [L.Fo.ok, Bool.and_true, Bool.and_eq_true] at hoo
        have hoy : (L.Fo.cons y ka .nil).ok = true := by simp only [L.Fo.ok, Bool.and_true, Bool.and_eq_true]; exact hoo.1
        have hoz : (L.Fo.cons z kb .nil).ok = true := by simp only [L.Fo.ok, Bool.and_true, Bool.and_eq_true]; exact hoo.2
        have hdy : l.drop (q + 1) = y :: (ka.flat ++ (z :: (kb.flat ++ rest))) := by rw [HDN.out]; simp [L.Fo.flat]
        have hdz : l.drop (q + 1 + (ka.flat.length + 1)) = z :: (kb.flat ++ rest) := by
          have := L.drop_more (l := l) (a := y :: ka.flat) (b := z :: (kb.flat ++ rest)) (p := q + 1) (by rw [hdy]; simp)
          simpa using this
        obtain ⟨hqy, hly, -⟩ := drop_at hdy
        simp only [L.Fo.flat, List.append_nil, List.length_cons, List.length_append] at hn
        have HIY := hid (fun (w : World) (h : Rd w w.heap.size (.slice (some ⟨b, o, none⟩) l.length cap) l) => IH.out y ka (by omega) hoy _ (q + 1) w hdy h)
        have HIZ := hid (fun (w : World) (h : Rd w w.heap.size (.slice (some ⟨b, o, none⟩) l.length cap) l) => IH.out z kb (by omega) hoz _ (q + 1 + (ka.flat.length + 1)) w hdz h)
        have HB := hid (body_arrow (x := ⟨5, s1, n1⟩) (k1 := ka) (k2 := kb) rfl hby hbz)
        have hla : (body false y ka).length ≤ 3000000 := by
          have := HBL.out; rw [HB.out] at this
          split at this <;> simp only [List.length_append] at this <;> omega
        have hlz : (body false z kb).length ≤ 3000000 := by
          have := HBL.out; rw [HB.out] at this
          split at this <;> simp only [List.length_append] at this <;> omega
        simp only [L.posF] at hKC
        obtain ⟨p2, hp2⟩ : ∃ p2, p2 = q + 1 + (ka.flat.length + 1) := ⟨_, rfl⟩
        rw [← hp2] at hKC HIZ
        obtain ⟨p1, hp1⟩ : ∃ p1, p1 = q + 1 := ⟨_, rfl⟩
        rw [← hp1] at hKC HIY
        obtain ⟨c0, -, -⟩ := HCX.out (q + 1) hqy
        rw [hly, ← hp1] at c0
        have C0 := hid c0
        have hp1z : (p1 : Int) < (l.length : Int) := by omega
        obtain ⟨SA, hSA⟩ : ∃ SA : ByteArray, SA = ⟨(body false y ka).toArray⟩ := ⟨_, rfl⟩
        obtain ⟨SB, hSB⟩ : ∃ SB : ByteArray, SB = ⟨(body false z kb).toArray⟩ := ⟨_, rfl⟩
        rw [← hSA] at HIY
        rw [← hSB] at HIZ
        have hA : SA.size ≤ 3000000 := by rw [hSA]; show (body false y ka).toArray.size ≤ _; simpa using hla
        have hBz : SB.size ≤ 3000000 := by rw [hSB]; show (body false z kb).toArray.size ≤ _; simpa using hlz
        have HSS : Hid ((⟨(body false ⟨5, s1, n1⟩ (.cons y ka (.cons z kb .nil))).toArray⟩ : ByteArray) = (if y.kind = 5 then (⟨#[40]⟩ : ByteArray) ++ SA ++ ⟨#[41]⟩ else SA) ++ ⟨#[32, 45, 62, 32]⟩ ++ SB) := hid (by
          rw [HB.out, hSA, hSB]
          by_cases h : y.kind = 5
          · simp only [if_pos h]
            apply ByteArray.ext
            simp
          · simp only [if_neg h]
            apply ByteArray.ext
            simp)
        have s1 : ((⟨#[40]⟩ : ByteArray) ++ SA).size ≤ 3000001 := by rw [ByteArray.size_append]; show 1 + SA.size ≤ _; omega
        have s2 : ((⟨#[40]⟩ : ByteArray) ++ SA ++ ⟨#[41]⟩).size ≤ 3000002 := by rw [ByteArray.size_append]; show ((⟨#[40]⟩ : ByteArray) ++ SA).size + 1 ≤ _; omega
        have s3 : ((⟨#[40]⟩ : ByteArray) ++ SA ++ ⟨#[41]⟩ ++ ⟨#[32, 45, 62, 32]⟩).size ≤ 3000006 := by rw [ByteArray.size_append]; show ((⟨#[40]⟩ : ByteArray) ++ SA ++ ⟨#[41]⟩).size + 4 ≤ _; omega
        have s4 : (SA ++ (⟨#[32, 45, 62, 32]⟩ : ByteArray)).size ≤ 3000004 := by rw [ByteArray.size_append]; show SA.size + 4 ≤ _; omega
        clear hSA hSB hla hlz hp1 hp2 hdy hdz hoy hoz hoo hsty hby hbz hly hqy c0 hkd hsx hmany hkc HB HBL
        have hq0 : (0 : Int) ≤ (q : Int) := by omega
        go_enter Try.func27, Try.ntmps27
        go_wp2_with fail
        refine (hKC.out).mono ?_
        rintro e w1 ⟨v1, rfl, ho1, hb1⟩
        obtain ⟨A1, cap1, hv1, hc1⟩ := ho1.rd
        obtain ⟨g1, rfl, hg1, hc1⟩ := hc1 (by simp)
        simp only [List.length_cons, List.length_nil] at hv1 hc1
        subst hv1
        have i0 : w1.cell? ⟨g1, 0, none⟩ = some (.int .i64 p1) := hc1 0 (by omega)
        have i1 : w1.cell? ⟨g1, 1, none⟩ = some (.int .i64 p2) := hc1 1 (by omega)
        have HB1 := hid hb1
        have x0 := (hb1.cell (p := ⟨b, o + q * 3, none⟩) hb).trans X0.out
        have I0 := hid i0
        have I1 := hid i1
        have HY1 := hid (HIY.out w1 ((HX.out.below hb1).mono hb1.size))
        clear hc1 ho1 hb1
        go_wp2_with fail
        refine (HY1.out).mono ?_
        rintro e w2 ⟨rfl, hb2⟩
        have HB2 := hid (HB1.out.trans (hb2.mono HB1.out.size))
        have j0 : w2.cell? ⟨g1, 0, none⟩ = some (.int .i64 p1) := (hb2.cell (p := ⟨g1, 0, none⟩) hg1).trans I0.out
        have j1 : w2.cell? ⟨g1, 1, none⟩ = some (.int .i64 p2) := (hb2.cell (p := ⟨g1, 1, none⟩) hg1).trans I1.out
        have c0 := (HB2.out.cell (p := ⟨b, o + p1 * 3, none⟩) hb).trans C0.out
        have HZ2 := hid (HIZ.out w2 ((HX.out.below HB2.out).mono HB2.out.size))
        clear hb2 i0 i1 x0 HY1
        by_cases hy5 : y.kind = 5
        · rw [if_pos hy5] at HSS
          rw [hy5] at c0
          clear hy5
          go_wp2_with fail
          refine (HZ2.out).mono ?_
          rintro e w3 ⟨rfl, hb3⟩
          go_wp2
          go_ret
          exact ⟨by rw [HSS.out] <;> rfl, HB2.out.trans (hb3.mono HB2.out.size)⟩
        · rw [if_neg hy5] at HSS
          have hy5z : (y.kind == 5) = false := by simpa using hy5
          clear hy5
          go_wp2_with fail
          refine (HZ2.out).mono ?_
          rintro e w3 ⟨rfl, hb3⟩
          go_wp2
          go_ret
          exact ⟨by rw [HSS.out] <;> rfl, HB2.out.trans (hb3.mono HB2.out.size)⟩
    by_cases h67 : k1 = 6 ∨ k1 = 7
    · rcases h67 with rfl | rfl
      · skip
        obtain ⟨OP, hOP⟩ : ∃ OP : ByteArray, OP = ⟨#[123]⟩ := ⟨_, rfl⟩
        have HFI : Hid (L.first ⟨6, s1, n1⟩ = [123]) := hid rfl
        have HBW : Hid (L.betw 6 = [44, 32]) := hid rfl
        have HLA : Hid (L.last 6 = [125]) := hid rfl
        have HBD : Hid (body false ⟨6, s1, n1⟩ ks = L.first ⟨6, s1, n1⟩ ++ (L.prs ks 6 0 ++ L.last 6)) := hid (body_plain _ _)
        go_enter Try.func27, Try.ntmps27
        go_wp2_with fail
        refine (hKC.out).mono ?_
        rintro e w1 ⟨v1, rfl, ho1, hb1⟩
        obtain ⟨A1, cap1, hv1, hc1⟩ := ho1.rd
        have hpl : (L.posF ks (q + 1)).length = ks.count := L.posF_length _ _
        have HHD : Hid ((L.posF ks (q + 1)).drop 0 = L.posF ks (q + 1)) := hid rfl
        have HC1 := hid hc1
        have HB1 := hid hb1
        have x0 := (hb1.cell (p := ⟨b, o + q * 3, none⟩) hb).trans X0.out
        have hbw1 := hb1.size
        clear hc1 ho1 hb1 hOP OP
        obtain ⟨PF, hPF⟩ : ∃ PF, PF = L.posF ks (q + 1) := ⟨_, rfl⟩
        rw [← hPF] at hv1 HC1 hpl HHD
        have HPF := hid hPF
        clear hPF
        subst hv1
        go_wp2
        go_loopw [10, 11] (fun vo vk wr => ∃ (k : Nat) (f : L.Fo) (p : Nat) (bb acc : ByteArray), vo = .string acc ∧ vk = .int .i64 k ∧ k + f.count = ks.count ∧ f.flat.length ≤ ks.flat.length ∧ Below w.heap.size w wr ∧ Below w1.heap.size w1 wr ∧ Hid (f.ok = true ∧ L.Fo.stand ⟨6, s1, n1⟩ k bb f = true ∧ l.drop p = f.flat ++ rest ∧ PF.drop k = L.posF f p ∧ acc.data.toList ++ (L.prs f 6 k ++ L.last 6) = body false ⟨6, s1, n1⟩ ks)) (fun _ vk _ => ks.count - (intOf vk).toNat)
        case atStart => exact ⟨0, ks, q + 1, _, _, rfl, rfl, by omega, Nat.le_refl _, HB1.out, Below.refl _ _, hid ⟨HKOK.out, HST.out, HDN.out, HPF.out ▸ HHD.out, by rw [HBD.out, HFI.out] <;> rfl⟩⟩
        case round =>
          obtain ⟨k, f, p, bb, acc, rfl, rfl, hkf, hff, hB, hB2, hI⟩ := hrel
          have hbw := hB.size
          have hacc : acc.size ≤ 3000000 := by
            have h1 := congrArg List.length hI.out.2.2.2.2
            have h2 := HBL.out
            rw [List.length_append, Array.length_toList] at h1
            show acc.data.size ≤ _
            omega
          cases f with
          | nil =>
            have hk : k = ks.count := by simpa [L.Fo.count] using hkf
            have HE : Hid (acc ++ (⟨#[125]⟩ : ByteArray) = ⟨(body false ⟨6, s1, n1⟩ ks).toArray⟩) := hid (by
              rw [← hI.out.2.2.2.2, HLA.out]
              refine ByteArray.ext (Array.toList_inj.1 ?_)
              simp [L.prs])
            clear hI
            have hkz : ¬ (k : Int) < (PF.length : Int) := by omega
            go_wp2
            go_ret
            exact ⟨by rw [HE.out] <;> rfl, hB⟩
          | cons y ka r =>
            obtain ⟨hfo, hfs, hfd, hfp, hfe⟩ := hI.out
            simp only [L.Fo.count] at hkf
            have hkl : k < PF.length := by omega
            have hfo2 := hfo
            simp only [L.Fo.ok, Bool.and_eq_true] at hfo2
            have hoy : (L.Fo.cons y ka .nil).ok = true := by simp only [L.Fo.ok, Bool.and_true, Bool.and_eq_true]; exact hfo2.1
            have HOR := hid hfo2.2
            have hpk : PF[k] = p := by
              have := List.drop_eq_getElem_cons hkl
              rw [hfp, L.posF] at this
              injection this with h1 _
              exact h1.symm
            have HPN : Hid (PF.drop (k + 1) = L.posF r (p + (ka.flat.length + 1))) := hid (by
              have := List.drop_eq_getElem_cons hkl
              rw [hfp, L.posF] at this
              injection this with _ h2
              exact h2.symm)
            have hdy : l.drop p = y :: (ka.flat ++ (r.flat ++ rest)) := by rw [hfd]; simp [L.Fo.flat]
            have HDN2 : Hid (l.drop (p + (ka.flat.length + 1)) = r.flat ++ rest) := hid (by
              have := L.drop_more (l := l) (a := y :: ka.flat) (b := r.flat ++ rest) (p := p) (by rw [hdy]; simp)
              simpa using this)
            obtain ⟨hpq, hly, -⟩ := drop_at hdy
            simp only [L.Fo.flat, List.length_cons, List.length_append] at hff
            have HIY := hid (fun (w : World) (h : Rd w w.heap.size (.slice (some ⟨b, o, none⟩) l.length cap) l) => IH.out y ka (by omega) hoy _ p w hdy h)
            simp only [L.Fo.stand, Bool.and_eq_true, L.mayStand] at hfs
            rw [if_neg (by decide)] at hfs
            have HSR := hid hfs.2
            obtain ⟨c0, c1, c2⟩ := HCX.out p hpq
            rw [hly] at c0 c1 c2
            have c0 := (hB.cell (p := ⟨b, o + p * 3, none⟩) hb).trans c0
            have c1 := (hB.cell (p := ⟨b, o + p * 3 + 1, none⟩) hb).trans c1
            obtain ⟨g1, hA1, hg1, hgc⟩ := HC1.out (by intro h; rw [h] at hkl; simp at hkl)
            subst hA1
            have ik := (hB2.cell (p := ⟨g1, k, none⟩) hg1).trans (hgc k hkl)
            rw [hpk] at ik
            have hys : y.name.size ≤ 200 := (HS.out y (by rw [← hly]; exact List.getElem_mem hpq)).1
            have HPRS : Hid (L.prs (.cons y ka r) 6 k = (if 0 < k then L.betw 6 else []) ++ (L.lab y ++ (body false y ka ++ L.prs r 6 (k + 1)))) := hid (by
              rw [L.prs_cons, prT_body]
              have : L.par 6 k y = false := by simp [L.par]
              rw [this]
              simp)
            have hlen : acc.size + (if 0 < k then L.betw 6 else []).length + (L.lab y).length + (body false y ka).length ≤ 3000000 := by
              have h1 := congrArg List.length hfe
              have h2 := HBL.out
              rw [HPRS.out] at h1
              simp only [List.length_append, Array.length_toList] at h1
              show acc.data.size + _ + _ + _ ≤ _
              omega
            have HEE := hid hfe
            obtain ⟨SB, hSB⟩ : ∃ SB : ByteArray, SB = ⟨(body false y ka).toArray⟩ := ⟨_, rfl⟩
            rw [← hSB] at HIY
            have hSBl : (body false y ka).length = SB.size := by rw [hSB]; show _ = (body false y ka).toArray.size; simp
            have HSBL : Hid (SB.data.toList = body false y ka) := hid (by rw [hSB])
            have hpz : (p : Int) < (l.length : Int) := by omega
            have hkz : (k : Int) < (PF.length : Int) := by omega
            have HY1 := hid (fun (w2 : World) (h : Below w.heap.size w w2) => HIY.out w2 ((HX.out.below h).mono h.size))
            rw [hSBl] at hlen
            by_cases h9 : y.kind = 9
            · have hlab : L.lab y = [] := by
                have := hfs.1
                rw [if_pos h9] at this
                simp only [Bool.and_eq_true, decide_eq_true_eq] at this
                rw [L.lab, if_pos this.1]
              rw [hlab] at hlen
              have HLB := hid hlab
              rw [h9] at c0
              clear hfo hfs hfd hfp hfe hfo2 hoy hpk hdy hly hSB hSBl hgc h9 hlab hI
              by_cases hk0 : k = 0
              · subst hk0
                have hSBz : SB.size ≤ 3000000 := by omega
                clear hlen
                go_wp2_with fail
                refine (HY1.out _ hB).mono ?_
                rintro e w3 ⟨rfl, hb3⟩
                have hB3 := hB.trans (hb3.mono hbw)
                have hB4 := hB2.trans (hb3.mono hB2.size)
                go_wp2
                go_roundw
                case rel => exact ⟨0 + 1, r, p + (ka.flat.length + 1), y.name, acc ++ SB, rfl, by go_num, by omega, by omega, hB3, hB4, hid ⟨HOR.out, HSR.out, HDN2.out, HPN.out, by
                  rw [← HEE.out, HPRS.out, HLB.out, ← HSBL.out]
                  rw [if_neg (by omega)]
                  simp⟩⟩
                case measure => simp [intOf]; omega
              · have hkp : (0 : Int) < (k : Int) := by omega
                rw [if_pos (by omega)] at hlen
                have hbl : (L.betw 6).length = 2 := rfl
                rw [hbl] at hlen
                have t1 : (acc ++ (⟨#[44, 32]⟩ : ByteArray)).size ≤ 3000100 := by rw [ByteArray.size_append]; show acc.size + 2 ≤ _; omega
                have hSBz : SB.size ≤ 3000000 := by omega
                clear hlen
                go_wp2_with fail
                refine (HY1.out _ hB).mono ?_
                rintro e w3 ⟨rfl, hb3⟩
                have hB3 := hB.trans (hb3.mono hbw)
                have hB4 := hB2.trans (hb3.mono hB2.size)
                go_wp2
                go_roundw
                case rel => exact ⟨k + 1, r, p + (ka.flat.length + 1), y.name, (acc ++ (⟨#[44, 32]⟩ : ByteArray)) ++ SB, rfl, by go_num, by omega, by omega, hB3, hB4, hid ⟨HOR.out, HSR.out, HDN2.out, HPN.out, by
                  rw [← HEE.out, HPRS.out, HLB.out, ← HSBL.out]
                  rw [if_pos (by omega), HBW.out]
                  simp⟩⟩
                case measure => simp [intOf]; omega
            · have hlab : L.lab y = y.name.data.toList ++ [58, 32] := by
                have := hfs.1
                rw [if_neg h9, Bool.and_eq_true] at this
                have hn : y.name.size ≠ 0 := by
                  intro h0
                  have h1 := this.1
                  simp [L.isLabel, nameB, h0] at h1
                rw [L.lab, if_neg hn]
              have hll2 : (L.lab y).length = y.name.size + 2 := by rw [hlab]; simp
              rw [hll2] at hlen
              have HLB := hid hlab
              have h9z : (y.kind != 9) = true := by simpa using h9
              have h9y : (y.kind == 9) = false := by simpa using h9
              clear hfo hfs hfd hfp hfe hfo2 hoy hpk hdy hly hSB hSBl hgc h9 hlab hll2 hI
              by_cases hk0 : k = 0
              · subst hk0
                have t2 : (acc ++ y.name).size ≤ 3000400 := by rw [ByteArray.size_append]; omega
                have t3 : (acc ++ y.name ++ (⟨#[58, 32]⟩ : ByteArray)).size ≤ 3000402 := by rw [ByteArray.size_append]; show (acc ++ y.name).size + 2 ≤ _; omega
                have hSBz : SB.size ≤ 3000000 := by omega
                clear hlen
                go_wp2_with fail
                refine (HY1.out _ hB).mono ?_
                rintro e w3 ⟨rfl, hb3⟩
                have hB3 := hB.trans (hb3.mono hbw)
                have hB4 := hB2.trans (hb3.mono hB2.size)
                go_wp2
                go_roundw
                case rel => exact ⟨0 + 1, r, p + (ka.flat.length + 1), y.name, acc ++ y.name ++ (⟨#[58, 32]⟩ : ByteArray) ++ SB, rfl, by go_num, by omega, by omega, hB3, hB4, hid ⟨HOR.out, HSR.out, HDN2.out, HPN.out, by
                  rw [← HEE.out, HPRS.out, HLB.out, ← HSBL.out]
                  rw [if_neg (by omega)]
                  simp⟩⟩
                case measure => simp [intOf]; omega
              · have hkp : (0 : Int) < (k : Int) := by omega
                rw [if_pos (by omega)] at hlen
                have hbl : (L.betw 6).length = 2 := rfl
                rw [hbl] at hlen
                have t1 : (acc ++ (⟨#[44, 32]⟩ : ByteArray)).size ≤ 3000100 := by rw [ByteArray.size_append]; show acc.size + 2 ≤ _; omega
                have t2 : ((acc ++ (⟨#[44, 32]⟩ : ByteArray)) ++ y.name).size ≤ 3000400 := by rw [ByteArray.size_append]; omega
                have t3 : ((acc ++ (⟨#[44, 32]⟩ : ByteArray)) ++ y.name ++ (⟨#[58, 32]⟩ : ByteArray)).size ≤ 3000402 := by rw [ByteArray.size_append]; show ((acc ++ (⟨#[44, 32]⟩ : ByteArray)) ++ y.name).size + 2 ≤ _; omega
                have hSBz : SB.size ≤ 3000000 := by omega
                clear hlen
                go_wp2_with fail
                refine (HY1.out _ hB).mono ?_
                rintro e w3 ⟨rfl, hb3⟩
                have hB3 := hB.trans (hb3.mono hbw)
                have hB4 := hB2.trans (hb3.mono hB2.size)
                go_wp2
                go_roundw
                case rel => exact ⟨k + 1, r, p + (ka.flat.length + 1), y.name, (acc ++ (⟨#[44, 32]⟩ : ByteArray)) ++ y.name ++ (⟨#[58, 32]⟩ : ByteArray) ++ SB, rfl, by go_num, by omega, by omega, hB3, hB4, hid ⟨HOR.out, HSR.out, HDN2.out, HPN.out, by
                  rw [← HEE.out, HPRS.out, HLB.out, ← HSBL.out]
                  rw [if_pos (by omega), HBW.out]
                  simp⟩⟩
                case measure => simp [intOf]; omega
      · skip
        obtain ⟨OP, hOP⟩ : ∃ OP : ByteArray, OP = ⟨#[91]⟩ := ⟨_, rfl⟩
        have HFI : Hid (L.first ⟨7, s1, n1⟩ = [91]) := hid rfl
        have HBW : Hid (L.betw 7 = [32, 124, 32]) := hid rfl
        have HLA : Hid (L.last 7 = [93]) := hid rfl
        have HBD : Hid (body false ⟨7, s1, n1⟩ ks = L.first ⟨7, s1, n1⟩ ++ (L.prs ks 7 0 ++ L.last 7)) := hid (body_plain _ _)
        go_enter Try.func27, Try.ntmps27
        go_wp2_with fail
        refine (hKC.out).mono ?_
        rintro e w1 ⟨v1, rfl, ho1, hb1⟩
        obtain ⟨A1, cap1, hv1, hc1⟩ := ho1.rd
        have hpl : (L.posF ks (q + 1)).length = ks.count := L.posF_length _ _
        have HHD : Hid ((L.posF ks (q + 1)).drop 0 = L.posF ks (q + 1)) := hid rfl
        have HC1 := hid hc1
        have HB1 := hid hb1
        have x0 := (hb1.cell (p := ⟨b, o + q * 3, none⟩) hb).trans X0.out
        have hbw1 := hb1.size
        clear hc1 ho1 hb1 hOP OP
        obtain ⟨PF, hPF⟩ : ∃ PF, PF = L.posF ks (q + 1) := ⟨_, rfl⟩
        rw [← hPF] at hv1 HC1 hpl HHD
        have HPF := hid hPF
        clear hPF
        subst hv1
        go_wp2
        go_loopw [10, 11] (fun vo vk wr => ∃ (k : Nat) (f : L.Fo) (p : Nat) (bb acc : ByteArray), vo = .string acc ∧ vk = .int .i64 k ∧ k + f.count = ks.count ∧ f.flat.length ≤ ks.flat.length ∧ Below w.heap.size w wr ∧ Below w1.heap.size w1 wr ∧ Hid (f.ok = true ∧ L.Fo.stand ⟨7, s1, n1⟩ k bb f = true ∧ l.drop p = f.flat ++ rest ∧ PF.drop k = L.posF f p ∧ acc.data.toList ++ (L.prs f 7 k ++ L.last 7) = body false ⟨7, s1, n1⟩ ks)) (fun _ vk _ => ks.count - (intOf vk).toNat)
        case atStart => exact ⟨0, ks, q + 1, _, _, rfl, rfl, by omega, Nat.le_refl _, HB1.out, Below.refl _ _, hid ⟨HKOK.out, HST.out, HDN.out, HPF.out ▸ HHD.out, by rw [HBD.out, HFI.out] <;> rfl⟩⟩
        case round =>
          obtain ⟨k, f, p, bb, acc, rfl, rfl, hkf, hff, hB, hB2, hI⟩ := hrel
          have hbw := hB.size
          have hacc : acc.size ≤ 3000000 := by
            have h1 := congrArg List.length hI.out.2.2.2.2
            have h2 := HBL.out
            rw [List.length_append, Array.length_toList] at h1
            show acc.data.size ≤ _
            omega
          cases f with
          | nil =>
            have hk : k = ks.count := by simpa [L.Fo.count] using hkf
            have HE : Hid (acc ++ (⟨#[93]⟩ : ByteArray) = ⟨(body false ⟨7, s1, n1⟩ ks).toArray⟩) := hid (by
              rw [← hI.out.2.2.2.2, HLA.out]
              refine ByteArray.ext (Array.toList_inj.1 ?_)
              simp [L.prs])
            clear hI
            have hkz : ¬ (k : Int) < (PF.length : Int) := by omega
            go_wp2
            go_ret
            exact ⟨by rw [HE.out] <;> rfl, hB⟩
          | cons y ka r =>
            obtain ⟨hfo, hfs, hfd, hfp, hfe⟩ := hI.out
            simp only [L.Fo.count] at hkf
            have hkl : k < PF.length := by omega
            have hfo2 := hfo
            simp only [L.Fo.ok, Bool.and_eq_true] at hfo2
            have hoy : (L.Fo.cons y ka .nil).ok = true := by simp only [L.Fo.ok, Bool.and_true, Bool.and_eq_true]; exact hfo2.1
            have HOR := hid hfo2.2
            have hpk : PF[k] = p := by
              have := List.drop_eq_getElem_cons hkl
              rw [hfp, L.posF] at this
              injection this with h1 _
              exact h1.symm
            have HPN : Hid (PF.drop (k + 1) = L.posF r (p + (ka.flat.length + 1))) := hid (by
              have := List.drop_eq_getElem_cons hkl
              rw [hfp, L.posF] at this
              injection this with _ h2
              exact h2.symm)
            have hdy : l.drop p = y :: (ka.flat ++ (r.flat ++ rest)) := by rw [hfd]; simp [L.Fo.flat]
            have HDN2 : Hid (l.drop (p + (ka.flat.length + 1)) = r.flat ++ rest) := hid (by
              have := L.drop_more (l := l) (a := y :: ka.flat) (b := r.flat ++ rest) (p := p) (by rw [hdy]; simp)
              simpa using this)
            obtain ⟨hpq, hly, -⟩ := drop_at hdy
            simp only [L.Fo.flat, List.length_cons, List.length_append] at hff
            have HIY := hid (fun (w : World) (h : Rd w w.heap.size (.slice (some ⟨b, o, none⟩) l.length cap) l) => IH.out y ka (by omega) hoy _ p w hdy h)
            simp only [L.Fo.stand, Bool.and_eq_true, L.mayStand] at hfs
            rw [if_neg (by decide)] at hfs
            have HSR := hid hfs.2
            obtain ⟨c0, c1, c2⟩ := HCX.out p hpq
            rw [hly] at c0 c1 c2
            have c0 := (hB.cell (p := ⟨b, o + p * 3, none⟩) hb).trans c0
            have c1 := (hB.cell (p := ⟨b, o + p * 3 + 1, none⟩) hb).trans c1
            obtain ⟨g1, hA1, hg1, hgc⟩ := HC1.out (by intro h; rw [h] at hkl; simp at hkl)
            subst hA1
            have ik := (hB2.cell (p := ⟨g1, k, none⟩) hg1).trans (hgc k hkl)
            rw [hpk] at ik
            have hys : y.name.size ≤ 200 := (HS.out y (by rw [← hly]; exact List.getElem_mem hpq)).1
            have HPRS : Hid (L.prs (.cons y ka r) 7 k = (if 0 < k then L.betw 7 else []) ++ (L.lab y ++ (body false y ka ++ L.prs r 7 (k + 1)))) := hid (by
              rw [L.prs_cons, prT_body]
              have : L.par 7 k y = false := by simp [L.par]
              rw [this]
              simp)
            have hlen : acc.size + (if 0 < k then L.betw 7 else []).length + (L.lab y).length + (body false y ka).length ≤ 3000000 := by
              have h1 := congrArg List.length hfe
              have h2 := HBL.out
              rw [HPRS.out] at h1
              simp only [List.length_append, Array.length_toList] at h1
              show acc.data.size + _ + _ + _ ≤ _
              omega
            have HEE := hid hfe
            obtain ⟨SB, hSB⟩ : ∃ SB : ByteArray, SB = ⟨(body false y ka).toArray⟩ := ⟨_, rfl⟩
            rw [← hSB] at HIY
            have hSBl : (body false y ka).length = SB.size := by rw [hSB]; show _ = (body false y ka).toArray.size; simp
            have HSBL : Hid (SB.data.toList = body false y ka) := hid (by rw [hSB])
            have hpz : (p : Int) < (l.length : Int) := by omega
            have hkz : (k : Int) < (PF.length : Int) := by omega
            have HY1 := hid (fun (w2 : World) (h : Below w.heap.size w w2) => HIY.out w2 ((HX.out.below h).mono h.size))
            rw [hSBl] at hlen
            by_cases h9 : y.kind = 9
            · have hlab : L.lab y = [] := by
                have := hfs.1
                rw [if_pos h9] at this
                simp only [Bool.and_eq_true, decide_eq_true_eq] at this
                rw [L.lab, if_pos this.1]
              rw [hlab] at hlen
              have HLB := hid hlab
              rw [h9] at c0
              clear hfo hfs hfd hfp hfe hfo2 hoy hpk hdy hly hSB hSBl hgc h9 hlab hI
              by_cases hk0 : k = 0
              · subst hk0
                have hSBz : SB.size ≤ 3000000 := by omega
                clear hlen
                go_wp2_with fail
                refine (HY1.out _ hB).mono ?_
                rintro e w3 ⟨rfl, hb3⟩
                have hB3 := hB.trans (hb3.mono hbw)
                have hB4 := hB2.trans (hb3.mono hB2.size)
                go_wp2
                go_roundw
                case rel => exact ⟨0 + 1, r, p + (ka.flat.length + 1), y.name, acc ++ SB, rfl, by go_num, by omega, by omega, hB3, hB4, hid ⟨HOR.out, HSR.out, HDN2.out, HPN.out, by
                  rw [← HEE.out, HPRS.out, HLB.out, ← HSBL.out]
                  rw [if_neg (by omega)]
                  simp⟩⟩
                case measure => simp [intOf]; omega
              · have hkp : (0 : Int) < (k : Int) := by omega
                rw [if_pos (by omega)] at hlen
                have hbl : (L.betw 7).length = 3 := rfl
                rw [hbl] at hlen
                have t1 : (acc ++ (⟨#[32, 124, 32]⟩ : ByteArray)).size ≤ 3000100 := by rw [ByteArray.size_append]; show acc.size + 3 ≤ _; omega
                have hSBz : SB.size ≤ 3000000 := by omega
                clear hlen
                go_wp2_with fail
                refine (HY1.out _ hB).mono ?_
                rintro e w3 ⟨rfl, hb3⟩
                have hB3 := hB.trans (hb3.mono hbw)
                have hB4 := hB2.trans (hb3.mono hB2.size)
                go_wp2
                go_roundw
                case rel => exact ⟨k + 1, r, p + (ka.flat.length + 1), y.name, (acc ++ (⟨#[32, 124, 32]⟩ : ByteArray)) ++ SB, rfl, by go_num, by omega, by omega, hB3, hB4, hid ⟨HOR.out, HSR.out, HDN2.out, HPN.out, by
                  rw [← HEE.out, HPRS.out, HLB.out, ← HSBL.out]
                  rw [if_pos (by omega), HBW.out]
                  simp⟩⟩
                case measure => simp [intOf]; omega
            · have hlab : L.lab y = y.name.data.toList ++ [58, 32] := by
                have := hfs.1
                rw [if_neg h9, Bool.and_eq_true] at this
                have hn : y.name.size ≠ 0 := by
                  intro h0
                  have h1 := this.1
                  simp [L.isLabel, nameB, h0] at h1
                rw [L.lab, if_neg hn]
              have hll2 : (L.lab y).length = y.name.size + 2 := by rw [hlab]; simp
              rw [hll2] at hlen
              have HLB := hid hlab
              have h9z : (y.kind != 9) = true := by simpa using h9
              have h9y : (y.kind == 9) = false := by simpa using h9
              clear hfo hfs hfd hfp hfe hfo2 hoy hpk hdy hly hSB hSBl hgc h9 hlab hll2 hI
              by_cases hk0 : k = 0
              · subst hk0
                have t2 : (acc ++ y.name).size ≤ 3000400 := by rw [ByteArray.size_append]; omega
                have t3 : (acc ++ y.name ++ (⟨#[58, 32]⟩ : ByteArray)).size ≤ 3000402 := by rw [ByteArray.size_append]; show (acc ++ y.name).size + 2 ≤ _; omega
                have hSBz : SB.size ≤ 3000000 := by omega
                clear hlen
                go_wp2_with fail
                refine (HY1.out _ hB).mono ?_
                rintro e w3 ⟨rfl, hb3⟩
                have hB3 := hB.trans (hb3.mono hbw)
                have hB4 := hB2.trans (hb3.mono hB2.size)
                go_wp2
                go_roundw
                case rel => exact ⟨0 + 1, r, p + (ka.flat.length + 1), y.name, acc ++ y.name ++ (⟨#[58, 32]⟩ : ByteArray) ++ SB, rfl, by go_num, by omega, by omega, hB3, hB4, hid ⟨HOR.out, HSR.out, HDN2.out, HPN.out, by
                  rw [← HEE.out, HPRS.out, HLB.out, ← HSBL.out]
                  rw [if_neg (by omega)]
                  simp⟩⟩
                case measure => simp [intOf]; omega
              · have hkp : (0 : Int) < (k : Int) := by omega
                rw [if_pos (by omega)] at hlen
                have hbl : (L.betw 7).length = 3 := rfl
                rw [hbl] at hlen
                have t1 : (acc ++ (⟨#[32, 124, 32]⟩ : ByteArray)).size ≤ 3000100 := by rw [ByteArray.size_append]; show acc.size + 3 ≤ _; omega
                have t2 : ((acc ++ (⟨#[32, 124, 32]⟩ : ByteArray)) ++ y.name).size ≤ 3000400 := by rw [ByteArray.size_append]; omega
                have t3 : ((acc ++ (⟨#[32, 124, 32]⟩ : ByteArray)) ++ y.name ++ (⟨#[58, 32]⟩ : ByteArray)).size ≤ 3000402 := by rw [ByteArray.size_append]; show ((acc ++ (⟨#[32, 124, 32]⟩ : ByteArray)) ++ y.name).size + 2 ≤ _; omega
                have hSBz : SB.size ≤ 3000000 := by omega
                clear hlen
                go_wp2_with fail
                refine (HY1.out _ hB).mono ?_
                rintro e w3 ⟨rfl, hb3⟩
                have hB3 := hB.trans (hb3.mono hbw)
                have hB4 := hB2.trans (hb3.mono hB2.size)
                go_wp2
                go_roundw
                case rel => exact ⟨k + 1, r, p + (ka.flat.length + 1), y.name, (acc ++ (⟨#[32, 124, 32]⟩ : ByteArray)) ++ y.name ++ (⟨#[58, 32]⟩ : ByteArray) ++ SB, rfl, by go_num, by omega, by omega, hB3, hB4, hid ⟨HOR.out, HSR.out, HDN2.out, HPN.out, by
                  rw [← HEE.out, HPRS.out, HLB.out, ← HSBL.out]
                  rw [if_pos (by omega), HBW.out]
                  simp⟩⟩
                case measure => simp [intOf]; omega
    · have h6z : (k1 != 6) = true := by simp; omega
      have h7z : (k1 != 7) = true := by simp; omega
      have h6y : (k1 == 6) = false := by simp; omega
      have h7y : (k1 == 7) = false := by simp; omega
      have h5y : (k1 == 5) = false := by simp; omega
      have hm0 : ks.count = 0 := by
        have : L.many ⟨k1, s1, n1⟩ = 0 := by simp [L.many, h5, h67]
        omega
      cases ks with
      | cons _ _ _ => simp [L.Fo.count] at hm0
      | nil =>
        have HE : Hid (body false ⟨k1, s1, n1⟩ .nil = L.first ⟨k1, s1, n1⟩) := hid (by
          rw [body_plain]
          have : L.last k1 = [] := by unfold L.last; rw [if_neg (by omega), if_neg (by omega)]
          simp [L.prs, this])
        have HW := hid (fun w => word_any k1 n1 s1 (by omega) (fun h => ⟨hkd.2 h, hsx.2⟩) w)
        rw [HE.out]
        have HNM := hid hmany
        clear hmany hkd hsx h5 h67 hm0
        go_enter Try.func27, Try.ntmps27
        go_wp2_with fail
        refine (hKC.out).mono ?_
        rintro e w1 ⟨v1, rfl, ho1, hb1⟩
        obtain ⟨A1, cap1, hv1, -⟩ := ho1.rd
        subst hv1
        have x0 := (hb1.cell (p := ⟨b, o + q * 3, none⟩) hb).trans X0.out
        have x1 := (hb1.cell (p := ⟨b, o + q * 3 + 1, none⟩) hb).trans X1.out
        have x2 := (hb1.cell (p := ⟨b, o + q * 3 + 2, none⟩) hb).trans X2.out
        have HB1 := hid hb1
        clear ho1 hb1
        go_wp2_with fail
        refine (HW.out _).mono ?_
        rintro e w2 ⟨rfl, hb2⟩
        go_wp2
        go_ret
        exact ⟨rfl, HB1.out.trans (hb2.mono HB1.out.size)⟩

theorem refPrint_any (x : L.Nd) (ks : L.Fo) (hok : (L.Fo.cons x ks .nil).ok = true) (hs : Short (x :: ks.flat)) (hb : L.bare x = true) (hl : ks.flat.length + 1 ≤ 10000) (v : Value) (w : World) (hx : Rd w w.heap.size v (x :: ks.flat)) :
    Calls Try.prog 11 #[v] w fun e w' => e = .returned (.string ⟨(L.prT false x ks).toArray⟩) ∧ Below w.heap.size w w' := by
  have HN : Few (x :: ks.flat) := few_of (by simpa using hl) (by
    rw [List.all_eq_true]
    intro z hz
    have := L.numbered_flat _ hok z
    simp only [L.Fo.flat, List.append_nil] at this
    exact this hz)
  have hlab : L.prT false x ks = body false x ks := by
    rw [prT_body, L.lab, if_pos (by simp only [L.bare, Bool.and_eq_true, decide_eq_true_eq] at hb; exact hb.1)]
    rfl
  rw [hlab]
  have HP := hid (printed_any (x :: ks.flat) hs HN (by simpa using hl) v (ks.flat.length + 1) x ks (by omega) hok [] 0 w (by simp) hx)
  obtain ⟨A, cap, rfl, -⟩ := hx
  clear hs HN hlab hok hb
  go_enter Try.func11, Try.ntmps11
  go_wp2_with fail
  refine (HP.out).mono ?_
  rintro e w1 ⟨rfl, hb⟩
  go_wp2
  go_ret
  exact ⟨rfl, hb⟩

end Go.Proofs.Ytkkigdbinnfbfaa
end
