/-
  The walk of the reference's Free. Conditions: a slice that reads as an expression of few parts.
-/
import Derived.Test.YthbieinbpfjgkaaGreatDoorAsTd
import Derived.Test.YthbieinbpfjgkaaGreatDoorMA6
import Derived.Test.YthbieinbpfjgkaaGreatDoorAsFm
namespace Go.Proofs.YthbieinbpfjgkaaGreatDoor
open Go.RowKit Go.Sort

def cB (a b : ByteArray) : Int := Lib.compareBytes a.data.toList b.data.toList
/-- What may come behind the names that were taken. -/
def Cand (os : List ByteArray) (s : ByteArray) : Prop := ∀ t ∈ os, cB t s < 0

def TakeP (bt : Bool) (os : List ByteArray) (s : ByteArray) (h : Bool) (b : ByteArray) : Prop := bt = true ↔ (Cand os s ∧ (h = true → cB s b < 0))

theorem cmpS (s t : ByteArray) : (cB s t < 0 ∧ Op.bytesLess s.toList t.toList = true) ∨ (¬ cB s t < 0 ∧ Op.bytesLess s.toList t.toList = false) := by
  have h := L.ltB_iff s t
  unfold L.ltB at h
  rw [h]
  unfold cB
  by_cases hh : Lib.compareBytes s.data.toList t.data.toList < 0
  · exact Or.inl ⟨hh, decide_eq_true hh⟩
  · exact Or.inr ⟨hh, decide_eq_false hh⟩

theorem cmp3S (s d : ByteArray) :
    (cB d s < 0 ∧ Op.bytesLess s.toList d.toList = false ∧ (s.toList == d.toList) = false) ∨
    (¬ cB d s < 0 ∧ Op.bytesLess s.toList d.toList = true) ∨
    (¬ cB d s < 0 ∧ Op.bytesLess s.toList d.toList = false ∧ (s.toList == d.toList) = true) := by
  have he := eqS s d
  have ha := L.cB_anti d.data.toList s.data.toList
  rcases cmpS s d with ⟨h1, h2⟩ | ⟨h1, h2⟩
  · exact Or.inr (Or.inl ⟨by unfold cB at h1 ⊢; omega, h2⟩)
  · by_cases g : s = d
    · refine Or.inr (Or.inr ⟨?_, h2, by rw [he]; exact decide_eq_true g⟩)
      subst g
      unfold cB
      rw [L.cB_self]
      omega
    · refine Or.inl ⟨?_, h2, by rw [he]; exact decide_eq_false g⟩
      unfold cB at h1 ⊢
      rcases Int.lt_trichotomy (Lib.compareBytes d.data.toList s.data.toList) 0 with h | h | h
      · exact h
      · exact absurd (ByteArray.ext (Array.toList_inj.1 (L.cB_zero h)).symm) g
      · omega

theorem cand_last {os : List ByteArray} (ha : E.Asc os) {m : Nat} (hm : m + 1 = os.length) (s : ByteArray) : Cand os s ↔ cB (os[m]'(by omega)) s < 0 := by
  constructor
  · intro h
    exact h _ (List.getElem_mem _)
  · intro h t ht
    obtain ⟨i, hi, rfl⟩ := List.getElem_of_mem ht
    rcases Nat.lt_or_ge i m with h1 | h1
    · have h2 := List.pairwise_iff_getElem.1 ha i m hi (by omega) h1
      exact L.cB_trans h2 h
    · have : i = m := by omega
      subst this
      exact h

theorem asc_snoc {os : List ByteArray} (ha : E.Asc os) {s : ByteArray} (h : Cand os s) : E.Asc (os ++ [s]) := by
  unfold E.Asc
  rw [List.pairwise_append]
  exact ⟨ha, List.pairwise_singleton _ _, fun a h1 b h2 => by rw [List.mem_singleton.1 h2]; exact h a h1⟩

theorem nodup_subL : ∀ (l : List (List UInt8)), l.Nodup → ∀ js : List (List UInt8), (∀ x ∈ l, x ∈ js) → l.length ≤ js.length
  | [], _, _, _ => Nat.zero_le _
  | a :: l, hn, js, h => by
    have ha : a ∈ js := h a (by simp)
    have hn' := List.nodup_cons.1 hn
    have := nodup_subL l hn'.2 (js.erase a) (fun x hx => by
      have hne : x ≠ a := by rintro rfl; exact hn'.1 hx
      exact (List.mem_erase_of_ne hne).2 (h x (by simp [hx])))
    have hl := List.length_erase_of_mem ha
    have hp : 0 < js.length := List.length_pos_of_mem ha
    simp only [List.length_cons]
    omega
theorem asc_nodup {os : List ByteArray} (h : E.Asc os) : (os.map (·.data.toList)).Nodup := by
  unfold List.Nodup
  rw [List.pairwise_map]
  refine List.Pairwise.imp ?_ h
  intro a b hab hne
  rw [hne, L.cB_self] at hab
  omega

/-- How far names were taken: these rise, are names, and are all that may not come yet. -/
structure SelF (fs os : List ByteArray) : Prop where
  asc : E.Asc os
  sub : ∀ s ∈ os, s ∈ fs
  cov : ∀ s ∈ fs, ¬ Cand os s → s ∈ os

theorem SelF.start (fs : List ByteArray) : SelF fs [] := ⟨List.Pairwise.nil, by simp, fun s _ h => absurd (by intro t ht; cases ht) h⟩
theorem SelF.len {fs os : List ByteArray} (h : SelF fs os) : os.length ≤ fs.length := by
  have := nodup_subL _ (asc_nodup h.asc) (fs.map (·.data.toList)) (fun x hx => by
    obtain ⟨s, hs, rfl⟩ := List.mem_map.1 hx
    exact List.mem_map.2 ⟨s, h.sub s hs, rfl⟩)
  simpa using this
theorem SelF.done {fs os : List ByteArray} (h : SelF fs os) (hn : ∀ s ∈ fs, ¬ Cand os s) : os = freeS fs :=
  E.Asc.one h.asc (freeS_asc fs) fun s => by rw [freeS_mem]; exact ⟨h.sub s, fun hs => h.cov s hs (hn s hs)⟩
theorem SelF.step {fs os : List ByteArray} (h : SelF fs os) {b : ByteArray} (hb : b ∈ fs) (hc : Cand os b) (hm : ∀ s ∈ fs, Cand os s → ¬ cB s b < 0) : SelF fs (os ++ [b]) where
  asc := asc_snoc h.asc hc
  sub := fun s hs => by
    rcases List.mem_append.1 hs with h1 | h1
    · exact h.sub s h1
    · rw [List.mem_singleton.1 h1]; exact hb
  cov := fun s hs hn => by
    by_cases h1 : Cand os s
    · have h2 := hm s hs h1
      have h3 : ¬ cB b s < 0 := fun h3 => hn (fun t ht => by
        rcases List.mem_append.1 ht with h4 | h4
        · exact h1 t h4
        · rw [List.mem_singleton.1 h4]; exact h3)
      have ha := L.cB_anti b.data.toList s.data.toList
      have : s = b := (ByteArray.ext (Array.toList_inj.1 (L.cB_zero (by unfold cB at h2 h3; omega)))).symm
      rw [this]; simp
    · exact List.mem_append.2 (Or.inl (h.cov s hs h1))

/-- What the inner loop has found among the first i names. -/
structure Found (fs os : List ByteArray) (i : Nat) (b : ByteArray) (h : Bool) : Prop where
  no : h = false → ∀ j (hj : j < fs.length), j < i → ¬ Cand os fs[j]
  mem : h = true → b ∈ fs
  cand : h = true → Cand os b
  least : h = true → ∀ j (hj : j < fs.length), j < i → Cand os fs[j] → ¬ cB fs[j] b < 0

theorem Found.start (fs os : List ByteArray) (b : ByteArray) : Found fs os 0 b false := ⟨fun _ j _ h => by omega, fun h => (by cases h), fun h => (by cases h), fun h => (by cases h)⟩
theorem Found.take {fs os : List ByteArray} {i : Nat} {b : ByteArray} {h : Bool} (F : Found fs os i b h) (hi : i < fs.length) (hc : Cand os fs[i]) (hl : h = true → cB fs[i] b < 0) : Found fs os (i + 1) fs[i] true where
  no := fun h => (by cases h)
  mem := fun _ => List.getElem_mem hi
  cand := fun _ => hc
  least := fun _ j hj hji hcj => by
    rcases Nat.lt_or_ge j i with h1 | h1
    · cases h with
      | false => exact absurd hcj (F.no rfl j hj h1)
      | true =>
        have h2 := F.least rfl j hj h1 hcj
        have h3 := hl rfl
        intro h4
        exact h2 (L.cB_trans h4 h3)
    · have : j = i := by omega
      subst this
      unfold cB
      rw [L.cB_self]
      omega
theorem Found.skip {fs os : List ByteArray} {i : Nat} {b : ByteArray} {h : Bool} (F : Found fs os i b h) (hi : i < fs.length) (hn : ¬ (Cand os fs[i] ∧ (h = true → cB fs[i] b < 0))) : Found fs os (i + 1) b h where
  no := fun hf j hj hji => by
    rcases Nat.lt_or_ge j i with h1 | h1
    · exact F.no hf j hj h1
    · have : j = i := by omega
      subst this
      intro hc
      exact hn ⟨hc, fun h' => by rw [hf] at h'; cases h'⟩
  mem := F.mem
  cand := F.cand
  least := fun ht j hj hji hcj => by
    rcases Nat.lt_or_ge j i with h1 | h1
    · exact F.least ht j hj h1 hcj
    · have : j = i := by omega
      subst this
      intro hc
      exact hn ⟨hcj, fun _ => hc⟩

set_option maxHeartbeats 8000000 in
set_option maxRecDepth 100000 in
theorem rFree_any (l : List E.Pt) (hF : FewP l) (hR : ∀ y ∈ l, E.many y = E.manyR y) (hll : l.length ≤ 120) (x : E.Pt) (ks : E.Fo) (hl : l = x :: ks.flat) (hok : (E.Fo.cons x ks .nil).ok = true) (v : Value) (w : World) (hx : RdP w w.heap.size v l) :
    Calls Tryz.prog 25 #[v] w fun e w' => ∃ v', e = .returned v' ∧ OwnS w.heap.size v' (freeS (E.freeT x ks [])) w' ∧ Below w.heap.size w w' := by
  have hkl : ks.flat.length + 1 ≤ 120 := by rw [hl] at hll; simpa using hll
  have HC := hid (rfree_any l hF hR hll v (ks.flat.length + 1) x ks (by omega) hok [] 0 w [] (.slice none 0 0) (by rw [List.drop_zero, hl, List.append_nil]) hx ⟨none, 0, rfl, fun h => absurd rfl h⟩ (fun _ => Or.inl rfl) (by simp; omega))
  obtain ⟨fs, hfs⟩ : ∃ fs, fs = E.freeT x ks [] := ⟨_, rfl⟩
  rw [← hfs] at HC ⊢
  have hfl : fs.length ≤ 200 := by
    rw [hfs]
    have h2 := (E.Fo.cons x ks .nil).free_length (⟨3, ⟨#[]⟩, ⟨#[]⟩, ⟨#[]⟩, 0, 0, [], []⟩) 0 []
    rw [E.Fo.free_cons] at h2
    have h3 : E.bindsL (⟨3, ⟨#[]⟩, ⟨#[]⟩, ⟨#[]⟩, 0, 0, [], []⟩) 0 = [] := rfl
    rw [h3, List.append_nil] at h2
    simp only [E.Fo.flat, List.length_cons, List.append_nil, E.Fo.free] at h2
    omega
  obtain ⟨is, his, hzs0, hzs1, hzs2⟩ := info_parts infoStr
  obtain ⟨A, cap, rfl, -⟩ := hx
  clear hfs hl hok hF hR hll hkl
  go_enter Tryz.func25, Tryz.ntmps25
  go_wp2_with fail
  refine (HC.out).mono ?_
  rintro e w1 ⟨vf, rfl, of1, h1⟩
  have OF1 := hid of1.rd
  have B1 := hid h1
  obtain ⟨Af, cf, rfl⟩ := of1.val
  have HW0 : Hid (OwnS w1.heap.size (.slice (some ⟨w1.heap.size, 0, none⟩) 0 0) [] (w1.alloc (.cells #[] 9))) := hid (by
    have h := World.ownsRow_made w1 (e := 9) (base := w1.heap.size) (size := 1) #[] 0 (Nat.le_refl _) (Nat.zero_le _) (by simp)
    simpa [OwnS] using h)
  have HB0 := hid (below_new (w := w1) (.cells #[] 9))
  clear h1 of1 HC
  go_wp2
  go_loopw [4] (fun vo wr => ∃ os, Hid (OwnS w1.heap.size vo os wr) ∧ Hid (SelF fs os) ∧ os.length ≤ fs.length ∧ Hid (Below w1.heap.size w1 wr)) (fun vo _ => fs.length + 1 - (match vo with | .slice _ n _ => n | _ => 0))
  case atStart => exact ⟨[], HW0, hid (SelF.start fs), by simp, HB0⟩
  case round =>
    obtain ⟨os, hO, HS, hol, hB⟩ := hrel
    obtain ⟨wj, hwj⟩ : ∃ wj, wj = wr := ⟨_, rfl⟩
    subst hwj
    obtain ⟨Ao, co, rfl⟩ := hO.out.val
    obtain ⟨no, hno⟩ : ∃ no, no = os.length := ⟨_, rfl⟩
    have HO0 := hO
    have HNO := hid hno
    rw [← hno] at hO ⊢
    rw [← hno] at hol
    clear hno
    go_wp2
    go_loopw [5, 6, 7] (fun v5 v6 v7 wn => ∃ (i : Nat) (b : ByteArray) (h : Bool), v5 = .string b ∧ v6 = .bool h ∧ v7 = .int .i64 i ∧ i ≤ fs.length ∧ Hid (Found fs os i b h) ∧ Hid (Below wj.heap.size wj wn)) (fun _ _ v7 _ => fs.length - (intOf v7).toNat)
    case atStart => exact ⟨0, _, false, rfl, rfl, rfl, by omega, hid (Found.start fs os _), hid (Below.refl _ _)⟩
    case round =>
      obtain ⟨i, bb0, h, rfl, rfl, rfl, hi, HF, BN⟩ := hrel
      obtain ⟨wn, hwn⟩ : ∃ wn, wn = wr := ⟨_, rfl⟩
      subst hwn
      have BW := hid (hB.out.trans (BN.out.mono hB.out.size))
      have ON := hid (hO.out.below BN.out)
      by_cases hlt : i < fs.length
      · have hiz : (i : Int) < (fs.length : Int) := by omega
        obtain ⟨A', c', hv, hc⟩ := (OF1.out.below BW.out)
        simp only [Value.slice.injEq, true_and] at hv
        obtain ⟨rfl, rfl⟩ := hv
        obtain ⟨bf, of, rfl, hbf, hc⟩ := hc (by rintro rfl; simp at hlt)
        have ci := hc i hlt
        obtain ⟨s, hs⟩ : ∃ s, s = fs[i] := ⟨_, rfl⟩
        rw [← hs] at ci
        have HSS := hid hs
        clear hc hs
        go_wp2_with fail
        go_cut [44] from 11 to 48 (fun v44 wx => ∃ bt : Bool, v44 = .bool bt ∧ Hid (TakeP bt os s h bb0) ∧ Hid (Below wn.heap.size wn wx))
        case first =>
          by_cases h0 : os = []
          · obtain rfl : no = 0 := by rw [HNO.out, h0]; rfl
            clear HNO HO0
            subst h0
            have HC0 : Hid (Cand [] s) := hid (fun t ht => by cases ht)
            cases h with
            | false =>
              have HT : Hid (TakeP true [] s false bb0) := hid (show _ ↔ _ from ⟨fun _ => ⟨HC0.out, fun h => (by cases h)⟩, fun _ => rfl⟩)
              go_wp2_with fail
              go_quiet (fail)
              go_wp2_with fail
              go_meet
              first | exact ⟨true, rfl, HT, hid (Below.refl _ _)⟩ | exact ⟨true, rfl, HT, hid (below_drewN (Below.refl _ _) _)⟩
            | true =>
              rcases cmpS s bb0 with ⟨hc, e3⟩ | ⟨hc, e3⟩
              · have HT : Hid (TakeP true [] s true bb0) := hid (show _ ↔ _ from ⟨fun _ => ⟨HC0.out, fun _ => hc⟩, fun _ => rfl⟩)
                clear hc
                go_wp2_with fail
                go_quiet (fail)
                go_wp2_with fail
                go_meet
                first | exact ⟨true, rfl, HT, hid (Below.refl _ _)⟩ | exact ⟨true, rfl, HT, hid (below_drewN (Below.refl _ _) _)⟩
              · have HT : Hid (TakeP false [] s true bb0) := hid (show _ ↔ _ from ⟨fun h => (by cases h), fun h => absurd (h.2 rfl) hc⟩)
                clear hc
                go_wp2_with fail
                go_quiet (fail)
                go_wp2_with fail
                go_meet
                first | exact ⟨false, rfl, HT, hid (Below.refl _ _)⟩ | exact ⟨false, rfl, HT, hid (below_drewN (Below.refl _ _) _)⟩
          · obtain ⟨m, hm⟩ : ∃ m, m + 1 = os.length := ⟨os.length - 1, by have := List.length_pos_iff.2 h0; omega⟩
            obtain ⟨gob, hAo, hgo, hgol, hco⟩ := (HO0.out.below BN.out).cells h0
            subst hAo
            have cm := hco m (by omega)
            have HCL := hid (cand_last HS.out.asc hm s)
            obtain ⟨d, hd⟩ : ∃ d, d = os[m] := ⟨_, rfl⟩
            rw [← hd] at cm HCL
            obtain rfl : no = m + 1 := by rw [HNO.out, hm]
            have hno2 : m + 1 ≤ 200 := by omega
            have e0 : (((m + 1 : Nat) : Int) == 0) = false := by simp; omega
            have e0' : ((m : Int) + 1 == 0) = false := by simp; omega
            have hmz : (m : Int) < ((m + 1 : Nat) : Int) := by omega
            clear hco hd hm ON hO HO0 HNO HS h0
            rcases cmp3S s d with ⟨hg, e1, e2⟩ | ⟨hg, e1⟩ | ⟨hg, e1, e2⟩
            · have HC0 : Hid (Cand os s) := hid (HCL.out.2 hg)
              clear hg HCL
              cases h with
              | false =>
                have HT : Hid (TakeP true os s false bb0) := hid (show _ ↔ _ from ⟨fun _ => ⟨HC0.out, fun h => (by cases h)⟩, fun _ => rfl⟩)
                go_wp2_with fail
                go_quiet (fail)
                go_wp2_with fail
                go_meet
                first | exact ⟨true, rfl, HT, hid (Below.refl _ _)⟩ | exact ⟨true, rfl, HT, hid (below_drewN (Below.refl _ _) _)⟩
              | true =>
                rcases cmpS s bb0 with ⟨hc, e3⟩ | ⟨hc, e3⟩
                · have HT : Hid (TakeP true os s true bb0) := hid (show _ ↔ _ from ⟨fun _ => ⟨HC0.out, fun _ => hc⟩, fun _ => rfl⟩)
                  clear hc
                  go_wp2_with fail
                  go_quiet (fail)
                  go_wp2_with fail
                  go_meet
                  first | exact ⟨true, rfl, HT, hid (Below.refl _ _)⟩ | exact ⟨true, rfl, HT, hid (below_drewN (Below.refl _ _) _)⟩
                · have HT : Hid (TakeP false os s true bb0) := hid (show _ ↔ _ from ⟨fun h => (by cases h), fun h => absurd (h.2 rfl) hc⟩)
                  clear hc
                  go_wp2_with fail
                  go_quiet (fail)
                  go_wp2_with fail
                  go_meet
                  first | exact ⟨false, rfl, HT, hid (Below.refl _ _)⟩ | exact ⟨false, rfl, HT, hid (below_drewN (Below.refl _ _) _)⟩
            · have HNC : Hid (¬ Cand os s) := hid (fun h => hg (HCL.out.1 h))
              clear hg HCL
              have HT : Hid (TakeP false os s h bb0) := hid (show _ ↔ _ from ⟨fun h => (by cases h), fun h => absurd h.1 HNC.out⟩)
              go_wp2_with fail
              go_quiet (fail)
              go_wp2_with fail
              go_meet
              first | exact ⟨false, rfl, HT, hid (Below.refl _ _)⟩ | exact ⟨false, rfl, HT, hid (below_drewN (Below.refl _ _) _)⟩
            · have HNC : Hid (¬ Cand os s) := hid (fun h => hg (HCL.out.1 h))
              clear hg HCL
              have HT : Hid (TakeP false os s h bb0) := hid (show _ ↔ _ from ⟨fun h => (by cases h), fun h => absurd h.1 HNC.out⟩)
              go_wp2_with fail
              go_quiet (fail)
              go_wp2_with fail
              go_meet
              first | exact ⟨false, rfl, HT, hid (Below.refl _ _)⟩ | exact ⟨false, rfl, HT, hid (below_drewN (Below.refl _ _) _)⟩
        case rest =>
          obtain ⟨bt, rfl, HT, BX⟩ := hcut
          have BNX := hid (BN.out.trans (BX.out.mono BN.out.size))
          have cx := (BX.out.cell (p := ⟨bf, of + i, none⟩) hbf).trans ci
          cases bt with
          | true =>
            have HF2 : Hid (Found fs os (i + 1) s true) := hid (by
              have h1 := (show _ ↔ _ from HT.out).1 rfl
              rw [HSS.out] at h1 ⊢
              exact HF.out.take hlt h1.1 h1.2)
            clear ci
            go_wp2
            go_roundw
            case rel => first | exact ⟨i + 1, s, true, rfl, rfl, by go_num, by omega, HF2, BNX⟩ | ((repeat apply Exists.intro); exact ⟨⟨i + 1, s, true, rfl, rfl, by go_num, by omega, HF2, BNX⟩, rfl⟩)
            case measure => simp [intOf]; omega
          | false =>
            have HF2 : Hid (Found fs os (i + 1) bb0 h) := hid (HF.out.skip hlt (by
              have h1 : _ ↔ _ := HT.out
              rw [HSS.out] at h1
              intro h2
              exact absurd (h1.2 h2) (by decide)))
            clear ci cx
            go_wp2
            go_roundw
            case rel => first | exact ⟨i + 1, bb0, h, rfl, rfl, by go_num, by omega, HF2, BNX⟩ | ((repeat apply Exists.intro); exact ⟨⟨i + 1, bb0, h, rfl, rfl, by go_num, by omega, HF2, BNX⟩, rfl⟩)
            case measure => simp [intOf]; omega
      · have hiz : ¬ (i : Int) < (fs.length : Int) := by omega
        have hie : i = fs.length := by omega
        cases h with
        | false =>
          have HV : Hid (os = freeS fs) := hid (HS.out.done fun s hs => by
            obtain ⟨j, hj, rfl⟩ := List.getElem_of_mem hs
            exact HF.out.no rfl j hj (by omega))
          clear HF
          go_wp2
          go_ret
          refine ⟨_, rfl, ?_, B1.out.trans (BW.out.mono B1.out.size)⟩
          rw [← HV.out]
          exact row_more ON.out B1.out.size
        | true =>
          have HS2 : Hid (SelF fs (os ++ [bb0])) := hid (HS.out.step (HF.out.mem rfl) (HF.out.cand rfl) (fun s hs hc => by
            obtain ⟨j, hj, rfl⟩ := List.getElem_of_mem hs
            exact HF.out.least rfl j hj (by omega) hc))
          have hln := HS2.out.len
          have hBl := below_new (w := wn) (.cells #[.string bb0] 9)
          have HS5 := hid (ON.out.below hBl)
          have hones : Hid (∀ u ∈ [Value.string bb0], u.oneCell' = true) := hid (by intro u hu; simp at hu; subst hu; rfl)
          have HBL := hid hBl
          have hz3 := BW.out.size
          clear hBl HF hO HO0
          go_wp2_with (at_builtin; refine wpList_append_own _ rfl _ _ 34 rfl w1.heap.size 9 is (.string ⟨#[]⟩) 1 16 Tryz.underlying34 his hzs0 hzs1 hzs2 rfl (by decide) _ _ _ rfl HS5.out ⟨wn.heap.size, 0, none⟩ 1 1 [.string bb0] rfl rfl (str_oneP wn _) hones.out ?c3 ?c4 ?c5 ?_)
          case c3 => unfold maxLen; have := HNO.out; omega
          case c4 => have := HNO.out; omega
          case c5 => first | omega | (simp; omega)
          intro v5 w5 hown hgrow _
          have hO5 := hid (OwnS.snoc bb0 hown)
          have hB5 := hid ((BW.out.trans (HBL.out.mono hz3)).grown hgrow (by simp; omega) (fun k' hk' => (World.ownsRow.lt HS5.out k' hk').1))
          obtain ⟨A9, c9, rfl⟩ := hO5.out.val
          clear hown hgrow HS5
          go_wp2
          go_roundw
          case rel => first | exact ⟨os ++ [bb0], hO5, HS2, hln, hB5⟩ | ((repeat apply Exists.intro); exact ⟨⟨os ++ [bb0], hO5, HS2, hln, hB5⟩, rfl⟩)
          case measure => have := HNO.out; simp at hln ⊢; omega

end Go.Proofs.YthbieinbpfjgkaaGreatDoor
