/-
  The walks of the reference's atom and whole at every level. Conditions: at most 20000 tokens that are read, of texts of at most 2000000 bytes.
-/
import Derived.Test.YtgghmhgbdknkaaaGreatTzE
import Derived.Test.YtgghmhgbdknkaaaGreatTzF
import Derived.Test.YtgghmhgbdknkaaaGreatTzD
import Derived.Test.YtgghmhgbdknkaaaGreatTzD2
namespace Go.Proofs.YtgghmhgbdknkaaaGreat
open Go.RowKit

theorem isSign_kind {l : List T.Tk} {p : Nat} {sg : ByteArray} (h : T.isSign l p sg = true) : (tokAt l p).kind = 5 ∧ (tokAt l p).text = sg := by
  have hlt := T.isSign_lt h
  rw [isSign_get hlt] at h
  have e : tokAt l p = l[p] := by simp [tokAt, List.getD, hlt]
  rw [e]
  simpa using h
theorem baseK_sign {t : T.Tk} (h : t.kind = 5) : T.baseK t = -1 := by
  unfold T.baseK
  rw [if_neg (by rw [h]; decide)]
theorem baseK_low (t : T.Tk) : T.baseK t = -1 ∨ 0 ≤ T.baseK t := by
  unfold T.baseK
  split
  · split
    · right; decide
    · split
      · right; decide
      · split
        · right; decide
        · split
          · right; decide
          · left; rfl
  · left; rfl

/-- The reference's atom, where what is one level on is read as it is told. -/
theorem zatom_any {l : List T.Tk} (hts : ∀ p, (tokAt l p).text.size ≤ 2000000) (hll : l.length ≤ 20000) (vl : Value) (lv : Int) (h1v : 1 ≤ lv) (M M2 : Nat) (hM : M2 ≤ M) (hM1 : 20001 ≤ M) (A : Option T.P) (hA : ZNx M2 l vl lv A) (s : T.S) (A1 : Option Addr) (c1 : Nat) (w : World)
    (hx : RdK w w.heap.size vl l) (hsi : RdSt w (.slice A1 s.sites.length c1) s.sites) (hpl : s.pl ≤ l.length) (hsl : s.sites.length ≤ s.pl) (h0 : 0 ≤ s.site) (h1 : s.site + l.length ≤ 4000000000000000000 + s.pl) :
    Calls Tryz.prog 23 #[vl, stV s.pl s.site (.slice A1 s.sites.length c1) 0, .int .i64 lv] w (WPost M (T.operF l A s) w) := by
  rw [operF_eq]
  by_cases hlt : s.pl < l.length
  case neg =>
    have hq : ∀ k, T.isSign l s.pl k = false := fun k => isSign_none' hlt k
    have e : s.pl = l.length := by omega
    have hb : T.baseK (tokAt l s.pl) = -1 := by
      have : tokAt l s.pl = ⟨0, ⟨#[]⟩, 0, 0⟩ := by simp [tokAt, List.getD, hlt]
      rw [this]; rfl
    simp only [hq, Bool.false_eq_true, if_false, hb]
    rw [if_pos (by decide)]
    have := zatom_end hll vl lv M s A1 c1 w hx hsi hpl hsl h0 h1 hlt
    rw [← e] at this
    exact this
  by_cases hq : T.isSign l s.pl T.kQ = true
  · rw [if_pos hq]
    exact zatom_q hll vl lv M s A1 c1 w hx hsi hpl hsl h0 h1 hlt (hid hq)
  have hq' := Bool.not_eq_true _ ▸ hq
  rw [if_neg hq]
  by_cases h3 : T.isSign l s.pl T.kOpen = true
  · have hb := baseK_sign (isSign_kind h3).1
    rw [if_pos h3]
    rcases hA with ⟨hl, rfl⟩ | ⟨hl, B, rfl, hG, hBB, hB⟩
    · exact zatom_deep1 hll vl lv M s A1 c1 w hx hsi hpl hsl h0 h1 hlt (hid hq') (hid hb) (hid h3) hl
    · refine zatom_par hll vl lv M s A1 c1 w hx hsi hpl hsl h0 h1 hlt (hid hq') (hid hb) (hid h3) hl h1v M2 hM hM1 (B (stN s)) (hid fun A c w hx hs => hB (stN s) A c w hx hs (by simp only [stN]; omega) (by simp only [stN]; omega) h0 (by simp only [stN]; omega)) (hid fun p er hr => ?_) (hid fun t s2 hr => ?_)
      · have := (hBB (stN s) h0 (by simp only [stN]; omega) p er hr).1
        simp; omega
      · have hg := hG (stN s) h0 t s2 hr
        have h2 := hg.nodes
        have h3 := hg.le
        omega
  have h3' := Bool.not_eq_true _ ▸ h3
  rw [if_neg h3]
  by_cases h4 : T.isSign l s.pl (T.kLeft 6) = true
  · have hb := baseK_sign (isSign_kind h4).1
    rw [if_pos h4]
    rcases hA with ⟨hl, rfl⟩ | ⟨hl, B, rfl, hG, hBB, hB⟩
    · exact zatom_deep2 hll vl lv M s A1 c1 w hx hsi hpl hsl h0 h1 hlt (hid hq') (hid hb) (hid h3') (hid h4) hl
    · show Calls _ _ _ _ (WPost M (bracesF l 6 s B) w)
      unfold bracesF
      by_cases h6 : T.isSign l (s.pl + 1) (T.kRight 6) = true
      · rw [if_pos ⟨rfl, h6⟩]
        exact zatom_none6 hll vl lv M s A1 c1 w hx hsi hpl hsl h0 h1 hlt (hid hq') (hid hb) (hid h3') (hid h4) (hid h6) hl
      · rw [if_neg (by rintro ⟨_, h⟩; exact h6 h)]
        exact zatom_rows6 hll vl lv M s A1 c1 w hx hsi hpl hsl h0 h1 hlt (hid hq') (hid hb) (hid h3') (hid h4) (hid (Bool.not_eq_true _ ▸ h6)) hl h1v _ (hid fun A c w hx hs => zrows6_walk hts hll vl (lv + 1) B M M2 hM1 hG hBB hB (stN s) A c w hx hs (by simp only [stN]; omega) (by simp only [stN]; omega) h0 (by simp only [stN]; omega))
  have h4' := Bool.not_eq_true _ ▸ h4
  rw [if_neg h4]
  by_cases h5 : T.isSign l s.pl (T.kLeft 7) = true
  · have hb := baseK_sign (isSign_kind h5).1
    rw [if_pos h5]
    rcases hA with ⟨hl, rfl⟩ | ⟨hl, B, rfl, hG, hBB, hB⟩
    · exact zatom_deep3 hll vl lv M s A1 c1 w hx hsi hpl hsl h0 h1 hlt (hid hq') (hid hb) (hid h3') (hid h4') (hid h5) hl
    · show Calls _ _ _ _ (WPost M (bracesF l 7 s B) w)
      unfold bracesF
      rw [if_neg (by rintro ⟨h, _⟩; cases h)]
      exact zatom_rows7 hll vl lv M s A1 c1 w hx hsi hpl hsl h0 h1 hlt (hid hq') (hid hb) (hid h3') (hid h4') (hid h5) hl h1v _ (hid fun A c w hx hs => zrows7_walk hts hll vl (lv + 1) B M M2 hM1 hG hBB hB (stN s) A c w hx hs (by simp only [stN]; omega) (by simp only [stN]; omega) h0 (by simp only [stN]; omega))
  have h5' := Bool.not_eq_true _ ▸ h5
  rw [if_neg h5]
  rcases baseK_low (tokAt l s.pl) with hb | hb
  · rw [if_pos (by omega)]
    exact zatom_none hll vl lv M s A1 c1 w hx hsi hpl hsl h0 h1 hlt (hid hq') (hid hb) (hid h3') (hid h4') (hid h5')
  · rw [if_neg (by omega)]
    exact zatom_key hll vl lv M s A1 c1 w hx hsi hpl hsl h0 h1 hlt (hid hq') _ hb (hid rfl)

/-- The reference's whole at every level. -/
theorem zwhole_any {l : List T.Tk} (hts : ∀ p, (tokAt l p).text.size ≤ 2000000) (hll : l.length ≤ 20000) (vl : Value) : ∀ (d : Nat) (lv : Int), 1 ≤ lv → 100 - lv.toNat = d → ZNext (20001 * (d + 1)) l vl lv (T.typeF l d) := by
  intro d
  induction d with
  | zero =>
    intro lv h1v hd s A1 c1 w hx hsi hpl hsl h0 h1
    rw [typeF_opt]
    refine zwhole_walk hll vl lv h1v _ 0 (by omega) (by omega) (by omega) _ (Or.inl ⟨by omega, rfl⟩) s A1 c1 w hx hsi hpl hsl h0 h1 (hid fun w hx hs => zatom_any hts hll vl lv h1v _ 0 (by omega) (by omega) _ (Or.inl ⟨by omega, rfl⟩) s A1 c1 w hx hs hpl hsl h0 h1) (T.operF_got (fun B hB => by cases hB)) (T.operF_bad (fun B hB => by cases hB))
  | succ d ih =>
    intro lv h1v hd s A1 c1 w hx hsi hpl hsl h0 h1
    rw [typeF_opt]
    have hN : ZNx (20001 * (d + 1)) l vl lv (optF l (d + 1)) := Or.inr ⟨by omega, _, rfl, T.typeF_got l d, T.typeF_bad l d, ih (lv + 1) (by omega) (by omega)⟩
    have hd2 : d ≤ 98 := by omega
    refine zwhole_walk hll vl lv h1v _ (20001 * (d + 1)) (by omega) (by omega) (by omega) _ hN s A1 c1 w hx hsi hpl hsl h0 h1 (hid fun w hx hs => zatom_any hts hll vl lv h1v _ (20001 * (d + 1)) (by omega) (by omega) _ hN s A1 c1 w hx hs hpl hsl h0 h1) (T.operF_got (fun B hB => by injection hB with hB; rw [← hB]; exact T.typeF_got l d)) (T.operF_bad (fun B hB => by injection hB with hB; rw [← hB]; exact ⟨T.typeF_bad l d, T.typeF_got l d⟩))

end Go.Proofs.YtgghmhgbdknkaaaGreat
