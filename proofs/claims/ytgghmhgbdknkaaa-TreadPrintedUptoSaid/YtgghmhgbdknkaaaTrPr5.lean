/-
  Plain lists: a plain type's tokens are read as it, but for its sites. No machine here; no conditions but those that each lemma names.
-/
import Derived.Test.YtgghmhgbdknkaaaTrPr4
namespace Go.Proofs.Ytgghmhgbdknkaaa
open Go

theorem names_sorted (x : L.Nd) (hx : x.kind ≠ 5) : ∀ (f : L.Fo) (k : Nat) (b : ByteArray), (∀ z ∈ f.flat, z.kind ≠ 9) → L.Fo.stand x k b f = true → (∀ z ∈ names f, Lib.compareBytes b.data.toList z.data.toList < 0) ∧ (names f).Pairwise fun a c => Lib.compareBytes a.data.toList c.data.toList < 0
  | .nil, _, _, _, _ => ⟨by simp [names], List.Pairwise.nil⟩
  | .cons y ls r, k, b, hv, hs => by
    simp only [L.Fo.stand, Bool.and_eq_true] at hs
    obtain ⟨h1, h2⟩ := hs
    have h9 := hv y (by simp [L.Fo.flat])
    unfold L.mayStand at h1
    rw [if_neg hx, if_neg h9, Bool.and_eq_true, L.ltB_iff, decide_eq_true_eq] at h1
    obtain ⟨g1, g2⟩ := names_sorted x hx r (k + 1) y.name (fun z hz => hv z (by simp only [L.Fo.flat, List.mem_cons, List.mem_append]; exact Or.inr (Or.inr hz))) h2
    refine ⟨fun z hz => ?_, ?_⟩
    · rw [names, List.mem_cons] at hz
      rcases hz with rfl | hz
      · exact h1.2
      · exact L.cB_trans h1.2 (g1 z hz)
    · rw [names, List.pairwise_cons]
      exact ⟨g1, g2⟩

theorem order_id {ss : List ByteArray} (h : ss.Pairwise fun a c => Lib.compareBytes a.data.toList c.data.toList < 0) : T.order ss = List.range ss.length := by
  have hnd : ss.Nodup := h.imp (fun {a c} hh e => by
    subst e
    rw [L.cB_self] at hh
    omega)
  refine L.rise_unique (T.order_rise hnd) ?_ (T.order_perm ss)
  unfold L.Rise
  rw [List.pairwise_iff_getElem] at h ⊢
  intro i j hi hj hij
  rw [List.length_range] at hi hj
  simp only [List.getElem_range]
  have := h i j hi hj hij
  simpa [L.labL, List.getD, hi, hj] using this

theorem map_getD {α β : Type} (f : α → β) (d : α) (l : List α) : (List.range l.length).map (fun i => f (l.getD i d)) = l.map f := by
  apply List.ext_getElem
  · simp
  · intro i h1 h2
    have h3 : i < l.length := by simpa using h2
    simp [List.getD, h3]

theorem like_flat : ∀ {f : L.Fo} {its : List (ByteArray × T.Tr)}, LikeR f its → L.sameL f.flat (T.foOf (its.map T.named)).flat = true ∧ (T.foOf (its.map T.named)).deep = f.deep ∧ (T.foOf (its.map T.named)).count = f.count
  | .nil, [], _ => ⟨rfl, rfl, rfl⟩
  | .cons y ls r, p :: q, h => by
    obtain ⟨h1, ⟨h2, h3⟩, h4⟩ := h
    obtain ⟨g1, g2, g3⟩ := like_flat h4
    have hA : Alike y ls (T.named p).1 (T.named p).2 := h2
    have hn := Alike.node hA (show y.name = (T.named p).1.name from h1.symm)
    refine ⟨?_, ?_, ?_⟩
    · have := sameL_append hn g1
      simpa [L.Fo.flat, T.foOf] using this
    · show max ((T.named p).2.deep + 1) (T.foOf (q.map T.named)).deep = max (ls.deep + 1) r.deep
      rw [g2, show (T.named p).2.deep = ls.deep from h3]
    · show (T.foOf (q.map T.named)).count + 1 = r.count + 1
      rw [g3]

theorem row_alike {x : L.Nd} {ks : L.Fo} (h : Pl x ks) (hk : x.kind = 6 ∨ x.kind = 7) {its : List (ByteArray × T.Tr)} (hL : LikeR ks its) : Alike x ks (T.rowT x.kind its).1 (T.rowT x.kind its).2 ∧ ((T.rowT x.kind its).1.name = ⟨#[]⟩ ∧ (T.rowT x.kind its).2.deep = ks.deep) := by
  obtain ⟨-, hn⟩ := h.row hk
  have hnm := hL.names
  have hlen : its.length = ks.count := by rw [← names_len, ← hnm, List.length_map]
  have hs := (names_sorted x (by omega) ks 0 ⟨#[]⟩ (fun z hz => (h.2 z (by simp [hz])).2) h.num.2.2.1).2
  have ho : T.order (its.map (·.1)) = List.range its.length := by rw [hnm, order_id hs, names_len, hlen]
  have e : T.rowT x.kind its = (⟨x.kind, T.e0, (its.length : Int)⟩, T.foOf (its.map T.named)) := by
    unfold T.rowT
    rw [ho, map_getD]
  obtain ⟨g1, g2, g3⟩ := like_flat hL
  rw [e]
  exact ⟨⟨rfl, Or.inl (by rw [hn, hlen]), g1, g3.symm⟩, rfl, g2⟩

theorem typeF_zero_or (l : List T.Tk) (d : Nat) : (d = 0 ∧ optF l d = none) ∨ ∃ e, d = e + 1 ∧ optF l d = some (T.typeF l e) := by
  cases d with
  | zero => exact Or.inl ⟨rfl, rfl⟩
  | succ e => exact Or.inr ⟨e, rfl, rfl⟩

theorem oper_row {l : List T.Tk} {N d : Nat} (IH : ∀ d, Reads l d N) {x : L.Nd} {ks : L.Fo} (h : Pl x ks) (hk : x.kind = 6 ∨ x.kind = 7) (hN : ks.flat.length ≤ N) (hn : NoKey ks.flat) (s : T.S) (ha : At l s.pl (bodyK false x ks)) : Res (T.operF l (optF l d) s) s x ks (bodyK false x ks).length d := by
  obtain ⟨hR, hcnt⟩ := h.row hk
  have hnum := h.num.1
  have hfst : ∃ c, firstK x = [(5, [c])] ∧ T.kLeft x.kind = ⟨#[c]⟩ ∧ T.kQ ≠ ⟨#[c]⟩ ∧ T.kOpen ≠ ⟨#[c]⟩ ∧ (x.kind = 7 → T.kLeft 6 ≠ ⟨#[c]⟩) := by
    rcases hk with hk | hk
    · exact ⟨123, by simp [firstK, hk], by rw [hk]; rfl, by decide, by decide, fun h => by omega⟩
    · exact ⟨91, by simp [firstK, hk], by rw [hk]; rfl, by decide, by decide, fun _ => by decide⟩
  obtain ⟨c, hc, hlf, hq, ho, h67⟩ := hfst
  have hb : bodyK false x ks = (5, [c]) :: (prsK ks x.kind 0 ++ lastK x.kind) := by
    unfold bodyK opnK clsK
    rw [hc]
    simp
  rw [hb] at ha ⊢
  have hsg : ∀ g : ByteArray, g ≠ ⟨#[c]⟩ → ¬ T.isSign l s.pl g = true := fun g hg => by
    rw [ha.sign]
    simp only [decide_true, Bool.true_and, decide_eq_true_eq]
    exact fun e => hg e.symm
  have hsy : T.isSign l s.pl (T.kLeft x.kind) = true := by
    rw [ha.sign, hlf]
    simp
  have ha1 := ha.tail
  have hop : T.operF l (optF l d) s = inside (optF l d) s (bracesF l x.kind s) := by
    rw [operF_eq, if_neg (hsg _ hq), if_neg (hsg _ ho)]
    rcases hk with hk | hk
    · rw [hk] at hsy ⊢
      rw [if_pos hsy]
    · rw [hk] at hsy ⊢
      rw [if_neg (hsg _ (h67 hk)), if_pos hsy]
  rw [hop]
  rcases typeF_zero_or l d with ⟨rfl, hA⟩ | ⟨e, rfl, hA⟩
  · rw [hA]
    exact Or.inr ⟨⟨_, rfl⟩, by omega⟩
  · rw [hA]
    show Res (bracesF l x.kind s (T.typeF l e)) _ _ _ _ _
    by_cases hnil : ks = .nil
    · subst hnil
      have h6 : x.kind = 6 := by
        rcases hk with hk | hk
        · exact hk
        · unfold L.numbered at hnum
          rw [if_neg (by omega), if_neg (by omega), if_neg (by omega), if_pos hk] at hnum
          simp [L.Fo.count] at hcnt
          simp at hnum
          omega
      have hr6 : T.isSign l (s.pl + 1) (T.kRight 6) = true := by
        rw [h6] at ha1
        rw [ha1.sign]
        decide
      left
      refine ⟨T.rowT x.kind [], ⟨s.pl + 2, s.site, s.sites⟩, ?_, (row_alike h hk (its := []) trivial).1, (row_alike h hk (its := []) trivial).2, ?_, ?_⟩
      · unfold bracesF
        rw [h6, if_pos ⟨rfl, hr6⟩]
      · rw [h6]
        rfl
      · simp [zer, L.Fo.flat, h6]
    · obtain ⟨y, ls, r, rfl⟩ : ∃ y ls r, ks = .cons y ls r := by
        cases ks with
        | nil => exact absurd rfl hnil
        | cons y ls r => exact ⟨y, ls, r, rfl⟩
      have hlab := hR.2.1
      have hky := hn y (by simp [L.Fo.flat])
      obtain ⟨hok, hkind⟩ := label_ok hlab hky
      have hsz : ¬ y.name.size = 0 := fun h0 => hok.1 (by
        have : y.name.data.toList = [] := by
          rw [← List.length_eq_zero_iff]
          simpa using h0
        rw [this]
        decide)
      have hL : labK y = [(X.L.kindL y.name.data.toList, y.name.data.toList), (5, [58])] := by unfold labK; rw [if_neg hsz]
      have hnr : ¬ (x.kind = 6 ∧ T.isSign l (s.pl + 1) (T.kRight 6) = true) := by
        rintro ⟨h6, h7⟩
        have h8 := ha1
        rw [prsK_head hk, hL, List.append_assoc] at h8
        rw [h8.sign, hkind, h6] at h7
        simp at h7
      have hbr : bracesF l x.kind s (T.typeF l e) = T.rowF l (T.typeF l e) x.kind 50 [] (stN s) := by
        unfold bracesF
        rw [if_neg hnr]
      rw [hbr]
      have hc50 : (L.Fo.cons y ls r).count ≤ 50 := by
        have := (L.many_of_numbered hnum).2
        rw [many_row hk] at this
        omega
      have hnd : (([] : List (ByteArray × T.Tr)).map (·.1) ++ names (.cons y ls r)).Nodup := by
        have hs := (names_sorted x (by omega) (.cons y ls r) 0 ⟨#[]⟩ (fun z hz => (h.2 z (by simp [hz])).2) h.num.2.2.1).2
        exact hs.imp (fun {a c} hh e => by
          subst e
          rw [L.cB_self] at hh
          omega)
      rcases row_read hk (IH e) (.cons y ls r) 50 [] (stN s) hnil hN hR hn hc50 hnd (by simpa [stN] using ha1) with ⟨its, s', g1, g2, g3, g4⟩ | ⟨⟨p, g1⟩, g2⟩
      · left
        rw [List.nil_append] at g1
        refine ⟨T.rowT x.kind its, s', g1, (row_alike h hk g2).1, (row_alike h hk g2).2, ?_, ?_⟩
        · rw [g3]
          obtain ⟨cr, hcr, -, -⟩ := kRight_eq hk
          rw [hcr]
          simp only [stN, List.length_cons, List.length_append, List.length_nil]
          omega
        · rw [g4]
          have : ¬ x.kind = 0 := by omega
          simp [stN, zer, this]
      · exact Or.inr ⟨⟨p, g1⟩, by omega⟩

theorem reads_all (l : List T.Tk) : ∀ (N d : Nat), Reads l d N := by
  intro N
  induction N with
  | zero => intro d y ls h; omega
  | succ N IH =>
    intro d y ls hlen hP hn s ha hna
    rw [typeF_opt]
    have hop : ∀ (a : L.Nd) (ka : L.Fo), ka.flat.length ≤ N → Pl a ka → NoKey ka.flat → a.kind ≠ 5 → ∀ s, At l s.pl (bodyK false a ka) → Res (T.operF l (optF l d) s) s a ka (bodyK false a ka).length d := fun a ka hl hPa hna h5 s ha => by
      have hkd := hPa.kinds
      by_cases h6 : a.kind < 5
      · exact oper_leaf hPa h6 (optF l d) s d ha
      · exact oper_row IH hPa (by omega) hl hna s ha
    by_cases h5 : y.kind = 5
    · obtain ⟨a, ka, b, kb, rfl, hPa, hPb, hna0, hnb0, -⟩ := hP.arrow h5
      have hfl : (L.Fo.cons a ka (.cons b kb .nil)).flat = (a :: ka.flat) ++ (b :: kb.flat) := by simp [L.Fo.flat]
      have hfll : (L.Fo.cons a ka (.cons b kb .nil)).flat.length = ka.flat.length + kb.flat.length + 2 := by rw [hfl]; simp; omega
      have hka : NoKey ka.flat := fun z hz => hn z (by rw [hfl]; simp [hz])
      have hkb : NoKey kb.flat := fun z hz => hn z (by rw [hfl]; simp [hz])
      have la : labK a = [] := by unfold labK; rw [hna0]; rfl
      have lb : labK b = [] := by unfold labK; rw [hnb0]; rfl
      have hy : bodyK false y (.cons a ka (.cons b kb .nil)) = bodyK (decide (a.kind = 5)) a ka ++ ((5, [45, 62]) :: bodyK false b kb) := by
        have p0 : L.par 5 0 a = decide (a.kind = 5) := by simp [L.par]
        have p1 : L.par 5 (0 + 1) b = false := rfl
        have hf : firstK y = [] := by unfold firstK; simp [h5]
        have hl5 : lastK (5 : Int) = [] := rfl
        unfold bodyK opnK clsK
        rw [hf, h5, prsK, prsK, prsK, p0, p1, la, lb, hl5]
        simp [opnK, clsK, betwK]
      rw [hy] at ha hna ⊢
      have hA : (∃ u s', T.operF l (optF l d) s = .ok u s' ∧ Alike a ka u.1 u.2 ∧ (u.1.name = ⟨#[]⟩ ∧ u.2.deep = ka.deep) ∧ s'.pl = s.pl + (bodyK (decide (a.kind = 5)) a ka).length ∧ s'.sites.length = s.sites.length + zer (a :: ka.flat)) ∨ ((∃ p, T.operF l (optF l d) s = .bad p 4) ∧ d < ka.flat.length + 2) := by
        by_cases ha5 : a.kind = 5
        · rw [decide_eq_true ha5] at ha ⊢
          have hb : bodyK true a ka = (5, [40]) :: (bodyK false a ka ++ [(5, [41])]) := by simp [bodyK, opnK, clsK]
          rw [hb] at ha ⊢
          have ha0 := ha.left
          rw [operF_eq, if_neg (by rw [ha0.sign]; decide), if_pos (by rw [ha0.sign]; decide)]
          rcases typeF_zero_or l d with ⟨rfl, hO⟩ | ⟨e, rfl, hO⟩
          · rw [hO]
            exact Or.inr ⟨⟨_, rfl⟩, by omega⟩
          · rw [hO]
            show (∃ u s', parF l s (T.typeF l e) = .ok u s' ∧ _) ∨ ((∃ p, parF l s (T.typeF l e) = .bad p 4) ∧ _)
            have ha1 : At l (stN s).pl (bodyK false a ka ++ [(5, [41])]) := ha0.tail
            have ha2 := ha1.right
            unfold parF
            rcases IH e a ka (by omega) hPa hka (stN s) ha1.left (by rw [ha2.sign]; decide) with ⟨u, s1, g1, g2, g3, g4, g5⟩ | ⟨⟨p, g1⟩, g2⟩
            · left
              rw [g1]
              rw [← g4] at ha2
              refine ⟨u, stN s1, ?_, g2, g3, ?_, ?_⟩
              · show (T.take l s1 T.kClose).bind _ = _
                rw [take_yes (s := s1) (by rw [ha2.sign]; decide)]
                rfl
              · simp only [stN, g4, List.length_cons, List.length_append, List.length_nil]
                omega
              · simpa [stN] using g5
            · right
              rw [g1]
              exact ⟨⟨p, rfl⟩, by omega⟩
        · rw [decide_eq_false ha5] at ha ⊢
          rcases hop a ka (by omega) hPa hka ha5 s ha.left with hh | ⟨hh, hd⟩
          · exact Or.inl hh
          · exact Or.inr ⟨hh, by omega⟩
      have hap := ha.right
      rcases hA with ⟨u, s1, g1, g2, g3, g4, g5⟩ | ⟨⟨p, g1⟩, g2⟩
      · rw [← g4] at hap
        have har : T.isSign l s1.pl T.kArrow = true := by rw [hap.sign]; decide
        rcases typeF_zero_or l d with ⟨rfl, hO⟩ | ⟨e, rfl, hO⟩
        · rw [hO] at g1 ⊢
          exact Or.inr ⟨⟨_, wholeF_last g1 har⟩, by omega⟩
        · rw [hO] at g1 ⊢
          rw [wholeF_arr g1 har]
          have hab : At l (stN s1).pl (bodyK false b kb) := hap.tail
          have hnb : T.isSign l ((stN s1).pl + (bodyK false b kb).length) T.kArrow = false := by
            have e : (stN s1).pl + (bodyK false b kb).length = s.pl + (bodyK (decide (a.kind = 5)) a ka ++ (5, [45, 62]) :: bodyK false b kb).length := by
              simp only [stN, g4, List.length_append, List.length_cons]
              omega
            rw [e]
            exact hna
          rcases IH e b kb (by omega) hPb hkb (stN s1) hab hnb with ⟨v, s2, k1, k2, k3, k4, k5⟩ | ⟨⟨p, k1⟩, k2⟩
          · left
            rw [k1]
            refine ⟨T.arrT u v, s2, rfl, ⟨h5, Or.inl ?_, ?_, rfl⟩, ⟨rfl, ?_⟩, ?_, ?_⟩
            · have hnum := hP.num.1
              unfold L.numbered at hnum
              rw [if_neg (by omega), if_pos (by omega)] at hnum
              show y.n = 0
              simpa using hnum
            · have n1 := Alike.node g2 (hna0.trans g3.1.symm)
              have n2 := Alike.node k2 (hnb0.trans k3.1.symm)
              have := sameL_append n1 n2
              rw [hfl]
              simpa [T.arrT, L.Fo.flat] using this
            · simp [T.arrT, L.Fo.deep, g3.2, k3.2]
            · simp only [k4, stN, g4, List.length_append, List.length_cons]
              omega
            · have : zer (y :: (L.Fo.cons a ka (.cons b kb .nil)).flat) = zer (a :: ka.flat) + zer (b :: kb.flat) := by
                rw [hfl, ← zer_app]
                simp [zer, h5]
              rw [this, k5]
              simp only [stN, g5]
              omega
          · right
            rw [k1]
            exact ⟨⟨p, rfl⟩, by omega⟩
      · exact Or.inr ⟨⟨p, wholeF_bad g1⟩, by omega⟩
    · rcases hop y ls (by omega) hP hn h5 s ha with ⟨u, s1, g1, g2, g3, g4, g5⟩ | ⟨⟨p, g1⟩, g2⟩
      · exact Or.inl ⟨u, s1, wholeF_not g1 (by rw [g4]; exact hna), g2, g3, g4, g5⟩
      · exact Or.inr ⟨⟨p, wholeF_bad g1⟩, g2⟩

end Go.Proofs.Ytgghmhgbdknkaaa
