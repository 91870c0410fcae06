/-
  Plain lists: the tokens of a row of labels and types are read as it; a whole plain type. No machine here; no conditions but those that each lemma names.
-/
import Derived.Test.YtgghmhgbdknkaaaTrPr3
import Derived.Test.YtgghmhgbdknkaaaMR6
namespace Go.Proofs.Ytgghmhgbdknkaaa
open Go

def names : L.Fo → List ByteArray
  | .nil => []
  | .cons y _ r => y.name :: names r
/-- Labels and trees that are a row's, but for sites. -/
def LikeR : L.Fo → List (ByteArray × T.Tr) → Prop
  | .nil, [] => True
  | .cons y ls r, p :: q => p.1 = y.name ∧ (Alike y ls p.2.1 p.2.2 ∧ p.2.2.deep = ls.deep) ∧ LikeR r q
  | _, _ => False

theorem names_len : ∀ f : L.Fo, (names f).length = f.count
  | .nil => rfl
  | .cons _ _ r => by rw [names, List.length_cons, names_len r]; rfl

theorem LikeR.names : ∀ {f : L.Fo} {its : List (ByteArray × T.Tr)}, LikeR f its → its.map (·.1) = Proofs.Ytgghmhgbdknkaaa.names f
  | .nil, [], _ => rfl
  | .cons y ls r, p :: q, h => by
    rw [Proofs.Ytgghmhgbdknkaaa.names, List.map_cons, h.1, LikeR.names h.2.2]

theorem par_row {pk : Int} (hp : pk = 6 ∨ pk = 7) (k : Nat) (x : L.Nd) : L.par pk k x = false := by
  unfold L.par
  rcases hp with rfl | rfl <;> simp

/-- A row's tokens from what stands between on. -/
def tailK (pk : Int) : L.Fo → List PK
  | .nil => []
  | .cons a b c => betwK pk ++ prsK (.cons a b c) pk 0
theorem tailK_ne (pk : Int) {r : L.Fo} (h : r ≠ .nil) : tailK pk r = betwK pk ++ prsK r pk 0 := by
  cases r with
  | nil => exact absurd rfl h
  | cons a b c => rfl

theorem prsK_one {pk : Int} (hp : pk = 6 ∨ pk = 7) : ∀ (f : L.Fo) (k : Nat), prsK f pk (k + 1) = tailK pk f
  | .nil, _ => rfl
  | .cons x ks r, k => by
    rw [tailK, prsK, prsK, par_row hp, par_row hp, if_pos (by omega), if_neg (by omega), prsK_one hp r (k + 1), prsK_one hp r 0]
    rfl

/-- A row's tokens from a label on. -/
theorem prsK_head {pk : Int} (hp : pk = 6 ∨ pk = 7) (y : L.Nd) (ls r : L.Fo) : prsK (.cons y ls r) pk 0 = labK y ++ (bodyK false y ls ++ tailK pk r) := by
  rw [prsK, par_row hp, if_neg (by omega), prsK_one hp r 0]
  simp [bodyK]

theorem kBetw_eq {pk : Int} (hp : pk = 6 ∨ pk = 7) : ∃ c, betwK pk = [(5, [c])] ∧ T.kBetw pk = ⟨#[c]⟩ := by
  rcases hp with rfl | rfl
  · exact ⟨44, rfl, rfl⟩
  · exact ⟨124, rfl, rfl⟩
theorem kRight_eq {pk : Int} (hp : pk = 6 ∨ pk = 7) : ∃ c, lastK pk = [(5, [c])] ∧ T.kRight pk = ⟨#[c]⟩ ∧ T.kBetw pk ≠ ⟨#[c]⟩ := by
  rcases hp with rfl | rfl
  · exact ⟨125, rfl, rfl, by decide⟩
  · exact ⟨93, rfl, rfl, by decide⟩

theorem ba_list (s : ByteArray) : (⟨s.data.toList.toArray⟩ : ByteArray) = s := by
  apply ByteArray.ext
  simp

/-- What is read of a tree's tokens at this level. -/
def Reads (l : List T.Tk) (d N : Nat) : Prop := ∀ y ls, ls.flat.length < N → Pl y ls → NoKey ls.flat → ∀ s, At l s.pl (bodyK false y ls) → T.isSign l (s.pl + (bodyK false y ls).length) T.kArrow = false → Res (T.typeF l d s) s y ls (bodyK false y ls).length d

theorem zer_app (a b : List L.Nd) : zer (a ++ b) = zer a + zer b := List.countP_append ..

theorem row_read {l : List T.Tk} {d N : Nat} {pk : Int} (hp : pk = 6 ∨ pk = 7) (IH : Reads l d N) : ∀ (f : L.Fo) (n : Nat) (acc : List (ByteArray × T.Tr)) (s : T.S), f ≠ .nil → f.flat.length ≤ N → Rw pk f → NoKey f.flat → f.count ≤ n → (acc.map (·.1) ++ names f).Nodup → At l s.pl (prsK f pk 0 ++ lastK pk) →
    (∃ its s', T.rowF l (T.typeF l d) pk n acc s = .ok (T.rowT pk (acc ++ its)) s' ∧ LikeR f its ∧ s'.pl = s.pl + (prsK f pk 0).length + 1 ∧ s'.sites.length = s.sites.length + zer f.flat) ∨ ((∃ p, T.rowF l (T.typeF l d) pk n acc s = .bad p 4) ∧ d < f.flat.length)
  | .nil, _, _, _, h, _, _, _, _, _, _ => absurd rfl h
  | .cons y ls r, n, acc, s, _, hN, hR, hK, hc, hnd, ha => by
    obtain ⟨hPl, hlab, hRr⟩ := hR
    have hky := hK y (by simp [L.Fo.flat])
    obtain ⟨hok, hkind⟩ := label_ok hlab hky
    have hkls : NoKey ls.flat := fun z hz => hK z (by simp only [L.Fo.flat, List.mem_cons, List.mem_append]; exact Or.inr (Or.inl hz))
    have hkr : NoKey r.flat := fun z hz => hK z (by simp only [L.Fo.flat, List.mem_cons, List.mem_append]; exact Or.inr (Or.inr hz))
    have hfl : (L.Fo.cons y ls r).flat.length = ls.flat.length + r.flat.length + 1 := by simp [L.Fo.flat]
    have hsz : ¬ y.name.size = 0 := fun h0 => hok.1 (by
      have : y.name.data.toList = [] := by
        rw [← List.length_eq_zero_iff]
        simpa using h0
      rw [this]
      decide)
    have hL : labK y = [(X.L.kindL y.name.data.toList, y.name.data.toList), (5, [58])] := by unfold labK; rw [if_neg hsz]
    rw [prsK_head hp, hL, List.append_assoc, List.append_assoc] at ha
    have ht := ha.tok
    rw [hkind, ba_list] at ht
    have hlt : isLabT pk (tokAt l s.pl) = true := by
      unfold isLabT
      rw [ht.2]
      simp only [L.isLabel, Bool.or_eq_true, Bool.and_eq_true, decide_eq_true_eq] at hlab
      rcases hp with rfl | rfl
      · rcases hlab with h | h
        · rw [ht.1]; simp [h.2]
        · exact absurd h.1 (by decide)
      · rcases hlab with h | h
        · exact absurd h.1 (by decide)
        · rw [ht.1]; simp [h.2]
    obtain ⟨n, rfl⟩ : ∃ m, n = m + 1 := ⟨n - 1, by simp [L.Fo.count] at hc; omega⟩
    have hno : (acc.map (·.1)).any (fun z => decide (z = (tokAt l s.pl).text)) = false := by
      rw [ht.2, List.any_eq_false]
      intro z hz
      simp only [decide_eq_true_eq]
      rintro rfl
      exact (List.nodup_append.1 hnd).2.2 _ hz _ (by simp [names]) rfl
    rw [rowF_step hp hlt hno, ht.2]
    have ha1 := ha.tail
    rw [take_yes (s := stN s) (by show T.isSign l (s.pl + 1) T.kColon = true; rw [ha1.sign]; decide)]
    simp only [T.R.bind]
    have ha2 : At l (stN (stN s)).pl (bodyK false y ls ++ (tailK pk r ++ lastK pk)) := by
      have := ha1.tail
      simpa [stN, Nat.add_assoc] using this
    have ha3 := ha2.right
    obtain ⟨cb, hcb, hkb⟩ := kBetw_eq hp
    obtain ⟨cr, hcr, hkr2, hne⟩ := kRight_eq hp
    have hna : T.isSign l ((stN (stN s)).pl + (bodyK false y ls).length) T.kArrow = false := by
      by_cases hr : r = .nil
      · subst hr
        rw [show tailK pk .nil = [] from rfl, List.nil_append, hcr] at ha3
        rw [ha3.sign]
        simp [T.kArrow]
      · rw [tailK_ne pk hr, hcb] at ha3
        rw [List.append_assoc] at ha3
        rw [ha3.sign]
        simp [T.kArrow]
    rcases IH y ls (by omega) hPl hkls (stN (stN s)) ha2.left hna with ⟨u, s2, h1, h2, h3, h4, h5⟩ | ⟨⟨p, h1⟩, h2⟩
    · rw [h1]
      dsimp only
      by_cases hr : r = .nil
      · subst hr
        rw [show tailK pk .nil = [] from rfl, List.nil_append, hcr, ← h4] at ha3
        left
        rw [if_neg (by rw [ha3.sign]; simp only [decide_true, Bool.true_and, decide_eq_true_eq]; exact fun e => hne e.symm), take_yes (s := s2) (by rw [ha3.sign, hkr2]; simp)]
        refine ⟨[(y.name, u)], stN s2, rfl, ⟨rfl, ⟨h2, h3.2⟩, trivial⟩, ?_, ?_⟩
        · rw [prsK_head hp, hL, show tailK pk .nil = [] from rfl]
          simp only [stN, h4, List.length_append, List.length_cons, List.length_nil, List.append_nil]
          omega
        · simp only [stN] at h5 ⊢
          rw [h5]
          simp [L.Fo.flat]
      · rw [tailK_ne pk hr, hcb, List.append_assoc, ← h4] at ha3
        have ha4 : At l (stN s2).pl (prsK r pk 0 ++ lastK pk) := ha3.tail
        rw [if_pos (by rw [ha3.sign, hkb]; simp)]
        have hnd2 : ((acc ++ [(y.name, u)]).map (·.1) ++ names r).Nodup := by
          rw [List.map_append, List.append_assoc]
          exact hnd
        rcases row_read hp IH r n (acc ++ [(y.name, u)]) (stN s2) hr (by omega) hRr hkr (by simp [L.Fo.count] at hc; omega) hnd2 ha4 with ⟨its, s', g1, g2, g3, g4⟩ | ⟨⟨p, g1⟩, g2⟩
        · left
          refine ⟨(y.name, u) :: its, s', by rw [g1, List.append_assoc]; rfl, ⟨rfl, ⟨h2, h3.2⟩, g2⟩, ?_, ?_⟩
          · rw [prsK_head hp, hL, tailK_ne pk hr, hcb, g3]
            simp only [stN, h4, List.length_append, List.length_cons, List.length_nil]
            omega
          · rw [g4]
            simp only [stN] at h5 ⊢
            rw [h5]
            have : (L.Fo.cons y ls r).flat = (y :: ls.flat) ++ r.flat := by simp [L.Fo.flat]
            rw [this, zer_app]
            omega
        · exact Or.inr ⟨⟨p, g1⟩, by omega⟩
    · right
      rw [h1]
      exact ⟨⟨p, rfl⟩, by omega⟩

end Go.Proofs.Ytgghmhgbdknkaaa
