/-
  The texts TrSt, one behind the other. Conditions: those that each of them names.
-/
import Derived.Test.YtjciaelaipjfmaaMR4
import Derived.Test.YtjciaelaipjfmaaMR3
import Derived.Test.YtjciaelaipjfmaaMX2
section
/-
  Plain lists: the sites of what is read are its ?s, one behind the other; what is read ends ahead of the End; what that is in the text's bytes. No conditions but those that each lemma names.
-/
namespace Go.Proofs.Ytjciaelaipjfmaa
open Go

/-- The sites between two states are the ?s at some places, which rise. -/
def Sit (l : List T.Tk) (a b : T.S) : Prop := a.pl ≤ b.pl ∧ ∃ idx : List Nat, b.sites = a.sites ++ idx.map (fun i => (⟨(tokAt l i).fr, (tokAt l i).to⟩ : T.Si)) ∧ idx.Pairwise (· < ·) ∧ ∀ i ∈ idx, a.pl ≤ i ∧ i < b.pl ∧ T.isSign l i T.kQ = true

theorem Sit.nil {l : List T.Tk} {a b : T.S} (h : a.pl ≤ b.pl) (hs : b.sites = a.sites) : Sit l a b := ⟨h, [], by simp [hs], List.Pairwise.nil, by simp⟩
theorem Sit.trans {l : List T.Tk} {a b c : T.S} (h : Sit l a b) (k : Sit l b c) : Sit l a c := by
  obtain ⟨h1, x, h2, h3, h4⟩ := h
  obtain ⟨k1, y, k2, k3, k4⟩ := k
  refine ⟨by omega, x ++ y, by rw [k2, h2]; simp, ?_, fun i hi => ?_⟩
  · rw [List.pairwise_append]
    refine ⟨h3, k3, fun i hi j hj => ?_⟩
    have := (h4 i hi).2.1
    have := (k4 j hj).1
    omega
  · rcases List.mem_append.1 hi with hi | hi
    · have := h4 i hi
      exact ⟨this.1, by omega, this.2.2⟩
    · have := k4 i hi
      exact ⟨by omega, this.2.1, this.2.2⟩

theorem Sit.step {l : List T.Tk} {a b : T.S} (h : Sit l ⟨a.pl + 1, a.site, a.sites⟩ b) : Sit l a b := Sit.trans (b := ⟨a.pl + 1, a.site, a.sites⟩) (Sit.nil (by show a.pl ≤ a.pl + 1; omega) rfl) h
theorem Sit.last {l : List T.Tk} {a b : T.S} (h : Sit l a b) : Sit l a ⟨b.pl + 1, b.site, b.sites⟩ := h.trans (Sit.nil (by show b.pl ≤ b.pl + 1; omega) rfl)

def SitP (l : List T.Tk) (A : T.P) : Prop := ∀ s t s', A s = .ok t s' → Sit l s s'

theorem rowF_sit {l : List T.Tk} {A : T.P} (hA : SitP l A) {kind : Int} : ∀ (n : Nat) (acc : List (ByteArray × T.Tr)), SitP l (T.rowF l A kind n acc) := by
  intro n
  induction n with
  | zero =>
    intro acc s t s' h
    unfold T.rowF at h
    split at h
    · cases h
    · split at h <;> cases h
  | succ n ih =>
    intro acc s t s' h
    unfold T.rowF at h
    split at h
    · cases h
    · rename_i lb hlb
      split at h
      · cases h
      · obtain ⟨u, s1, h1, h⟩ := T.bind_ok h
        obtain ⟨rfl, h1l⟩ := T.take_ok h1
        obtain ⟨x, s2, h2, h⟩ := T.bind_ok h
        have g := hA _ x s2 h2
        have g2 : Sit l s s2 := Sit.step (Sit.step g)
        split at h
        · exact g2.trans (Sit.step (ih _ _ _ _ h))
        · obtain ⟨u, s3, h3, h⟩ := T.bind_ok h
          obtain ⟨rfl, h3l⟩ := T.take_ok h3
          injection h with h4 h5
          subst h5
          exact g2.last

theorem operF_sit {l : List T.Tk} {A : Option T.P} (hA : ∀ B, A = some B → SitP l B) : SitP l (T.operF l A) := by
  intro s t s' h
  unfold T.operF at h
  split at h
  · cases h
  · rename_i tk htk
    split at h
    · rename_i hq
      injection h with h1 h2
      subst h1 h2
      refine ⟨by simp only; omega, [s.pl], ?_, by simp, ?_⟩
      · rw [List.map_cons, List.map_nil, tokAt_some htk]
      · intro i hi
        rw [List.mem_singleton.1 hi]
        exact ⟨Nat.le_refl _, by simp only; omega, hq⟩
    · split at h
      · split at h
        · cases h
        · rename_i B
          obtain ⟨x, s1, h1, h⟩ := T.bind_ok h
          obtain ⟨u, s2, h2, h⟩ := T.bind_ok h
          obtain ⟨rfl, h2l⟩ := T.take_ok h2
          injection h with h3 h4
          subst h3 h4
          exact Sit.step ((hA B rfl _ x s1 h1).last)
      · split at h
        · split at h
          · cases h
          · rename_i B
            split at h
            · injection h with h1 h2
              subst h1 h2
              exact Sit.nil (by show s.pl ≤ s.pl + 2; omega) rfl
            · exact Sit.step (rowF_sit (hA B rfl) 50 [] _ t s' h)
        · split at h
          · split at h
            · cases h
            · rename_i B
              exact Sit.step (rowF_sit (hA B rfl) 50 [] _ t s' h)
          · split at h
            · cases h
            · injection h with h1 h2
              subst h1 h2
              exact Sit.nil (by show s.pl ≤ s.pl + 1; omega) rfl

theorem wholeF_sit {l : List T.Tk} {A : Option T.P} (hA : ∀ B, A = some B → SitP l B) : SitP l (T.wholeF l A) := by
  intro s t s' h
  unfold T.wholeF at h
  obtain ⟨a, s1, h1, h⟩ := T.bind_ok h
  have g := operF_sit hA s a s1 h1
  split at h
  · cases A with
    | none => cases h
    | some B =>
      simp only at h
      obtain ⟨b, s2, h2, h⟩ := T.bind_ok h
      injection h with h3 h4
      subst h3 h4
      exact g.trans (Sit.step (hA B rfl _ b s2 h2))
  · injection h with h3 h4
    subst h3 h4
    exact g

theorem typeF_sit (l : List T.Tk) : ∀ d : Nat, SitP l (T.typeF l d)
  | 0 => wholeF_sit (fun B h => by cases h)
  | d + 1 => wholeF_sit (fun B h => by injection h with h; subst h; exact typeF_sit l d)

/-- What a text's tokens are in its bytes. -/
theorem tok_bytes {s : ByteArray} {r : List X.L.Tok} (h : X.L.toksL s.data.toList = .ok r) : (∀ i (h1 : i < r.length) (h2 : i + 1 < r.length), r[i].to ≤ r[i + 1].fr ∧ r[i].fr < r[i].to) ∧
    ∀ i (h1 : i < r.length), r[i].kind = 5 → r[i].text = [63] → r[i].to = r[i].fr + 1 ∧ r[i].to ≤ s.size ∧ s.data.toList[r[i].fr]? = some 63 := by
  have hA := X.L.all_of h
  have hc := X.L.cover hA s.data.toList 0 (Nat.zero_le _) (by simp) rfl
  have hlen : s.data.toList.length = s.size := by simp
  refine ⟨fun i h1 h2 => ?_, fun i h1 hk ht => ?_⟩
  · obtain ⟨-, -, -, a4, a5, -, -, -⟩ := hc i h1
    obtain ⟨b1, -⟩ := hc (i + 1) h2
    rw [X.L.prevT_next _ _ _ h1] at b1
    have : ¬ (i + 1 = r.length) := by omega
    have hne : ¬ r[i].to = r[i].fr := fun he => this (a5.1 he)
    exact ⟨by omega, by omega⟩
  · obtain ⟨a1, a2, a3, a4, a5, a6, a7, a8⟩ := hc i h1
    have h7 := a7 (by omega)
    rw [ht] at h7
    have hl := congrArg List.length h7
    rw [List.length_take, List.length_drop] at hl
    simp only [List.length_cons, List.length_nil] at hl
    have hto : r[i].to = r[i].fr + 1 := by omega
    refine ⟨hto, by omega, ?_⟩
    rw [hto, Nat.add_sub_cancel_left] at h7
    have h8 := congrArg (fun x => x[0]?) h7
    simp only [List.getElem?_cons_zero] at h8
    rw [List.getElem?_take_of_lt (by omega), List.getElem?_drop] at h8
    simpa using h8.symm

/-- What is told of what is read of a text's tokens. -/
structure ReadFacts (s : ByteArray) (l : List T.Tk) (site : Int) (t : T.Tr) (n : Nat) (ss : List T.Si) : Prop where
  fits : Fits t
  ok : (L.Fo.cons t.1 t.2 .nil).ok = true
  bare : L.bare t.1 = true
  pos : 0 < n
  le : n < l.length
  len : ss.length ≤ l.length
  one : ∀ i (h : i < ss.length), ss[i].to = ss[i].fr + 1 ∧ 0 ≤ ss[i].fr ∧ ss[i].to ≤ (s.size : Int) ∧ ∃ h2 : ss[i].fr.toNat < s.size, s[ss[i].fr.toNat] = 63
  rise : ∀ i (h : i + 1 < ss.length), ss[i].fr < ss[i + 1].fr
  nums : (T.nums t).Perm ((List.range ss.length).map fun i : Nat => site + (i : Int))

theorem fr_lt {r : List X.L.Tok} (h : ∀ i (h1 : i < r.length) (h2 : i + 1 < r.length), r[i].to ≤ r[i + 1].fr ∧ r[i].fr < r[i].to) : ∀ (j i : Nat) (hj : j < r.length) (hij : i < j), (r[i]'(Nat.lt_trans hij hj)).fr < r[j].fr := by
  intro j
  induction j with
  | zero => intro i _ hi; omega
  | succ j ih =>
    intro i hj hi
    have h1 := h j (by omega) hj
    rcases Nat.lt_or_ge i j with h2 | h2
    · have := ih i (by omega) h2
      omega
    · obtain rfl : i = j := by omega
      omega

theorem read_facts {s : ByteArray} {r : List X.L.Tok} (h : X.L.toksL s.data.toList = .ok r) {site lv : Int} {t : T.Tr} {n : Nat} {ss : List T.Si} (hr : T.readF (r.map tkOf) 0 site lv = .ok t n ss) : ReadFacts s (r.map tkOf) site t n ss := by
  have hf := tok_facts h
  obtain ⟨hb1, hb2⟩ := tok_bytes h
  obtain ⟨h0, hfit, s1, hty, hn, hss, hg⟩ := readF_ok hr
  have e0 : min (0 : Int).toNat (r.map tkOf).length = 0 := by simp
  rw [e0] at hty hg
  have hal : T.Al (r.map tkOf) (r.map tkOf) ((r.map tkOf).length - 1) 0 := by
    have hp := hf.pos
    refine ⟨fun i _ => rfl, ⟨(r.map tkOf)[(r.map tkOf).length - 1], List.getElem?_eq_getElem (by omega), ?_⟩⟩
    have h9 := hf.last
    have e9 : tokAt (r.map tkOf) ((r.map tkOf).length - 1) = (r.map tkOf)[(r.map tkOf).length - 1]'(by omega) := by
      unfold tokAt
      simp only [List.getD]
      rw [List.getElem?_eq_getElem (by omega)]
      rfl
    rw [e9] at h9
    exact h9
  have hle := (T.typeF_al hal (100 - lv.toNat) ⟨0, site, []⟩ (Nat.zero_le _)).2 t s1 hty
  obtain ⟨-, idx, hi1, hi2, hi3⟩ := typeF_sit (r.map tkOf) (100 - lv.toNat) ⟨0, site, []⟩ t s1 hty
  have hidx : ∀ i ∈ idx, ∃ h1 : i < r.length, r[i].kind = 5 ∧ r[i].text = [63] ∧ tokAt (r.map tkOf) i = tkOf r[i] := fun i hi => by
    obtain ⟨-, h1, h2⟩ := hi3 i hi
    have hlt : i < r.length := by have := T.isSign_lt h2; simpa using this
    have e : tokAt (r.map tkOf) i = tkOf r[i] := by
      unfold tokAt
      simp [List.getD, hlt]
    rw [isSign_tok, e] at h2
    simp only [Bool.and_eq_true, decide_eq_true_eq] at h2
    refine ⟨hlt, ?_, ?_, e⟩
    · have : ((r[i]).kind : Int) = 5 := h2.1
      omega
    · have h3 : (⟨(r[i]).text.toArray⟩ : ByteArray) = T.kQ := h2.2
      have h4 := congrArg (fun b : ByteArray => b.data.toList) h3
      simpa [T.kQ] using h4
  have hsl : ss = idx.map (fun i => (⟨(tokAt (r.map tkOf) i).fr, (tokAt (r.map tkOf) i).to⟩ : T.Si)) := by rw [hss, hi1]; rfl
  have hslen : ss.length = idx.length := by rw [hsl, List.length_map]
  have hget : ∀ i (h : i < ss.length), ∃ h1 : idx[i]'(by omega) < r.length, ss[i] = ⟨((r[idx[i]'(by omega)]).fr : Int), ((r[idx[i]'(by omega)]).to : Int)⟩ ∧ r[idx[i]'(by omega)].kind = 5 ∧ r[idx[i]'(by omega)].text = [63] := fun i h => by
    obtain ⟨h1, h2, h3, h4⟩ := hidx (idx[i]'(by omega)) (List.getElem_mem _)
    refine ⟨h1, ?_, h2, h3⟩
    simp only [hsl, List.getElem_map, h4]
    rfl
  refine ⟨hfit, hg.ok, hg.bare, ?_, ?_, ?_, fun i hi => ?_, fun i hi => ?_, ?_⟩
  · have := hg.lt; omega
  · have := hf.pos; omega
  · obtain ⟨new, h5, -, h6⟩ := hg.went
    have h7 := hg.le
    rw [hss, h5]
    simp only [List.nil_append]
    omega
  · obtain ⟨h1, h2, h3, h4⟩ := hget i hi
    obtain ⟨c1, c2, c3⟩ := hb2 _ h1 h3 h4
    rw [h2]
    have hlt : (r[idx[i]'(by omega)]).fr < s.size := by omega
    refine ⟨by simp only; omega, by simp only; omega, by simp only; omega, ?_⟩
    simp only [Int.toNat_natCast]
    refine ⟨hlt, ?_⟩
    have hsz : (r[idx[i]'(by omega)]).fr < s.data.toList.length := by simpa using hlt
    rw [List.getElem?_eq_getElem hsz] at c3
    injection c3 with c3
  · obtain ⟨h1, h2, -⟩ := hget i (by omega)
    obtain ⟨k1, k2, -⟩ := hget (i + 1) hi
    rw [h2, k2]
    have hp := List.pairwise_iff_getElem.1 hi2 i (i + 1) (by omega) (by omega) (by omega)
    have := fr_lt hb1 _ _ k1 hp
    simp only
    omega
  · obtain ⟨k, hk1, hk2⟩ := T.typeF_num (r.map tkOf) (100 - lv.toNat) ⟨0, site, []⟩ t s1 hty
    obtain ⟨new, h5, h6, -⟩ := hg.went
    have e : k = ss.length := by
      rw [hss, h5]
      simp only [List.nil_append]
      simp only at hk1 h6
      omega
    rw [← e]
    exact hk2

end Go.Proofs.Ytjciaelaipjfmaa
end
