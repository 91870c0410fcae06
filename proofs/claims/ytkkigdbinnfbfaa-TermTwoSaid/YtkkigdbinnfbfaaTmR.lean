/-
  What is put is a type, if no label is twice, no row too long and each Tail's row is of u's kind; on trees. No program.
-/
import Derived.Test.YtkkigdbinnfbfaaTmQ
import Derived.Test.YtkkigdbinnfbfaaM4
namespace Go.Proofs.Ytkkigdbinnfbfaa.L
open Go

theorem lt_of_label {kd : Int} {s : ByteArray} (h : isLabel kd s = true) : ltB ⟨#[]⟩ s = true := by
  have : 0 < s.size := by
    rcases Nat.eq_zero_or_pos s.size with h0 | h0
    · exfalso
      unfold isLabel nameB at h
      simp [h0] at h
    · exact h0
  exact ltB_empty this
/-- A row of labels, from above b on, the Tail last. -/
def Fo.row (kd : Int) : ByteArray → Fo → Bool
  | _, .nil => true
  | b, .cons y _ r => if y.kind = 9 then decide (y.name.size = 0) && decide (r.count = 0) else isLabel kd y.name && ltB b y.name && Fo.row kd y.name r
theorem stand_row {x : Nd} (h5 : x.kind ≠ 5) : ∀ (f : Fo) (k : Nat) (b : ByteArray), k + (f.count : Int) = x.n → Fo.stand x k b f = Fo.row x.kind b f
  | .nil, _, _, _ => rfl
  | .cons y ks r, k, b, hc => by
    simp only [Fo.count] at hc
    push_cast at hc
    rw [Fo.stand, Fo.row]
    unfold mayStand
    rw [if_neg h5]
    by_cases h9 : y.kind = 9
    · rw [if_pos h9, if_pos h9]
      by_cases hr : r.count = 0
      · have : r = .nil := ok_nil hr
        subst this
        simp only [Fo.count] at hc
        rw [Fo.stand, Bool.and_true, decide_eq_true (show (k : Int) = x.n - 1 by omega), decide_eq_true (show Fo.nil.count = 0 from rfl)]
      · rw [decide_eq_false (show ¬(k : Int) = x.n - 1 by omega), decide_eq_false hr, Bool.and_false, Bool.false_and]
    · rw [if_neg h9, if_neg h9, stand_row h5 r (k + 1) y.name (by push_cast; omega)]
theorem row_weak {kd : Int} {b : ByteArray} : ∀ f : Fo, Fo.row kd b f = true → Fo.row kd ⟨#[]⟩ f = true
  | .nil, _ => rfl
  | .cons y ks r, h => by
    rw [Fo.row] at h ⊢
    by_cases h9 : y.kind = 9
    · rw [if_pos h9] at h ⊢; exact h
    · rw [if_neg h9] at h ⊢
      simp only [Bool.and_eq_true] at h ⊢
      exact ⟨⟨h.1.1, lt_of_label h.1.1⟩, h.2⟩
theorem ins_row {kd : Int} {y : Nd} (h9 : y.kind ≠ 9) (hl : isLabel kd y.name = true) (k : Fo) : ∀ (f : Fo) (b : ByteArray), ltB b y.name = true → Fo.row kd b f = true → f.apart y.name → Fo.row kd b (Fo.ins y k f) = true
  | .nil, b, hb, _, _ => by
    rw [Fo.ins, Fo.row, if_neg h9]
    simp [hl, hb, Fo.row]
  | .cons z zk r, b, hb, h, ha => by
    rw [Fo.ins]
    by_cases hz : z.kind = 9
    · rw [if_pos (Or.inl hz), Fo.row, if_neg h9, hl, hb]
      rw [Fo.row, if_pos hz] at h
      rw [Fo.row, if_pos hz, h]
      rfl
    · have ho : ltB y.name z.name = !ltB z.name y.name := ha.1.resolve_left hz
      rw [Fo.row, if_neg hz] at h
      simp only [Bool.and_eq_true] at h
      by_cases hlt : ltB y.name z.name = true
      · rw [if_pos (Or.inr hlt), Fo.row, if_neg h9, hl, hb, Fo.row, if_neg hz, h.1.1, hlt, h.2]
        rfl
      · have hzy : ltB z.name y.name = true := by
          cases g : ltB z.name y.name with
          | true => rfl
          | false => rw [g] at ho; exact absurd ho hlt
        rw [if_neg (fun g => g.elim hz hlt), Fo.row, if_neg hz, h.1.1, h.1.2, ins_row h9 hl k r z.name hzy h.2 ha.2]
        rfl
/-- Is the row's Tail n's? -/
def Fo.endn (n : Int) : Fo → Bool
  | .nil => false
  | .cons x _ r => (decide (x.kind = 9) && decide (x.n = n)) || Fo.endn n r
theorem put_row {n : Int} {u : Nd} {uk : Fo} (hu : u.kind ≠ 9) (kd : Int) : ∀ (f : Fo) (b : ByteArray), Fo.row kd b f = true → f.ok = true → (Fo.endn n f = true → Fo.row kd ⟨#[]⟩ uk = true) → Fo.clean n u uk true f → Fo.row kd ⟨#[]⟩ (Fo.put n u uk true f) = true
  | .nil, _, _, _, _, _ => rfl
  | .cons x ks r, b, h, ho, he, hc => by
    simp only [Fo.ok, Bool.and_eq_true, decide_eq_true_eq] at ho
    obtain ⟨⟨⟨⟨hn, hm⟩, hs⟩, hk⟩, hr⟩ := ho
    simp only [Fo.endn, Bool.or_eq_true, Bool.and_eq_true, decide_eq_true_eq] at he
    simp only [Fo.clean] at hc
    by_cases e : x.kind = 9 ∧ x.n = n
    · rw [put_tail e]; exact he (Or.inl e)
    · rw [Fo.row] at h
      by_cases h9 : x.kind = 9
      · rw [if_pos h9] at h
        simp only [Bool.and_eq_true, decide_eq_true_eq] at h
        have : r = .nil := ok_nil h.2
        subst this
        obtain rfl := kids_none hm (Or.inr h9)
        rw [put_tail_not h9 (fun g => e ⟨h9, g⟩), Fo.row, if_pos h9]
        simp [h.1, Fo.count]
      · rw [if_neg h9] at h
        simp only [Bool.and_eq_true] at h
        have ir := put_row hu kd r x.name h.2 hr (fun g => he (Or.inr g)) hc.2.2
        rw [put_cons e, cond_true]
        refine ins_row (hd_kind hu n uk h9 ks) (by rw [hd_name]; exact h.1.1) _ _ _ (by rw [hd_name]; exact lt_of_label h.1.1) ir ?_
        rw [hd_name]
        exact hc.1 trivial h9
theorem put_pos {n : Int} {u : Nd} {uk : Fo} (m : Bool) : ∀ f : Fo, 1 ≤ f.count → (Fo.endn n f = true → 1 ≤ uk.count) → 1 ≤ (Fo.put n u uk m f).count
  | .nil, h, _ => by simp [Fo.count] at h
  | .cons x ks r, _, he => by
    by_cases e : x.kind = 9 ∧ x.n = n
    · rw [put_tail e]
      exact he (by simp [Fo.endn, e.1, e.2])
    · rw [put_cons e]
      cases m with
      | true => rw [cond_true, ins_count]; omega
      | false => rw [cond_false]; simp only [Fo.count]; omega
theorem put_arrow {n : Int} {u : Nd} {uk : Fo} (hu : u.kind ≠ 9) {x : Nd} (h5 : x.kind = 5) : ∀ (f : Fo) (k : Nat) (b : ByteArray), Fo.stand x k b f = true → (Fo.put n u uk false f).count = f.count ∧ Fo.stand x k b (Fo.put n u uk false f) = true
  | .nil, _, _, _ => ⟨rfl, rfl⟩
  | .cons y ks r, k, b, h => by
    simp only [Fo.stand, Bool.and_eq_true, mayStand, if_pos h5, bare, decide_eq_true_eq] at h
    have ir := put_arrow hu h5 (n := n) (uk := uk) r (k + 1) y.name h.2
    rw [put_cons (fun g => h.1.2 g.1), cond_false]
    refine ⟨by simp only [Fo.count, ir.1], ?_⟩
    simp only [Fo.stand, Bool.and_eq_true, mayStand, if_pos h5, bare, decide_eq_true_eq]
    rw [hd_name]
    exact ⟨⟨h.1.1, hd_kind hu n uk h.1.2 ks⟩, ir.2⟩
/-- Each row's Tail n is of u's kind, and no row becomes too long. -/
def Fo.fits (n : Int) (u : Nd) (uk : Fo) : Fo → Prop
  | .nil => True
  | .cons x ks r => (x.kind = 6 ∨ x.kind = 7 → (Fo.endn n ks = true → u.kind = x.kind) ∧ (Fo.put n u uk true ks).count ≤ 50) ∧ Fo.fits n u uk ks ∧ Fo.fits n u uk r
theorem app_ok : ∀ (y : Nd) (k r : Fo), (Fo.cons y k .nil).ok = true → r.ok = true → (Fo.cons y k r).ok = true := by
  intro y k r h hr
  simp only [Fo.ok, Bool.and_eq_true] at h ⊢
  exact ⟨h.1, hr⟩
theorem ins_ok {y : Nd} {k : Fo} (h : (Fo.cons y k .nil).ok = true) : ∀ f : Fo, f.ok = true → (Fo.ins y k f).ok = true
  | .nil, _ => h
  | .cons z zk r, hf => by
    rw [Fo.ins]
    split
    · exact app_ok _ _ _ h hf
    · simp only [Fo.ok, Bool.and_eq_true] at hf ⊢
      exact ⟨hf.1, ins_ok h r hf.2⟩
theorem stand_name (u : Nd) (nm : ByteArray) : ∀ (f : Fo) (k : Nat) (b : ByteArray), Fo.stand ⟨u.kind, nm, u.n⟩ k b f = Fo.stand u k b f
  | .nil, _, _ => rfl
  | .cons y ks r, k, b => by
    rw [Fo.stand, Fo.stand, stand_name u nm r]
    rfl
theorem named_ok {u : Nd} {uk : Fo} (h : (Fo.cons u uk .nil).ok = true) (nm : ByteArray) : (Fo.cons ⟨u.kind, nm, u.n⟩ uk .nil).ok = true := by
  rw [Fo.ok] at h ⊢
  rw [stand_name]
  exact h
theorem put_ok {n : Int} {u : Nd} {uk : Fo} (hu : u.kind ≠ 9) (hok : (Fo.cons u uk .nil).ok = true) : ∀ (f : Fo) (m : Bool), f.ok = true → Fo.fits n u uk f → Fo.clean n u uk m f → (Fo.put n u uk m f).ok = true
  | .nil, m, _, _, _ => by rw [put_nil]; rfl
  | .cons x ks r, m, h, hf, hc => by
    have hok' := hok
    simp only [Fo.ok, Bool.and_eq_true, decide_eq_true_eq] at h hok'
    obtain ⟨⟨⟨⟨hn, hm⟩, hs⟩, hk⟩, hr⟩ := h
    obtain ⟨⟨⟨⟨un, um⟩, us⟩, uok⟩, -⟩ := hok'
    simp only [Fo.fits] at hf
    simp only [Fo.clean] at hc
    have ir := put_ok hu hok r m hr hf.2.2 hc.2.2
    have hb := many_of_numbered hn
    have hub := many_of_numbered un
    by_cases e : x.kind = 9 ∧ x.n = n
    · rw [put_tail e]; exact uok
    rw [put_cons e]
    have hh : (Fo.cons (Fo.hd n u uk x ks).1 (Fo.hd n u uk x ks).2 .nil).ok = true := by
      unfold Fo.hd
      by_cases h8 : x.kind = 8 ∧ x.n = n
      · rw [if_pos h8]
        exact named_ok hok x.name
      rw [if_neg h8]
      by_cases h67 : x.kind = 6 ∨ x.kind = 7
      · rw [if_pos h67]
        rw [decide_eq_true h67] at hc
        have ik := put_ok hu hok ks true hk hf.2.1 hc.2.1
        have hmx : many x = x.n := by unfold many; rw [if_neg (by omega), if_pos h67]
        obtain ⟨ha, hcnt⟩ := hf.1 h67
        have urow : ∀ g : Fo.endn n ks = true, Fo.row x.kind ⟨#[]⟩ uk = true ∧ many u = u.n := fun g => by
          have hk' := ha g
          have hmu : many u = u.n := by unfold many; rw [if_neg (by omega), if_pos (by omega)]
          rw [← hk', ← stand_row (x := u) (by omega) uk 0 ⟨#[]⟩ (by omega)]
          exact ⟨us, hmu⟩
        have hrow := put_row hu x.kind ks ⟨#[]⟩ (by rw [← stand_row (x := x) (by omega) ks 0 ⟨#[]⟩ (by omega)]; exact hs) hk (fun g => (urow g).1) hc.2.1
        simp only [Fo.ok, Bool.and_eq_true, decide_eq_true_eq]
        refine ⟨⟨⟨⟨?_, ?_⟩, ?_⟩, ik⟩, trivial⟩
        · unfold numbered
          simp only
          rw [if_neg (by omega), if_neg (by omega)]
          by_cases h6 : x.kind = 6
          · rw [if_pos h6]; simp only [Bool.and_eq_true, decide_eq_true_eq]; omega
          · rw [if_neg h6, if_pos (by omega)]
            simp only [Bool.and_eq_true, decide_eq_true_eq]
            have h7 : x.kind = 7 := by omega
            have hx1 : 1 ≤ x.n := by
              unfold numbered at hn
              rw [if_neg (by omega), if_neg (by omega), if_neg (by omega), if_pos h7] at hn
              simp only [Bool.and_eq_true, decide_eq_true_eq] at hn
              exact hn.1
            have : 1 ≤ (Fo.put n u uk true ks).count := put_pos true ks (by omega) (fun g => by
              have u7 : u.kind = 7 := by rw [ha g]; exact h7
              have := (urow g).2
              have un' := un
              unfold numbered at un'
              rw [if_neg (by omega), if_neg (by omega), if_neg (by omega), if_pos u7] at un'
              simp only [Bool.and_eq_true, decide_eq_true_eq] at un'
              omega)
            omega
        · unfold many
          simp only
          rw [if_neg (by omega), if_pos h67]
        · rw [stand_row (x := ⟨x.kind, x.name, (Fo.put n u uk true ks).count⟩) (show x.kind ≠ 5 by omega) _ 0 _ (by simp)]
          exact hrow
      · rw [if_neg h67]
        rw [decide_eq_false h67] at hc
        have ik := put_ok hu hok ks false hk hf.2.1 hc.2.1
        simp only [Fo.ok, Bool.and_eq_true, decide_eq_true_eq]
        by_cases h5 : x.kind = 5
        · have ha := put_arrow hu h5 (n := n) (uk := uk) ks 0 ⟨#[]⟩ hs
          exact ⟨⟨⟨⟨hn, by rw [ha.1]; exact hm⟩, ha.2⟩, ik⟩, trivial⟩
        · have hz : many x = 0 := by unfold many; rw [if_neg h5, if_neg h67]
          have : ks = .nil := ok_nil (by omega)
          subst this
          rw [put_nil] at ik ⊢
          exact ⟨⟨⟨⟨hn, hm⟩, hs⟩, ik⟩, trivial⟩
    cases m with
    | true => rw [cond_true]; exact ins_ok hh _ ir
    | false => rw [cond_false]; exact app_ok _ _ _ hh ir
end Go.Proofs.Ytkkigdbinnfbfaa.L
