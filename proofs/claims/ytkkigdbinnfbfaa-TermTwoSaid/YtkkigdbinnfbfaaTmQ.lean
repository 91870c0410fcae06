/-
  Two substitutions in any order, on trees. No program.
-/
import Derived.Test.YtkkigdbinnfbfaaTmP
namespace Go.Proofs.Ytkkigdbinnfbfaa.L
open Go

theorem lt_trans1 : ∀ {a b c : List UInt8}, Op.bytesLess a b = true → Op.bytesLess b c = true → Op.bytesLess a c = true
  | [], [], _, h, _ => by simp [Op.bytesLess] at h
  | [], _ :: _, [], _, g => by simp [Op.bytesLess] at g
  | [], _ :: _, _ :: _, _, _ => by simp [Op.bytesLess]
  | _ :: _, [], _, h, _ => by simp [Op.bytesLess] at h
  | _ :: _, _ :: _, [], _, g => by simp [Op.bytesLess] at g
  | x :: a, y :: b, z :: c, h, g => by
    simp only [Op.bytesLess, Bool.or_eq_true, Bool.and_eq_true, decide_eq_true_eq, beq_iff_eq, UInt8.lt_iff_toNat_lt] at h g ⊢
    rcases h with h | ⟨rfl, h⟩
    · rcases g with g | ⟨rfl, g⟩
      · left; omega
      · left; exact h
    · rcases g with g | ⟨rfl, g⟩
      · left; exact g
      · right; exact ⟨rfl, lt_trans1 h g⟩
theorem ltB_trans {a b c : ByteArray} (h : ltB a b = true) (g : ltB b c = true) : ltB a c = true := lt_trans1 h g
/-- Of two labels one is ahead of the other, and not the other way round. -/
def ord (a b : ByteArray) : Prop := ltB a b = !ltB b a
theorem ord_symm {a b : ByteArray} (h : ord a b) : ord b a := by
  unfold ord at h ⊢
  rw [h, Bool.not_not]
theorem ins_comm {a b : Nd} (ha : a.kind ≠ 9) (hb : b.kind ≠ 9) (ho : ord a.name b.name) (ka kb : Fo) : ∀ f : Fo, Fo.ins a ka (Fo.ins b kb f) = Fo.ins b kb (Fo.ins a ka f)
  | .nil => by
    unfold ord at ho
    cases h : ltB b.name a.name <;> rw [h] at ho <;> simp [Fo.ins, ha, hb, h, ho]
  | .cons z zk r => by
    have ih := ins_comm ha hb ho ka kb r
    have t1 := @ltB_trans a.name b.name z.name
    have t2 := @ltB_trans b.name a.name z.name
    unfold ord at ho
    by_cases h9 : z.kind = 9
    · cases h : ltB b.name a.name <;> rw [h] at ho <;> simp [Fo.ins, ha, hb, h, ho, h9]
    · cases h : ltB b.name a.name <;> rw [h] at ho <;> cases h1 : ltB a.name z.name <;> cases h2 : ltB b.name z.name <;> simp_all [Fo.ins]

/-- What a node and its children become. -/
def Fo.hd (n : Int) (u : Nd) (uk : Fo) (y : Nd) (k : Fo) : Nd × Fo :=
  if y.kind = 8 ∧ y.n = n then (⟨u.kind, y.name, u.n⟩, uk)
  else if y.kind = 6 ∨ y.kind = 7 then (⟨y.kind, y.name, (Fo.put n u uk true k).count⟩, Fo.put n u uk true k)
  else (y, Fo.put n u uk false k)
theorem hd_name (n : Int) (u : Nd) (uk : Fo) (y : Nd) (k : Fo) : (Fo.hd n u uk y k).1.name = y.name := by
  unfold Fo.hd
  repeat' split
  all_goals rfl
theorem hd_kind {u : Nd} (hu : u.kind ≠ 9) (n : Int) (uk : Fo) {y : Nd} (hy : y.kind ≠ 9) (k : Fo) : (Fo.hd n u uk y k).1.kind ≠ 9 := by
  unfold Fo.hd
  repeat' split
  all_goals first | exact hu | exact hy
theorem put_cons {n : Int} {x : Nd} (h : ¬(x.kind = 9 ∧ x.n = n)) (u : Nd) (uk ks r : Fo) (m : Bool) : Fo.put n u uk m (.cons x ks r) = bif m then Fo.ins (Fo.hd n u uk x ks).1 (Fo.hd n u uk x ks).2 (Fo.put n u uk m r) else .cons (Fo.hd n u uk x ks).1 (Fo.hd n u uk x ks).2 (Fo.put n u uk m r) := by
  rw [Fo.put, if_neg h]
  unfold Fo.hd
  by_cases h8 : x.kind = 8 ∧ x.n = n
  · rw [if_pos h8, if_pos h8]
  · rw [if_neg h8, if_neg h8]
    by_cases h67 : x.kind = 6 ∨ x.kind = 7
    · rw [if_pos h67, if_pos h67]
    · rw [if_neg h67, if_neg h67]
/-- No other child in the row has that label. -/
def Fo.apart (a : ByteArray) : Fo → Prop
  | .nil => True
  | .cons z _ r => (z.kind = 9 ∨ ord a z.name) ∧ r.apart a
theorem put_ins {n : Int} {u : Nd} (hu : u.kind ≠ 9) (uk : Fo) {y : Nd} (hy : y.kind ≠ 9) (k : Fo) : ∀ f : Fo, f.apart y.name → Fo.put n u uk true (Fo.ins y k f) = Fo.ins (Fo.hd n u uk y k).1 (Fo.hd n u uk y k).2 (Fo.put n u uk true f)
  | .nil, _ => by
    rw [Fo.ins, put_cons (fun g => hy g.1), cond_true]
  | .cons z zk r, h => by
    rw [Fo.ins]
    split
    · rw [put_cons (fun g => hy g.1), cond_true]
    · rename_i hz
      have hz9 : z.kind ≠ 9 := fun g => hz (Or.inl g)
      rw [put_cons (fun g => hz9 g.1), put_cons (fun g => hz9 g.1), cond_true, cond_true, put_ins hu uk hy k r h.2]
      exact ins_comm (hd_kind hu _ _ hz9 _) (hd_kind hu _ _ hy _) (by rw [hd_name, hd_name]; exact ord_symm (h.1.resolve_left hz9)) _ _ _
/-- Where labels rule, none is twice. -/
def Fo.clean (n : Int) (u : Nd) (uk : Fo) : Bool → Fo → Prop
  | _, .nil => True
  | m, .cons x ks r => (m = true → x.kind ≠ 9 → (Fo.put n u uk m r).apart x.name) ∧ Fo.clean n u uk (decide (x.kind = 6 ∨ x.kind = 7)) ks ∧ Fo.clean n u uk m r
def Fo.tops : Fo → Bool
  | .nil => false
  | .cons x _ r => decide (x.kind = 9) || r.tops
theorem stand_tops {x : Nd} (h5 : x.kind = 5) : ∀ (f : Fo) (k : Nat) (b : ByteArray), Fo.stand x k b f = true → f.tops = false
  | .nil, _, _, _ => rfl
  | .cons y ks r, k, b, h => by
    simp only [Fo.stand, Bool.and_eq_true, mayStand, if_pos h5, bare, decide_eq_true_eq] at h
    simp only [Fo.tops, Bool.or_eq_false_iff, decide_eq_false_iff_not]
    exact ⟨h.1.2, stand_tops h5 r _ _ h.2⟩
theorem ok_nil {f : Fo} (h : f.count = 0) : f = .nil := by
  cases f with
  | nil => rfl
  | cons _ _ _ => simp [Fo.count] at h
theorem put_nil (n : Int) (u : Nd) (uk : Fo) (m : Bool) : Fo.put n u uk m .nil = .nil := by cases m <;> rfl
theorem put_tail {n : Int} {x : Nd} (h : x.kind = 9 ∧ x.n = n) (u : Nd) (uk ks r : Fo) (m : Bool) : Fo.put n u uk m (.cons x ks r) = uk := by rw [Fo.put, if_pos h]
theorem put_tail_not {n : Int} {x : Nd} (h : x.kind = 9) (hn : x.n ≠ n) (u : Nd) (uk : Fo) : Fo.put n u uk true (.cons x .nil .nil) = .cons x .nil .nil := by
  rw [put_cons (fun g => hn g.2), cond_true, put_nil]
  unfold Fo.hd
  rw [if_neg (by omega), if_neg (by omega), put_nil]
  rfl
theorem put_two {n0 n1 : Int} (hne : n0 ≠ n1) {u0 u1 : Nd} (h0 : u0.kind ≠ 9) (h1 : u1.kind ≠ 9) (k0 k1 : Fo)
    (H1 : ∀ nm, Fo.hd n0 u0 k0 ⟨u1.kind, nm, u1.n⟩ k1 = (⟨u1.kind, nm, u1.n⟩, k1)) (H0 : ∀ nm, Fo.hd n1 u1 k1 ⟨u0.kind, nm, u0.n⟩ k0 = (⟨u0.kind, nm, u0.n⟩, k0)) :
    ∀ (f : Fo) (m : Bool), f.ok = true → f.ends = true → (m = false → f.tops = false) → (f.flat.any (tl n1) = true → Fo.put n0 u0 k0 true k1 = k1) → (f.flat.any (tl n0) = true → Fo.put n1 u1 k1 true k0 = k0) →
    Fo.clean n1 u1 k1 m f → Fo.clean n0 u0 k0 m f → Fo.put n0 u0 k0 m (Fo.put n1 u1 k1 m f) = Fo.put n1 u1 k1 m (Fo.put n0 u0 k0 m f)
  | .nil, m, _, _, _, _, _, _, _ => by simp only [put_nil]
  | .cons x ks r, m, h, he, hto, T1, T0, c1, c0 => by
    simp only [Fo.ok, Bool.and_eq_true, decide_eq_true_eq] at h
    obtain ⟨⟨⟨⟨hn, hm⟩, hs⟩, hk⟩, hr⟩ := h
    simp only [Fo.ends, Bool.and_eq_true, Bool.or_eq_true, Bool.not_eq_true', decide_eq_false_iff_not, decide_eq_true_eq] at he
    have hke := kids_ends hm hs
    simp only [Fo.flat, List.any_cons, List.any_append, Bool.or_eq_true] at T1 T0
    simp only [Fo.tops, Bool.or_eq_false_iff, decide_eq_false_iff_not] at hto
    simp only [Fo.clean] at c1 c0
    by_cases h9 : x.kind = 9
    · have hmt : m = true := by
        cases m with
        | true => rfl
        | false => exact absurd h9 (hto rfl).1
      subst hmt
      have : r = .nil := by
        have := he.1.resolve_left (fun g => g h9)
        cases r with
        | nil => rfl
        | cons _ _ _ => simp [Fo.count] at this
      subst this
      obtain rfl := kids_none hm (Or.inr h9)
      by_cases e1 : x.n = n1
      · rw [put_tail ⟨h9, e1⟩, T1 (Or.inl (by simp [tl, h9, e1])), put_tail_not h9 (by omega), put_tail ⟨h9, e1⟩]
      · by_cases e0 : x.n = n0
        · rw [put_tail_not h9 e1, put_tail ⟨h9, e0⟩, T0 (Or.inl (by simp [tl, h9, e0]))]
        · rw [put_tail_not h9 e1, put_tail_not h9 e0, put_tail_not h9 e1]
    · have ir := put_two hne h0 h1 k0 k1 H1 H0 r m hr he.2 (fun g => (hto g).2) (fun g => T1 (Or.inr (Or.inr g))) (fun g => T0 (Or.inr (Or.inr g))) c1.2.2 c0.2.2
      have ik := fun b hb => put_two hne h0 h1 k0 k1 H1 H0 ks b hk hke hb (fun g => T1 (Or.inr (Or.inl g))) (fun g => T0 (Or.inr (Or.inl g)))
      have hd2 : Fo.hd n0 u0 k0 (Fo.hd n1 u1 k1 x ks).1 (Fo.hd n1 u1 k1 x ks).2 = Fo.hd n1 u1 k1 (Fo.hd n0 u0 k0 x ks).1 (Fo.hd n0 u0 k0 x ks).2 := by
        by_cases h8 : x.kind = 8
        · obtain rfl := kids_none hm (Or.inl h8)
          have same : ∀ (n : Int) (u : Nd) (uk : Fo), x.n ≠ n → Fo.hd n u uk x .nil = (x, .nil) := fun n u uk g => by
            unfold Fo.hd
            rw [if_neg (fun g' => g g'.2), if_neg (by omega), put_nil]
          have mine : ∀ (n : Int) (u : Nd) (uk : Fo), x.n = n → Fo.hd n u uk x .nil = (⟨u.kind, x.name, u.n⟩, uk) := fun n u uk g => by
            unfold Fo.hd
            rw [if_pos ⟨h8, g⟩]
          by_cases e1 : x.n = n1
          · rw [mine n1 u1 k1 e1, same n0 u0 k0 (by omega), H1, mine n1 u1 k1 e1]
          · by_cases e0 : x.n = n0
            · rw [mine n0 u0 k0 e0, same n1 u1 k1 e1, H0, mine n0 u0 k0 e0]
            · rw [same n0 u0 k0 e0, same n1 u1 k1 e1, same n0 u0 k0 e0]
        · by_cases h67 : x.kind = 6 ∨ x.kind = 7
          · have row : ∀ (n : Int) (u : Nd) (uk : Fo) (c : Int) (k : Fo), Fo.hd n u uk ⟨x.kind, x.name, c⟩ k = (⟨x.kind, x.name, (Fo.put n u uk true k).count⟩, Fo.put n u uk true k) := fun n u uk c k => by
              unfold Fo.hd
              rw [if_neg (fun g => h8 g.1), if_pos h67]
            have row0 : ∀ (n : Int) (u : Nd) (uk : Fo) (k : Fo), Fo.hd n u uk x k = (⟨x.kind, x.name, (Fo.put n u uk true k).count⟩, Fo.put n u uk true k) := fun n u uk k => by
              unfold Fo.hd
              rw [if_neg (fun g => h8 g.1), if_pos h67]
            rw [row0, row0, row, row]
            rw [decide_eq_true h67] at c1 c0
            rw [ik true (fun g => by cases g) c1.2.1 c0.2.1]
          · have oth : ∀ (n : Int) (u : Nd) (uk : Fo) (k : Fo), Fo.hd n u uk x k = (x, Fo.put n u uk false k) := fun n u uk k => by
              unfold Fo.hd
              rw [if_neg (fun g => h8 g.1), if_neg h67]
            rw [oth, oth, oth, oth]
            rw [decide_eq_false h67] at c1 c0
            have ht : ks.tops = false := by
              by_cases h5 : x.kind = 5
              · exact stand_tops h5 ks _ _ hs
              · have hz : many x = 0 := by unfold many; rw [if_neg h5, if_neg h67]
                cases ks with
                | nil => rfl
                | cons _ _ _ => simp only [Fo.count] at hm; omega
            rw [ik false (fun _ => ht) c1.2.1 c0.2.1]
      have g1 := hd_kind h1 n1 k1 h9 ks
      have g0 := hd_kind h0 n0 k0 h9 ks
      rw [put_cons (fun g => h9 g.1), put_cons (fun g => h9 g.1)]
      cases m with
      | false =>
        rw [cond_false, cond_false, put_cons (fun g => g1 g.1), put_cons (fun g => g0 g.1), cond_false, cond_false, ir, hd2]
      | true =>
        rw [cond_true, cond_true, put_ins h0 k0 g1 _ _ (by rw [hd_name]; exact c1.1 rfl h9), put_ins h1 k1 g0 _ _ (by rw [hd_name]; exact c0.1 rfl h9), ir, hd2]
end Go.Proofs.Ytkkigdbinnfbfaa.L
