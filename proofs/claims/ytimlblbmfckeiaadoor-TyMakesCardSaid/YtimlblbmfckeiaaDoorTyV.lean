/-
  Texts in their order, no program: comparing them byte by byte is an order. No conditions.
-/
import Derived.Test.YtimlblbmfckeiaaDoorTyQ
import Derived.Lib.Bytealg
namespace Go.Proofs.YtimlblbmfckeiaaDoor.L
open Go

theorem u8_lt {a b : UInt8} : a < b ↔ a.toNat < b.toNat := UInt8.lt_iff_toNat_lt

theorem cB_anti (a b : List UInt8) : Lib.compareBytes a b = - Lib.compareBytes b a := by
  induction a generalizing b with
  | nil => cases b <;> rfl
  | cons x a ih =>
    cases b with
    | nil => rfl
    | cons y b =>
      have h1 : x < y ↔ x.toNat < y.toNat := u8_lt
      have h2 : y < x ↔ y.toNat < x.toNat := u8_lt
      simp only [Lib.compareBytes]
      by_cases p : x < y
      · have q : ¬ y < x := by rw [h2]; rw [h1] at p; omega
        rw [if_pos p, if_neg q, if_pos p]
      · by_cases q : y < x
        · rw [if_neg p, if_pos q, if_pos q]
          rfl
        · rw [if_neg p, if_neg q, if_neg q, if_neg p, ih b]

theorem cB_zero {a b : List UInt8} (h : Lib.compareBytes a b = 0) : a = b := by
  induction a generalizing b with
  | nil =>
    cases b with
    | nil => rfl
    | cons y b => simp [Lib.compareBytes] at h
  | cons x a ih =>
    cases b with
    | nil => simp [Lib.compareBytes] at h
    | cons y b =>
      have h1 : x < y ↔ x.toNat < y.toNat := u8_lt
      have h2 : y < x ↔ y.toNat < x.toNat := u8_lt
      simp only [Lib.compareBytes] at h
      by_cases p : x < y
      · rw [if_pos p] at h; omega
      · by_cases q : y < x
        · rw [if_neg p, if_pos q] at h; omega
        · rw [if_neg p, if_neg q] at h
          have : x = y := UInt8.toNat_inj.1 (by rw [h1] at p; rw [h2] at q; omega)
          rw [this, ih h]

theorem cB_self (a : List UInt8) : Lib.compareBytes a a = 0 := by
  have := cB_anti a a
  omega

theorem cB_trans {a b c : List UInt8} (h1 : Lib.compareBytes a b < 0) (h2 : Lib.compareBytes b c < 0) : Lib.compareBytes a c < 0 := by
  induction a generalizing b c with
  | nil =>
    cases b with
    | nil => simp [Lib.compareBytes] at h1
    | cons y b =>
      cases c with
      | nil => simp [Lib.compareBytes] at h2
      | cons z c => simp [Lib.compareBytes]
  | cons x a ih =>
    cases b with
    | nil => simp [Lib.compareBytes] at h1
    | cons y b =>
      cases c with
      | nil => simp [Lib.compareBytes] at h2
      | cons z c =>
        have e1 : x < y ↔ x.toNat < y.toNat := u8_lt
        have e2 : y < x ↔ y.toNat < x.toNat := u8_lt
        have e3 : y < z ↔ y.toNat < z.toNat := u8_lt
        have e4 : z < y ↔ z.toNat < y.toNat := u8_lt
        have e5 : x < z ↔ x.toNat < z.toNat := u8_lt
        have e6 : z < x ↔ z.toNat < x.toNat := u8_lt
        simp only [Lib.compareBytes] at h1 h2 ⊢
        by_cases p5 : x < z
        · rw [if_pos p5]; omega
        · rw [if_neg p5]
          by_cases p1 : x < y
          · rw [if_pos p1] at h1
            by_cases p3 : y < z
            · exact absurd (e5.2 (Nat.lt_trans (e1.1 p1) (e3.1 p3))) p5
            · rw [if_neg p3] at h2
              by_cases p4 : z < y
              · rw [if_pos p4] at h2; omega
              · exfalso
                rw [e5] at p5; rw [e1] at p1; rw [e3] at p3; rw [e4] at p4
                omega
          · rw [if_neg p1] at h1
            by_cases p2 : y < x
            · rw [if_pos p2] at h1; omega
            · rw [if_neg p2] at h1
              by_cases p3 : y < z
              · exfalso
                rw [e5] at p5; rw [e1] at p1; rw [e2] at p2; rw [e3] at p3
                omega
              · rw [if_neg p3] at h2
                by_cases p4 : z < y
                · rw [if_pos p4] at h2; omega
                · rw [if_neg p4] at h2
                  have p6 : ¬ z < x := by
                    rw [e6]; rw [e1] at p1; rw [e2] at p2; rw [e3] at p3; rw [e4] at p4
                    omega
                  rw [if_neg p6]
                  exact ih h1 h2

theorem cB_ntrans {a b c : List UInt8} (h1 : ¬ Lib.compareBytes a b < 0) (h2 : ¬ Lib.compareBytes b c < 0) : ¬ Lib.compareBytes a c < 0 := by
  intro h3
  have a1 := cB_anti a b
  have a2 := cB_anti b c
  by_cases e1 : Lib.compareBytes a b = 0
  · rw [cB_zero e1] at h3; exact h2 h3
  · by_cases e2 : Lib.compareBytes b c = 0
    · rw [← cB_zero e2] at h3; exact h1 h3
    · have := cB_trans (a := c) (b := b) (c := a) (by omega) (by omega)
      have := cB_anti a c
      omega

/-- One text ahead of another one, by comparing. -/
theorem ltB_iff (a b : ByteArray) : ltB a b = decide (Lib.compareBytes a.data.toList b.data.toList < 0) := by
  unfold ltB
  rw [Lib.toList_data, Lib.toList_data]
  generalize a.data.toList = x
  generalize b.data.toList = y
  induction x generalizing y with
  | nil => cases y <;> simp [Op.bytesLess, Lib.compareBytes]
  | cons p x ih =>
    cases y with
    | nil => simp [Op.bytesLess, Lib.compareBytes]
    | cons q y =>
      have e1 : p < q ↔ p.toNat < q.toNat := u8_lt
      have e2 : q < p ↔ q.toNat < p.toNat := u8_lt
      simp only [Op.bytesLess, Lib.compareBytes]
      by_cases h1 : p < q
      · simp [h1]
      · by_cases h2 : q < p
        · have : p ≠ q := by rintro rfl; rw [e2] at h2; omega
          simp [h1, h2, this]
        · have : p = q := UInt8.toNat_inj.1 (by rw [e1] at h1; rw [e2] at h2; omega)
          subst this
          simp [h1, ih]

end Go.Proofs.YtimlblbmfckeiaaDoor.L
