/-
  The live question of layer 7. No conditions.
-/
import Derived.Test.YtpndbgdimkpfjaaPvT
import Derived.Test.YtpndbgdimkpfjaaM5
import Derived.Test.YtpndbgdimkpfjaaM4
namespace Go.Proofs.Ytpndbgdimkpfjaa
open Go.RowKit Go.Sort

def n0 (k : Int) : L.Nd := ⟨k, ⟨#[]⟩, 0⟩
def dF : L.Fo := .cons (n0 0) .nil .nil
/-- A literal of three nodes is a row of the call's own. -/
theorem lit3 (w : World) (B : Nat) (hB : B ≤ w.heap.size) (k1 k2 k3 : Int) : Own B (.slice (some ⟨w.heap.size, 0, none⟩) 3 3) [n0 k1, n0 k2, n0 k3] (w.alloc (.cells #[.int .i64 k1, .string ⟨#[]⟩, .int .i64 0, .int .i64 k2, .string ⟨#[]⟩, .int .i64 0, .int .i64 k3, .string ⟨#[]⟩, .int .i64 0] 39)) :=
  World.ownsRow_lit w _ 3 hB (by unfold maxLen; omega) rfl
theorem lit1 (w : World) (B : Nat) (hB : B ≤ w.heap.size) : Own B (.slice (some ⟨w.heap.size, 0, none⟩) 1 1) dF.flat (w.alloc (.cells #[.int .i64 0, .string ⟨#[]⟩, .int .i64 0] 39)) :=
  World.ownsRow_lit w _ 1 hB (by unfold maxLen; omega) rfl

def aF : L.Fo := .cons (n0 5) (.cons (n0 0) .nil (.cons (n0 1) .nil .nil)) .nil
def bF : L.Fo := .cons (n0 5) (.cons (n0 2) .nil (.cons (n0 0) .nil .nil)) .nil
def mF : L.Fo := .cons (n0 5) (.cons (n0 2) .nil (.cons (n0 1) .nil .nil)) .nil

theorem few_small (l : List L.Nd) (h : l.all (fun x => decide (0 ≤ L.many x) && decide (L.many x ≤ 50)) = true) (hl : l.length ≤ 20000) : Few l :=
  ⟨hl, fun x hx => by simpa using List.all_eq_true.1 h x hx⟩

theorem ty_of (F : L.Fo) (h1 : F.ok = true) (h2 : F.plain = true) (h3 : F ≠ .nil) (h4 : (F.flat.all (fun x => decide (0 ≤ L.many x) && decide (L.many x ≤ 50)) && decide (F.flat.length ≤ 20000) && F.flat.all (fun x => decide (x.name.size ≤ 2000000))) = true) : Ty F.flat F := by
  simp only [Bool.and_eq_true, decide_eq_true_eq] at h4
  exact ⟨rfl, h1, h2, h3, few_small _ h4.1.1 h4.1.2, fun x hx => by simpa using List.all_eq_true.1 h4.2 x hx⟩

theorem ty_a : Ty aF.flat aF := ty_of aF (by decide) (by decide) (by intro h; cases h) (by decide)
theorem ty_b : Ty bF.flat bF := ty_of bF (by decide) (by decide) (by intro h; cases h) (by decide)
theorem ty_m : Ty mF.flat mF := ty_of mF (by decide) (by decide) (by intro h; cases h) (by decide)
theorem ty_d : Ty dF.flat dF := ty_of dF (by decide) (by decide) (by intro h; cases h) (by decide)
theorem ag_ab : L.agF aF bF = true := by decide
theorem me_ab : L.meF aF bF = mF := by rfl
theorem ag_md : L.agF mF dF = true := by decide
theorem be_md : L.beF mF dF = true := by decide
theorem be_dm : L.beF dF mF = false := by decide
theorem m_print : (⟨(L.prT false (n0 5) (.cons (n0 2) .nil (.cons (n0 1) .nil .nil))).toArray⟩ : ByteArray) = ⟨#[98, 111, 111, 108, 32, 45, 62, 32, 105, 110, 116]⟩ := by decide


theorem m_short : Short (n0 5 :: L.Fo.flat (.cons (n0 2) .nil (.cons (n0 1) .nil .nil))) := by
  intro x hx
  have : x = n0 5 ∨ x = n0 2 ∨ x = n0 1 := by simpa [L.Fo.flat] using hx
  rcases this with rfl | rfl | rfl <;> exact ⟨by decide, by decide⟩

set_option maxHeartbeats 2000000 in
set_option maxRecDepth 100000 in
theorem alive_any (w : World) :
    Calls Try.prog 12 #[] w fun e w' => e = .returned (.bool true) ∧ Below w.heap.size w w' := by
  go_enter Try.func12, Try.ntmps12
  go_wp2_with fail
  have sz : ∀ (u : World) (o : Obj), (u.alloc o).heap.size = u.heap.size + 1 := fun u o => by simp
  have OA := (lit3 w w.heap.size (Nat.le_refl _) 5 0 1).alloc (.cells #[.int .i64 5, .string ⟨#[]⟩, .int .i64 0, .int .i64 2, .string ⟨#[]⟩, .int .i64 0, .int .i64 0, .string ⟨#[]⟩, .int .i64 0] 39)
  have OB := lit3 (w.alloc (.cells #[.int .i64 5, .string ⟨#[]⟩, .int .i64 0, .int .i64 0, .string ⟨#[]⟩, .int .i64 0, .int .i64 1, .string ⟨#[]⟩, .int .i64 0] 39)) w.heap.size (by simp) 5 2 0
  have hb2 : Below w.heap.size w ((w.alloc (.cells #[.int .i64 5, .string ⟨#[]⟩, .int .i64 0, .int .i64 0, .string ⟨#[]⟩, .int .i64 0, .int .i64 1, .string ⟨#[]⟩, .int .i64 0] 39)).alloc (.cells #[.int .i64 5, .string ⟨#[]⟩, .int .i64 0, .int .i64 2, .string ⟨#[]⟩, .int .i64 0, .int .i64 0, .string ⟨#[]⟩, .int .i64 0] 39)) := (below_new _).trans ((below_new _).mono (by simp))
  simp only [sz] at OB
  generalize (w.alloc (.cells #[.int .i64 5, .string ⟨#[]⟩, .int .i64 0, .int .i64 0, .string ⟨#[]⟩, .int .i64 0, .int .i64 1, .string ⟨#[]⟩, .int .i64 0] 39)).alloc (.cells #[.int .i64 5, .string ⟨#[]⟩, .int .i64 0, .int .i64 2, .string ⟨#[]⟩, .int .i64 0, .int .i64 0, .string ⟨#[]⟩, .int .i64 0] 39) = w2 at *
  have HM := hid (meet_any ty_a ty_b (.slice (some ⟨w.heap.size, 0, none⟩) 3 3) (.slice (some ⟨w.heap.size + 1, 0, none⟩) 3 3) w2 OA.rd OB.rd)
  have HB2 := hid hb2
  clear OA OB hb2 sz
  refine (HM.out).mono ?_
  rintro e w3 ⟨vm, c, rfl, hp, h3⟩
  obtain ⟨rfl, hO⟩ : c = 0 ∧ Own w2.heap.size vm mF.flat w3 := by
    rcases hp with ⟨-, hc, ho⟩ | ⟨hf, -⟩
    · exact ⟨hc, by rw [me_ab] at ho; exact ho⟩
    · rw [ag_ab] at hf; cases hf
  have HB3 := hid (HB2.out.trans (h3.mono HB2.out.size))
  obtain ⟨A3, c3, rfl, -⟩ := hO.rd
  have HO3 := hid hO
  clear hp h3 hO HM HB2
  have HP := hid (refPrint_any (n0 5) (.cons (n0 2) .nil (.cons (n0 1) .nil .nil)) (by decide) m_short (by decide) (by decide) (.slice A3 mF.flat.length c3) w3 HO3.out.rd)
  rw [m_print] at HP
  go_wp2_with fail
  refine (HP.out).mono ?_
  rintro e w4 ⟨rfl, h4⟩
  have HO4 := hid (HO3.out.below h4)
  have HB4 := hid (HB3.out.trans (h4.mono HB3.out.size))
  clear h4 HO3 HB3 HP
  have HC := hid (agree_any ty_m ty_d (.slice A3 mF.flat.length c3) (.slice (some ⟨w4.heap.size, 0, none⟩) 1 1) (w4.alloc (.cells #[.int .i64 0, .string ⟨#[]⟩, .int .i64 0] 39)) (HO4.out.alloc (.cells #[.int .i64 0, .string ⟨#[]⟩, .int .i64 0] 39)).rd (lit1 w4 0 (Nat.zero_le _)).rd)
  rw [ag_md] at HC
  go_wp2_with fail
  refine (HC.out).mono ?_
  rintro e w5 ⟨rfl, h0⟩
  have HO5 := hid ((HO4.out.alloc (.cells #[.int .i64 0, .string ⟨#[]⟩, .int .i64 0] 39)).below h0)
  have HB5 := hid ((HB4.out.trans ((below_new _).mono HB4.out.size)).trans (h0.mono (Nat.le_trans HB4.out.size (by simp))))
  clear h0 HC HO4 HB4
  have HC := hid (below_any ty_m ty_d (.slice A3 mF.flat.length c3) (.slice (some ⟨w5.heap.size, 0, none⟩) 1 1) (w5.alloc (.cells #[.int .i64 0, .string ⟨#[]⟩, .int .i64 0] 39)) (HO5.out.alloc (.cells #[.int .i64 0, .string ⟨#[]⟩, .int .i64 0] 39)).rd (lit1 w5 0 (Nat.zero_le _)).rd)
  rw [be_md] at HC
  go_wp2_with fail
  refine (HC.out).mono ?_
  rintro e w6 ⟨rfl, h0⟩
  have HO6 := hid ((HO5.out.alloc (.cells #[.int .i64 0, .string ⟨#[]⟩, .int .i64 0] 39)).below h0)
  have HB6 := hid ((HB5.out.trans ((below_new _).mono HB5.out.size)).trans (h0.mono (Nat.le_trans HB5.out.size (by simp))))
  clear h0 HC HO5 HB5
  have HC := hid (below_any ty_d ty_m (.slice (some ⟨w6.heap.size, 0, none⟩) 1 1) (.slice A3 mF.flat.length c3) (w6.alloc (.cells #[.int .i64 0, .string ⟨#[]⟩, .int .i64 0] 39)) (lit1 w6 0 (Nat.zero_le _)).rd (HO6.out.alloc (.cells #[.int .i64 0, .string ⟨#[]⟩, .int .i64 0] 39)).rd)
  rw [be_dm] at HC
  go_wp2_with fail
  refine (HC.out).mono ?_
  rintro e w7 ⟨rfl, h0⟩
  have HO7 := hid ((HO6.out.alloc (.cells #[.int .i64 0, .string ⟨#[]⟩, .int .i64 0] 39)).below h0)
  have HB7 := hid ((HB6.out.trans ((below_new _).mono HB6.out.size)).trans (h0.mono (Nat.le_trans HB6.out.size (by simp))))
  clear h0 HC HO6 HB6
  go_wp2
  go_ret
  exact ⟨rfl, HB7.out⟩

end Go.Proofs.Ytpndbgdimkpfjaa
