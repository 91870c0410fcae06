/-
  The live question of layer 12. No conditions.
-/
import Derived.Test.YtkkigdbinnfbfaaTmU4
import Derived.Test.YtkkigdbinnfbfaaTmV
import Derived.Test.YtkkigdbinnfbfaaTmD2
import Derived.Test.YtkkigdbinnfbfaaM5
import Derived.Test.YtkkigdbinnfbfaaTmW1
namespace Go.Proofs.Ytkkigdbinnfbfaa
open Go.RowKit

theorem alive_put : L.putRes 5 ⟨6, ⟨#[]⟩, 1⟩ (.cons ⟨8, ⟨#[98]⟩, 1⟩ .nil .nil) (.cons ⟨6, ⟨#[]⟩, 2⟩ (.cons ⟨1, ⟨#[97]⟩, 0⟩ .nil (.cons ⟨9, ⟨#[]⟩, 5⟩ .nil .nil)) .nil) = ([⟨6, ⟨#[]⟩, 2⟩, ⟨1, ⟨#[97]⟩, 0⟩, ⟨8, ⟨#[98]⟩, 1⟩], 0) := by decide +kernel
theorem alive_ground : (L.Fo.cons ⟨6, ⟨#[]⟩, 2⟩ (.cons ⟨1, ⟨#[97]⟩, 0⟩ .nil (.cons ⟨8, ⟨#[98]⟩, 1⟩ .nil .nil)) .nil).ground = .cons ⟨6, ⟨#[]⟩, 2⟩ (.cons ⟨1, ⟨#[97]⟩, 0⟩ .nil (.cons ⟨4, ⟨#[98]⟩, 0⟩ .nil .nil)) .nil := by rfl
theorem alive_print1 : (⟨(L.prT false ⟨6, ⟨#[]⟩, 2⟩ (.cons ⟨1, ⟨#[97]⟩, 0⟩ .nil (.cons ⟨8, ⟨#[98]⟩, 1⟩ .nil .nil))).toArray⟩ : ByteArray) = ⟨#[123, 97, 58, 32, 105, 110, 116, 44, 32, 98, 58, 32, 39, 49, 125]⟩ := by decide +kernel
theorem alive_print2 : (⟨(L.prT false ⟨6, ⟨#[]⟩, 2⟩ (.cons ⟨1, ⟨#[97]⟩, 0⟩ .nil (.cons ⟨4, ⟨#[98]⟩, 0⟩ .nil .nil))).toArray⟩ : ByteArray) = ⟨#[123, 97, 58, 32, 105, 110, 116, 44, 32, 98, 58, 32, 117, 110, 105, 116, 125]⟩ := by decide +kernel
theorem alive_vars : (L.varsL [⟨6, ⟨#[]⟩, 2⟩, ⟨1, ⟨#[97]⟩, 0⟩, ⟨9, ⟨#[]⟩, 5⟩]).length = 1 := by decide +kernel
def lT : List L.Nd := [⟨6, ⟨#[]⟩, 2⟩, ⟨1, ⟨#[97]⟩, 0⟩, ⟨9, ⟨#[]⟩, 5⟩]
def lU : List L.Nd := [⟨6, ⟨#[]⟩, 1⟩, ⟨8, ⟨#[98]⟩, 1⟩]
def lP : List L.Nd := [⟨6, ⟨#[]⟩, 2⟩, ⟨1, ⟨#[97]⟩, 0⟩, ⟨8, ⟨#[98]⟩, 1⟩]
def lG : List L.Nd := [⟨6, ⟨#[]⟩, 2⟩, ⟨1, ⟨#[97]⟩, 0⟩, ⟨4, ⟨#[98]⟩, 0⟩]
theorem small_of {l : List L.Nd} (h : (l.all fun x => decide (x.name.size ≤ 100) && decide (x.n ≤ 9223372036854775807)) = true) : ∀ x ∈ l, x.name.size ≤ 100 ∧ x.n ≤ 9223372036854775807 := by
  intro x hx
  have := List.all_eq_true.1 h x hx
  simpa using this
abbrev oT : Obj := .cells #[.int .i64 6, .string ⟨#[]⟩, .int .i64 2, .int .i64 1, .string ⟨#[97]⟩, .int .i64 0, .int .i64 9, .string ⟨#[]⟩, .int .i64 5] 39
abbrev oU : Obj := .cells #[.int .i64 6, .string ⟨#[]⟩, .int .i64 1, .int .i64 8, .string ⟨#[98]⟩, .int .i64 1] 39

set_option maxHeartbeats 4000000 in
set_option maxRecDepth 100000 in
theorem alive_any (w : World) :
    Calls Try.prog 5 #[] w fun e w' => e = .returned (.bool true) ∧ Below w.heap.size w w' := by
  have O1 : Own w.heap.size (.slice (some ⟨w.heap.size, 0, none⟩) 3 3) lT (w.alloc oT) := World.ownsRow_lit w _ 3 (Nat.le_refl _) (by unfold maxLen; omega) rfl
  have B1 := below_new (w := w) oT
  obtain ⟨wa, hwa⟩ : ∃ wa, w.alloc oT = wa := ⟨_, rfl⟩
  have sa : wa.heap.size = w.heap.size + 1 := by rw [← hwa]; simp
  rw [hwa] at O1 B1
  have O2 : Own w.heap.size (.slice (some ⟨wa.heap.size, 0, none⟩) 2 2) lU (wa.alloc oU) := World.ownsRow_lit wa _ 2 (by omega) (by unfold maxLen; omega) rfl
  have O1b := O1.alloc oU
  have B2 := B1.alloc (by omega) oU
  obtain ⟨wb, hwb⟩ : ∃ wb, wa.alloc oU = wb := ⟨_, rfl⟩
  have sb : wb.heap.size = w.heap.size + 2 := by rw [← hwb]; simp; omega
  rw [hwb] at O2 O1b B2
  rw [sa] at O2
  have HB2 := hid B2
  have HO1 := hid O1b
  have HP := hid (put_any ⟨6, ⟨#[]⟩, 2⟩ (.cons ⟨1, ⟨#[97]⟩, 0⟩ .nil (.cons ⟨9, ⟨#[]⟩, 5⟩ .nil .nil)) ⟨by decide +kernel, by decide, by decide, fun x hx => ((small_of (l := lT) (by decide +kernel)) x hx).1, fun x hx => ((small_of (l := lT) (by decide +kernel)) x hx).2⟩
    ⟨6, ⟨#[]⟩, 1⟩ (.cons ⟨8, ⟨#[98]⟩, 1⟩ .nil .nil) ⟨by decide +kernel, by decide, by decide, fun x hx => ((small_of (l := lU) (by decide +kernel)) x hx).1, fun x hx => ((small_of (l := lU) (by decide +kernel)) x hx).2⟩ 5 _ _ wb O1b.rd O2.rd)
  rw [alive_put] at HP
  have HS := hid (show w.alloc oT = wa ∧ wa.alloc oU = wb from ⟨hwa, hwb⟩)
  clear O1 B1 O2 O1b B2 hwa hwb
  unfold oT oU at HS
  go_enter Try.func5, Try.ntmps5
  go_wp2_with fail
  rw [HS.out.1, HS.out.2]
  refine (HP.out).mono ?_
  rintro e w1 ⟨v1, rfl, hO, hb⟩
  have HB3 := hid (HB2.out.trans (hb.mono HB2.out.size))
  have HO3 := hid hO
  have HO1b := hid (HO1.out.below hb)
  clear hO hb HP
  have HP := hid (refPrint_any ⟨6, ⟨#[]⟩, 2⟩ (.cons ⟨1, ⟨#[97]⟩, 0⟩ .nil (.cons ⟨8, ⟨#[98]⟩, 1⟩ .nil .nil)) (by decide +kernel) (fun x hx => by have := small_of (l := lP) (by decide +kernel) x hx; omega) (by decide) (by decide) v1 w1 HO3.out.rd)
  rw [alive_print1] at HP
  go_wp2_with fail
  refine (HP.out).mono ?_
  rintro e w2 ⟨rfl, hb⟩
  have HB4 := hid (HB3.out.trans (hb.mono HB3.out.size))
  have HO4 := hid (HO3.out.below hb)
  have HO1c := hid (HO1b.out.below hb)
  clear hb HP
  have HG := hid (ground_any (.cons ⟨6, ⟨#[]⟩, 2⟩ (.cons ⟨1, ⟨#[97]⟩, 0⟩ .nil (.cons ⟨8, ⟨#[98]⟩, 1⟩ .nil .nil)) .nil) (by decide +kernel) (by decide) (by decide) (fun x hx => ((small_of (l := lP) (by decide +kernel)) x hx).2) v1 w2 HO4.out.rd)
  rw [alive_ground] at HG
  go_wp2_with fail
  refine (HG.out).mono ?_
  rintro e w3 ⟨v3, rfl, hO, hb⟩
  have HB5 := hid (HB4.out.trans (hb.mono HB4.out.size))
  have HO1d := hid (HO1c.out.below hb)
  have HP := hid (refPrint_any ⟨6, ⟨#[]⟩, 2⟩ (.cons ⟨1, ⟨#[97]⟩, 0⟩ .nil (.cons ⟨4, ⟨#[98]⟩, 0⟩ .nil .nil)) (by decide +kernel) (fun x hx => by have := small_of (l := lG) (by decide +kernel) x hx; omega) (by decide) (by decide) v3 w3 hO.rd)
  rw [alive_print2] at HP
  clear hO hb HG
  go_wp2_with fail
  refine (HP.out).mono ?_
  rintro e w4 ⟨rfl, hb⟩
  have HB6 := hid (HB5.out.trans (hb.mono HB5.out.size))
  have HO1e := hid (HO1d.out.below hb)
  clear hb HP
  have HV := hid (vars_any lT (by decide) _ w4 HO1e.out.rd)
  go_wp2_with fail
  refine (HV.out).mono ?_
  rintro e w5 ⟨v5, rfl, hO, hb⟩
  have HB7 := hid (HB6.out.trans (hb.mono HB6.out.size))
  obtain ⟨A5, c5, rfl, -⟩ := hO.val
  have HL := hid (show (L.varsL lT).length = 1 from alive_vars)
  rw [HL.out]
  clear hO hb HV
  go_wp2_with fail
  go_ret
  exact ⟨rfl, HB7.out⟩
end Go.Proofs.Ytkkigdbinnfbfaa
