/-
  The walk of what each statement of the types asks first: a live question, whose answer is fixed. Condition: the table of powers of ten holds what the program's text says.
-/
import Derived.Test.YtimlblbmfckeiaaDoorTyPr
import Derived.Test.YtimlblbmfckeiaaDoorTyX
import Derived.Test.YtimlblbmfckeiaaDoorTyZ
import Derived.Test.YtimlblbmfckeiaaDoorTyR
import Derived.Test.YtimlblbmfckeiaaDoorTyRR
import Derived.Test.YtimlblbmfckeiaaDoorTyP
namespace Go.Proofs.YtimlblbmfckeiaaDoor
open Go.RowKit

def e0 : ByteArray := ⟨#[]⟩
def tA : List L.Nd := [⟨5, ⟨#[]⟩, 0⟩, ⟨1, ⟨#[]⟩, 0⟩, ⟨5, ⟨#[]⟩, 0⟩, ⟨2, ⟨#[]⟩, 0⟩, ⟨0, ⟨#[]⟩, 0⟩]
def tK : L.Fo := .cons ⟨1, ⟨#[]⟩, 0⟩ .nil (.cons ⟨5, ⟨#[]⟩, 0⟩ (.cons ⟨2, ⟨#[]⟩, 0⟩ .nil (.cons ⟨0, ⟨#[]⟩, 0⟩ .nil .nil)) .nil)
def tR : List L.Nd := [⟨6, ⟨#[]⟩, 2⟩, ⟨4, ⟨#[97]⟩, 0⟩, ⟨5, ⟨#[98]⟩, 0⟩, ⟨1, ⟨#[]⟩, 0⟩, ⟨5, ⟨#[]⟩, 0⟩, ⟨2, ⟨#[]⟩, 0⟩, ⟨0, ⟨#[]⟩, 0⟩]
def rK : L.Fo := .cons ⟨4, ⟨#[97]⟩, 0⟩ .nil (.cons ⟨5, ⟨#[98]⟩, 0⟩ tK .nil)

theorem tA_tree : (L.Fo.cons ⟨5, ⟨#[]⟩, 0⟩ tK .nil).ok = true := by decide
theorem tR_tree : (L.Fo.cons ⟨6, ⟨#[]⟩, 2⟩ rK .nil).ok = true := by kernel_rfl
theorem tA_flat : tA = ⟨5, ⟨#[]⟩, 0⟩ :: tK.flat := by rfl
theorem tR_flat : tR = ⟨6, ⟨#[]⟩, 2⟩ :: rK.flat := by rfl
theorem tA_print : (⟨(L.prT false ⟨5, ⟨#[]⟩, 0⟩ tK).toArray⟩ : ByteArray) = ⟨#[105, 110, 116, 32, 45, 62, 32, 98, 111, 111, 108, 32, 45, 62, 32, 63]⟩ := by decide
theorem tR_print : (⟨(L.prT false ⟨6, ⟨#[]⟩, 2⟩ rK).toArray⟩ : ByteArray) = ⟨#[123, 97, 58, 32, 117, 110, 105, 116, 44, 32, 98, 58, 32, 105, 110, 116, 32, 45, 62, 32, 98, 111, 111, 108, 32, 45, 62, 32, 63, 125]⟩ := by decide
theorem tR_right : L.rightL tR = true := by kernel_rfl
theorem tR_static : L.staticL tR = false := by decide
theorem tR_eat : L.eat 1 (tR.drop 1) = 1 := by decide
theorem tR_row : L.isRow 6 [⟨#[98]⟩, ⟨#[97]⟩] 2 = true := by decide
theorem ab_rise {ks : List Nat} (hp : ks.Perm (List.range 2)) (hs : ks.Pairwise (fun i j => 0 ≤ Lib.compareBytes (([⟨#[98]⟩, ⟨#[97]⟩] : List ByteArray).getD j ⟨#[]⟩).data.toList (([⟨#[98]⟩, ⟨#[97]⟩] : List ByteArray).getD i ⟨#[]⟩).data.toList)) : ks = [1, 0] := by
  match ks, hp.length_eq with
  | [a, b], _ =>
    have ha : a ∈ List.range 2 := hp.subset (by simp)
    have hb : b ∈ List.range 2 := hp.subset (by simp)
    have hn : ([a, b] : List Nat).Nodup := hp.nodup_iff.2 List.nodup_range
    simp only [List.mem_range] at ha hb
    simp only [List.pairwise_cons, List.mem_singleton, forall_eq] at hs
    obtain rfl | rfl : a = 0 ∨ a = 1 := by omega
    · obtain rfl | rfl : b = 0 ∨ b = 1 := by omega
      · simp at hn
      · exact absurd hs.1 (by decide)
    · obtain rfl | rfl : b = 0 ∨ b = 1 := by omega
      · rfl
      · simp at hn

theorem tShort : Short (⟨5, ⟨#[]⟩, 0⟩ :: tK.flat) := by
  rw [← tA_flat]
  unfold Short tA
  decide
theorem rShort : Short (⟨6, ⟨#[]⟩, 2⟩ :: rK.flat) := by
  rw [← tR_flat]
  unfold Short tR
  decide

theorem printA (v : Value) (w : World) (hx : Rd w w.heap.size v tA) (hT : Tab w) :
    Calls Tryd.prog 9 #[v] w fun e w' => e = .returned (.string ⟨#[105, 110, 116, 32, 45, 62, 32, 98, 111, 111, 108, 32, 45, 62, 32, 63]⟩) ∧ Below w.heap.size w w' := by
  have := print_any _ tK tA_tree tShort (by decide) v w (tA_flat ▸ hx) hT
  rw [tA_print] at this
  exact this
theorem printR (v : Value) (w : World) (hx : Rd w w.heap.size v tR) (hT : Tab w) :
    Calls Tryd.prog 9 #[v] w fun e w' => e = .returned (.string ⟨#[123, 97, 58, 32, 117, 110, 105, 116, 44, 32, 98, 58, 32, 105, 110, 116, 32, 45, 62, 32, 98, 111, 111, 108, 32, 45, 62, 32, 63, 125]⟩) ∧ Below w.heap.size w w' := by
  have := print_any _ rK tR_tree rShort (by decide) v w (tR_flat ▸ hx) hT
  rw [tR_print] at this
  exact this

theorem rowR (vt vu vs vts : Value) (w : World) (hs : RdS w w.heap.size vs [⟨#[98]⟩, ⟨#[97]⟩]) (ht : RdT w vts [(vt, tA), (vu, [⟨4, ⟨#[]⟩, 0⟩])]) :
    Calls Tryd.prog 19 #[.int .i64 6, vs, vts] w fun e w' => Below w.heap.size w w' ∧ ∃ v', e = .returned (.tuple #[v', .int .i64 0]) ∧ Own w.heap.size v' tR w' := by
  refine (row_any 6 _ _ (by decide) (by decide) (by simp) (by simp [tA]) (by simp [tA]) vs vts w hs ht).mono ?_
  rintro e w' ⟨hb, h⟩
  refine ⟨hb, ?_⟩
  rcases h with ⟨h, -⟩ | ⟨-, ks, hp, hs, h⟩
  · exact absurd h (by simp [tR_row])
  · obtain rfl := ab_rise hp hs
    rcases h with ⟨⟨j, h0, h1, h2⟩, -⟩ | ⟨-, v', he, ho⟩
    · have : j = 1 := by simp at h1; omega
      subst this
      simp at h2
    · exact ⟨v', he, ho⟩

set_option maxHeartbeats 2000000 in
set_option maxRecDepth 100000 in
theorem alive_any (w : World) (hT : Tab w) :
    Calls Tryd.prog 8 #[] w fun e w' => e = .returned (.bool true) ∧ Below w.heap.size w w' := by
  go_enter Tryd.func8, Tryd.ntmps8
  go_wp2_with fail
  have o1 := ((lit_own w 0 (Nat.zero_le _) 1 0 ⟨#[]⟩).alloc (.cells #[.int .i64 2, .string ⟨#[]⟩, .int .i64 0] 44)).alloc (.cells #[.int .i64 0, .string ⟨#[]⟩, .int .i64 0] 44)
  have o2 := (lit_own (w.alloc (.cells #[.int .i64 1, .string ⟨#[]⟩, .int .i64 0] 44)) 0 (Nat.zero_le _) 2 0 ⟨#[]⟩).alloc (.cells #[.int .i64 0, .string ⟨#[]⟩, .int .i64 0] 44)
  have o3 := lit_own ((w.alloc (.cells #[.int .i64 1, .string ⟨#[]⟩, .int .i64 0] 44)).alloc (.cells #[.int .i64 2, .string ⟨#[]⟩, .int .i64 0] 44)) 0 (Nat.zero_le _) 0 0 ⟨#[]⟩
  have hb3 : Below w.heap.size w (((w.alloc (.cells #[.int .i64 1, .string ⟨#[]⟩, .int .i64 0] 44)).alloc (.cells #[.int .i64 2, .string ⟨#[]⟩, .int .i64 0] 44)).alloc (.cells #[.int .i64 0, .string ⟨#[]⟩, .int .i64 0] 44)) := ((below_new _).alloc (by simp) _).alloc (by simp; omega) _
  have sz : ∀ (u : World) (o : Obj), (u.alloc o).heap.size = u.heap.size + 1 := fun u o => by simp
  simp only [sz] at o2 o3
  have HA1 := hid (arrow_any _ _ _ _ _ o2.rd o3.rd (by simp) (by simp) (by simp) (by simp))
  generalize (((w.alloc (.cells #[.int .i64 1, .string ⟨#[]⟩, .int .i64 0] 44)).alloc (.cells #[.int .i64 2, .string ⟨#[]⟩, .int .i64 0] 44)).alloc (.cells #[.int .i64 0, .string ⟨#[]⟩, .int .i64 0] 44)) = w3 at *
  refine (HA1.out).mono ?_
  rintro e w4 ⟨v4, rfl, o4, b4⟩
  have HA2 := hid (arrow_any _ _ _ _ _ ((o1.rd.below b4).mono b4.size) o4.rd (by simp) (by simp) (by simp) (by simp))
  have hb4 := hb3.trans (b4.mono hb3.size)
  clear o1 o2 o3 o4 HA1 b4 hb3
  go_wp2_with fail
  refine (HA2.out).mono ?_
  rintro e w5 ⟨v5, rfl, o5, b5⟩
  have hb5 := hb4.trans (b5.mono hb4.size)
  have HO5 := hid (show Own _ v5 tA w5 from o5)
  clear o5 HA2 b5 hb4
  obtain ⟨A5, cap5, hv5, -⟩ := HO5.out.rd
  subst hv5
  go_wp2_with fail
  have p0 := heap_alloc_new w5 (.cells #[.string ⟨#[98]⟩, .string ⟨#[97]⟩] 9)
  have u0 := lit_own (w5.alloc (.cells #[.string ⟨#[98]⟩, .string ⟨#[97]⟩] 9)) 0 (Nat.zero_le _) 4 0 ⟨#[]⟩
  have q0 := heap_alloc_new ((w5.alloc (.cells #[.string ⟨#[98]⟩, .string ⟨#[97]⟩] 9)).alloc (.cells #[.int .i64 4, .string ⟨#[]⟩, .int .i64 0] 44)) (.cells #[.slice A5 tA.length cap5, .slice (some ⟨w5.heap.size + 1, 0, none⟩) 1 1] 23)
  have t0 := ((HO5.out.alloc (.cells #[.string ⟨#[98]⟩, .string ⟨#[97]⟩] 9)).alloc (.cells #[.int .i64 4, .string ⟨#[]⟩, .int .i64 0] 44)).alloc (.cells #[.slice A5 tA.length cap5, .slice (some ⟨w5.heap.size + 1, 0, none⟩) 1 1] 23)
  have u1 := u0.alloc (.cells #[.slice A5 tA.length cap5, .slice (some ⟨w5.heap.size + 1, 0, none⟩) 1 1] 23)
  have p1 : (((w5.alloc (.cells #[.string ⟨#[98]⟩, .string ⟨#[97]⟩] 9)).alloc (.cells #[.int .i64 4, .string ⟨#[]⟩, .int .i64 0] 44)).alloc (.cells #[.slice A5 tA.length cap5, .slice (some ⟨w5.heap.size + 1, 0, none⟩) 1 1] 23)).heap[w5.heap.size]? = some (.cells #[.string ⟨#[98]⟩, .string ⟨#[97]⟩] 9 (0, 0)) := by
    rw [Lib.alloc_old _ _ _ (by simp; omega), Lib.alloc_old _ _ _ (by simp)]; exact p0
  have hb6 : Below w.heap.size w (((w5.alloc (.cells #[.string ⟨#[98]⟩, .string ⟨#[97]⟩] 9)).alloc (.cells #[.int .i64 4, .string ⟨#[]⟩, .int .i64 0] 44)).alloc (.cells #[.slice A5 tA.length cap5, .slice (some ⟨w5.heap.size + 1, 0, none⟩) 1 1] 23)) := ((hb5.alloc hb5.size _).alloc (by have := hb5.size; simp; omega) _).alloc (by have := hb5.size; simp; omega) _
  simp only [sz] at u1 q0
  clear p0 u0
  generalize (((w5.alloc (.cells #[.string ⟨#[98]⟩, .string ⟨#[97]⟩] 9)).alloc (.cells #[.int .i64 4, .string ⟨#[]⟩, .int .i64 0] 44)).alloc (.cells #[.slice A5 tA.length cap5, .slice (some ⟨w5.heap.size + 1, 0, none⟩) 1 1] 23)) = w6 at *
  have HR := hid (rowR (.slice A5 tA.length cap5) (.slice (some ⟨w5.heap.size + 1, 0, none⟩) 1 1) (.slice (some ⟨w5.heap.size, 0, none⟩) 2 2) (.slice (some ⟨w5.heap.size + 1 + 1, 0, none⟩) 2 2) w6
    ⟨some ⟨w5.heap.size, 0, none⟩, 2, rfl, fun _ => ⟨w5.heap.size, 0, rfl, heap_lt p1, fun i h => by
      have h2 : i < 2 := h
      obtain rfl | rfl : i = 0 ∨ i = 1 := by omega
      · exact Lib.cell_of_heap p1 0
      · exact Lib.cell_of_heap p1 1⟩⟩
    ⟨⟨some ⟨w5.heap.size + 1 + 1, 0, none⟩, 2, rfl, fun _ => ⟨w5.heap.size + 1 + 1, 0, rfl, heap_lt q0, fun i h => by
      have h2 : i < 2 := h
      obtain rfl | rfl : i = 0 ∨ i = 1 := by omega
      · exact Lib.cell_of_heap q0 0
      · exact Lib.cell_of_heap q0 1⟩⟩, fun t ht => by
      simp only [List.mem_cons, List.not_mem_nil, or_false] at ht
      rcases ht with rfl | rfl
      · exact t0.rd
      · exact u1.rd⟩)
  have HT0 := hid t0
  have HB6 := hid hb6
  clear u1 p1 q0 t0 hb6 hb5 HO5 sz
  refine (HR.out).mono ?_
  rintro e w7 ⟨b7, v7, rfl, o7⟩
  have HT7 := hid (HT0.out.below b7)
  have HB7 := hid (HB6.out.trans (b7.mono HB6.out.size))
  have HO7 := hid o7
  clear b7 o7 HT0 HR HB6
  obtain ⟨A7, cap7, hv7, -⟩ := HO7.out.rd
  subst hv7
  have hTb7 := hT.below HB7.out hT.size
  have HP := hid (printA _ _ HT7.out.rd hTb7)
  have HTb7 := hid hTb7
  clear hTb7
  go_wp2_with fail
  refine (HP.out).mono ?_
  rintro e w8 ⟨rfl, b8⟩
  have HO8 := hid (HO7.out.below b8)
  have HB8 := hid (HB7.out.trans (b8.mono HB7.out.size))
  have HTb8 := hid (HTb7.out.grows b8)
  clear b8 HO7 HB7 HTb7 HT7 HP
  have HP := hid (printR _ _ HO8.out.rd HTb8.out)
  go_wp2_with fail
  refine (HP.out).mono ?_
  rintro e w9 ⟨rfl, b9⟩
  have HO9 := hid (HO8.out.below b9)
  have HB9 := hid (HB8.out.trans (b9.mono HB8.out.size))
  clear b9 HO8 HB8 HTb8 HP
  have HP := hid (right_any tR (by decide) _ _ HO9.out.rd)
  rw [tR_right] at HP
  go_wp2_with fail
  refine (HP.out).mono ?_
  rintro e w10 ⟨rfl, b10⟩
  have HO10 := hid (HO9.out.below b10)
  have HB10 := hid (HB9.out.trans (b10.mono HB9.out.size))
  clear b10 HO9 HB9 HP
  have HP := hid (static_any tR _ _ HO10.out.rd)
  rw [tR_static] at HP
  go_wp2_with fail
  refine (HP.out).mono ?_
  rintro e w11 ⟨rfl, b11⟩
  have HO11 := hid (HO10.out.below b11)
  have HB11 := hid (HB10.out.trans (b11.mono HB10.out.size))
  clear b11 HO10 HB10 HP
  have HP := hid (end_any tR (few_of (by decide) (by decide)) _ 1 (by decide) _ HO11.out.rd)
  rw [tR_eat] at HP
  go_wp2_with fail
  refine (HP.out).mono ?_
  rintro e w12 ⟨rfl, b12⟩
  have HB12 := hid (HB11.out.trans (b12.mono HB11.out.size))
  clear b12 HO11 HB11 HP
  go_wp2
  go_ret
  exact ⟨rfl, HB12.out⟩

end Go.Proofs.YtimlblbmfckeiaaDoor
