/-
  The texts TyYs, TyYj, TyPr, one behind the other. Conditions: those that each of them names.
-/
import Derived.Test.YthbieinbpfjgkaaGreatDoorMB1
import Derived.Test.YthbieinbpfjgkaaGreatDoorMB2
import Derived.Test.YthbieinbpfjgkaaGreatDoorMB3
import Derived.Test.YthbieinbpfjgkaaGreatDoorM4
import Derived.Test.YthbieinbpfjgkaaGreatDoorM1
section
/-
  The contract of strings.Builder's String over this seat's program, for the printer that ty.Print has made and that holds at least one byte.
-/
namespace Go.Proofs.YthbieinbpfjgkaaGreatDoor
open Go.Shelf Go.RowKit

theorem refByte : Tryz.prog.underlying 74 = some (.pointer 5) := by kernel_rfl
theorem oneByte : Tryz.prog.cellsOf 5 = 1 := by kernel_rfl

set_option maxHeartbeats 1000000 in
set_option maxRecDepth 100000 in
theorem string_k (B b : Nat) (l : List UInt8) (w : World) (h : Lib.IsBuilderF 91 5 B b (Lib.byteCells l) w) (h0 : l ≠ []) :
    Calls Tryz.prog 47 #[.pointer (some ⟨b, 0, none⟩)] w fun e w' => e = .returned (.string ⟨l.toArray⟩) ∧ Below B w w' ∧ Lib.OthersKept 5 (some b) w w' := by
  obtain ⟨p, hp, hAt⟩ : ∃ p, (p = .pointer none ∨ p = .pointer (some ⟨b, 0, none⟩)) ∧ Lib.BuilderAtF 91 5 B b p (Lib.byteCells l) w := by
    rcases h with h | h
    · exact ⟨_, .inl rfl, h⟩
    · exact ⟨_, .inr rfl, h⟩
  obtain ⟨hB, v, hbk, hown, hne⟩ := hAt
  have hl0 : l.length ≠ 0 := by simpa using h0
  rw [Lib.byteCells_length] at hown
  obtain ⟨g, cap, cur, fz, rfl, hbg, hg, hfz, hnc, hcm, hcs, htake⟩ : ∃ g cap cur fz, v = .slice (some ⟨g, 0, none⟩) l.length cap ∧ B ≤ g ∧ w.heap[g]? = some (.cells cur 5 fz) ∧ fz.2 ≤ l.length * 1 ∧ l.length ≤ cap ∧ cap ≤ maxLen ∧ cur.size = cap * 1 ∧ cur.toList.take (l.length * 1) = Lib.byteCells l := by
    rcases hown.2 with ⟨_, hz⟩ | ⟨g, cap, cur, fz, hv, r⟩
    · exact absurd hz hl0
    · exact ⟨g, cap, cur, fz, hv, r⟩
  have c1 : w.drew.cell? ⟨b, 1, none⟩ = some (.slice (some ⟨g, 0, none⟩) l.length cap) := by
    have : w.drew.heap[b]? = some (.cells #[p, .slice (some ⟨g, 0, none⟩) l.length cap] 91 (0, 0)) := hbk
    rw [Lib.cell_of_heap this]; rfl
  have hSD : (Builtin.unsafeSliceData_ #[52] 74 #[.slice (some ⟨g, 0, none⟩) l.length cap]).run Tryz.prog w.drew = .ok (.pointer (some ⟨g, 0, none⟩)) w.drew :=
    Lib.run_unsafeSliceData_row _ _ _ _ _ _ (by omega)
  have hUS : (Builtin.unsafeString_ #[74, 3] 9 #[.pointer (some ⟨g, 0, none⟩), .int .i64 l.length]).run Tryz.prog w.drew = .ok (.string ⟨l.toArray⟩) (w.drew.freeze ⟨g, 0, none⟩ l.length) := by
    refine Lib.run_unsafeString_row w.drew 74 3 9 5 refByte oneByte g cur.size (by have hg' : w.drew.heap[g]? = some (.cells cur 5 fz) := hg; simp [World.shape?, hg']) l h0 (by omega) (by unfold maxLen at hcm; omega) ?_
    intro j x hx
    have := hown.cells (g := g) rfl j (.int .u8 x.toNat) (by simp [Lib.byteCells, hx])
    exact this
  have mixed : Tryz.prog.follows Departure.mixedOrders = true := by kernel_rfl
  go_enter Tryz.func47, Tryz.ntmps47
  go_wp2
  go_region_o
  all_goals (go_wp2; go_ret; exact ⟨rfl, Lib.below_freeze (Below.drew (Below.refl B w)) (p := ⟨g, 0, none⟩) hbg _, ((Lib.OthersKept.refl _ _ w).drew).freeze ⟨g, 0, none⟩ _ ⟨cur, fz, hg⟩⟩)

end Go.Proofs.YthbieinbpfjgkaaGreatDoor
end

section
/-
  The walk of the closure that ty.Print calls. Condition: a slice that reads as a right tree, whose print has at most 9000000 bytes.
-/
namespace Go.Proofs.YthbieinbpfjgkaaGreatDoor
open Go.RowKit

theorem visitP_any (l : List L.Nd) (hW : ∀ x ∈ l, x.n ≤ 9223372036854775807) (hl20 : l.length ≤ 20000) (v : Value) (T P A V : Nat) (M : Nat) : ∀ (x : L.Nd) (ks : L.Fo), ks.flat.length < M → (L.Fo.cons x ks .nil).ok = true →
    ∀ (pr : Bool) (rest : List L.Nd) (p : Nat) (acc : List UInt8) (w : World), l.drop p = x :: (ks.flat ++ rest) → PSt l v T P A V p acc w → acc.length + (L.prT pr x ks).length ≤ 9000000 →
    Calls Tryz.prog 97 #[.bool pr, .pointer (some ⟨T, 0, none⟩), .pointer (some ⟨A, 0, none⟩), .pointer (some ⟨P, 0, none⟩), .pointer (some ⟨V, 0, none⟩)] w fun e w' =>
      e = .returned (.tuple #[]) ∧ PSt l v T P A V (p + 1 + ks.flat.length) (acc ++ L.prT pr x ks) w' ∧ KA P A w w' := by
  induction M with
  | zero => intro x ks h; omega
  | succ M ih =>
    intro x ks hM hok pr rest p acc w hdr hS hlen
    cases pr with
    | false => exact visitP_plain l hW hl20 v T P A V M ih x ks hM hok rest p acc w hdr hS hlen
    | true => exact visitP_round l hW hl20 v T P A V M ih x ks hM hok rest p acc w hdr hS hlen

end Go.Proofs.YthbieinbpfjgkaaGreatDoor
end

section
/-
  The contract of ty.Print of a right type, and how long a print is; the contract of ty.Same. Conditions: at most 10000 nodes, labels of at most 200 bytes; the table of powers of ten holds what the program's text says.
-/
namespace Go.Proofs.YthbieinbpfjgkaaGreatDoor
open Go.RowKit

set_option maxHeartbeats 2000000 in
set_option maxRecDepth 100000 in
theorem print_any (x : L.Nd) (ks : L.Fo) (hok : (L.Fo.cons x ks .nil).ok = true) (hs : Short (x :: ks.flat)) (hl : ks.flat.length + 1 ≤ 10000) (v : Value) (w : World) (hx : Rd w w.heap.size v (x :: ks.flat)) (hT : Tab w) :
    Calls Tryz.prog 75 #[v] w fun e w' => e = .returned (.string ⟨(L.prT false x ks).toArray⟩) ∧ Below w.heap.size w w' := by
  have hlen := prT_len (p := false) hok hs
  have HNE := hid (prT_ne (p := false) hok)
  have HX := hid hx
  obtain ⟨A, cap, rfl, hl1, hl2, _, hcx⟩ := hx
  obtain ⟨b, o, rfl, hb, _⟩ := hcx (by simp)
  unfold maxLen at hl2
  clear hcx
  have hpos : (0 : Int) < ((x :: ks.flat).length : Int) := by simp
  have hT2 := hT.size
  have HOK := hid hok
  have HT := hid hT
  have HSH := hid hs
  have hll : (x :: ks.flat).length ≤ 20000 := by simp; omega
  have hnl : ([] : List UInt8).length + (L.prT false x ks).length ≤ 9000000 := by simp; omega
  have hdr : (x :: ks.flat).drop 0 = x :: (ks.flat ++ []) := by simp
  have hfl : 0 + 1 + ks.flat.length = (x :: ks.flat).length := by simp [Nat.add_comm]
  clear hok hs hT hlen
  generalize (x :: ks.flat) = l at *
  go_enter Tryz.func75, Tryz.ntmps75
  go_wp2_with fail
  have hS : PSt l (.slice (some ⟨b, o, none⟩) l.length cap) w.heap.size (w.heap.size + 1) (w.heap.size + 1 + 1) (w.heap.size + 1 + 1 + 1) 0 [] ((((w.alloc (.cells #[.slice (some ⟨b, o, none⟩) l.length cap] 37)).alloc (.cells #[.pointer none, .slice none 0 0] 91)).alloc (.cells #[.int .i64 ((0 : Nat) : Int)] 3)).alloc (.cells #[.func (.func 97) #[] #[.pointer (some ⟨w.heap.size, 0, none⟩), .pointer (some ⟨w.heap.size + 1 + 1, 0, none⟩), .pointer (some ⟨w.heap.size + 1, 0, none⟩), .pointer (some ⟨w.heap.size + 1 + 1 + 1, 0, none⟩)]] 92)) := by
    refine ⟨?_, ?_, ?_, ?_, ?_, ?_, hT2, by omega, by omega, by omega⟩
    · rw [Lib.alloc_old _ _ _ (by simp; omega), Lib.alloc_old _ _ _ (by simp; omega), Lib.alloc_old _ _ _ (by simp)]; exact heap_alloc_new w _
    · rw [Lib.alloc_old _ _ _ (by simp)]
      have := heap_alloc_new ((w.alloc (.cells #[.slice (some ⟨b, o, none⟩) l.length cap] 37)).alloc (.cells #[.pointer none, .slice none 0 0] 91)) (.cells #[.int .i64 ((0 : Nat) : Int)] 3)
      simpa using this
    · have := heap_alloc_new (((w.alloc (.cells #[.slice (some ⟨b, o, none⟩) l.length cap] 37)).alloc (.cells #[.pointer none, .slice none 0 0] 91)).alloc (.cells #[.int .i64 ((0 : Nat) : Int)] 3)) (.cells #[.func (.func 97) #[] #[.pointer (some ⟨w.heap.size, 0, none⟩), .pointer (some ⟨w.heap.size + 1 + 1, 0, none⟩), .pointer (some ⟨w.heap.size + 1, 0, none⟩), .pointer (some ⟨w.heap.size + 1 + 1 + 1, 0, none⟩)]] 92)
      simpa using this
    · refine Or.inl ⟨Nat.le_refl _, .slice none 0 0, ?_, ⟨rfl, Or.inl ⟨rfl, rfl⟩⟩, by simp [Value.ownBlock]⟩
      rw [Lib.alloc_old _ _ _ (by simp), Lib.alloc_old _ _ _ (by simp)]
      have := heap_alloc_new (w.alloc (.cells #[.slice (some ⟨b, o, none⟩) l.length cap] 37)) (.cells #[.pointer none, .slice none 0 0] 91)
      simpa using this
    · exact (((HX.out.alloc _).alloc _).alloc _).alloc _
    · exact HT.out.grows ((((below_new _).alloc (by simp) _).alloc (by simp; omega) _).alloc (by simp; omega) _)
  have hB0 : Below w.heap.size w ((((w.alloc (.cells #[.slice (some ⟨b, o, none⟩) l.length cap] 37)).alloc (.cells #[.pointer none, .slice none 0 0] 91)).alloc (.cells #[.int .i64 ((0 : Nat) : Int)] 3)).alloc (.cells #[.func (.func 97) #[] #[.pointer (some ⟨w.heap.size, 0, none⟩), .pointer (some ⟨w.heap.size + 1 + 1, 0, none⟩), .pointer (some ⟨w.heap.size + 1, 0, none⟩), .pointer (some ⟨w.heap.size + 1 + 1 + 1, 0, none⟩)]] 92)) := (((below_new _).alloc (by simp) _).alloc (by simp; omega) _).alloc (by simp; omega) _
  refine (visitP_any l (fun y hy => (HSH.out y hy).2) hll _ _ _ _ _ (ks.flat.length + 1) x ks (by omega) HOK.out false [] 0 [] _ hdr hS hnl).mono ?_
  rintro e w2 ⟨rfl, hS2, hK2⟩
  have hB2 := hB0.trans (hK2.1.mono (by omega))
  have HST := hid (string_k _ _ _ _ hS2.bd (by simpa using HNE.out))
  clear hS2 hK2 hS hB0
  go_wp2_with fail
  refine (HST.out).mono ?_
  rintro e w3 ⟨rfl, hb3, -⟩
  go_wp2
  go_ret
  exact ⟨rfl, hB2.trans (hb3.mono (by omega))⟩

set_option maxHeartbeats 1000000 in
set_option maxRecDepth 100000 in
theorem same_any (x y : List L.Nd) (vx vy : Value) (w : World) (hx : Rd w w.heap.size vx x) (hy : Rd w w.heap.size vy y) :
    Calls Tryz.prog 38 #[vx, vy] w fun e w' => e = .returned (.bool (L.sameL x y)) ∧ Below w.heap.size w w' := by
  have HE := hid (equalFunc_any x y vx vy w hx hy)
  obtain ⟨A, cap, rfl, -⟩ := hx
  obtain ⟨A2, cap2, rfl, -⟩ := hy
  go_enter Tryz.func38, Tryz.ntmps38
  go_wp2_with fail
  refine (HE.out).mono ?_
  rintro e w1 ⟨rfl, hb⟩
  go_wp2
  go_ret
  exact ⟨rfl, hb⟩

end Go.Proofs.YthbieinbpfjgkaaGreatDoor
end
