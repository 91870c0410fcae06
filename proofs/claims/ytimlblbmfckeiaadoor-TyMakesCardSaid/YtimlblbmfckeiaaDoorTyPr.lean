/-
  The contract of ty.Print of a right type, and how long a print is; the contract of ty.Same. Conditions: at most 10000 nodes, labels of at most 200 bytes; the table of powers of ten holds what the program's text says.
-/
import Derived.Test.YtimlblbmfckeiaaDoorTyPl
import Derived.Test.YtimlblbmfckeiaaDoorTyYj
import Derived.Test.YtimlblbmfckeiaaDoorTyYs
import Derived.Test.YtimlblbmfckeiaaDoorTyS
namespace Go.Proofs.YtimlblbmfckeiaaDoor
open Go.RowKit

set_option maxHeartbeats 2000000 in
set_option maxRecDepth 100000 in
theorem print_any (x : L.Nd) (ks : L.Fo) (hok : (L.Fo.cons x ks .nil).ok = true) (hs : Short (x :: ks.flat)) (hl : ks.flat.length + 1 ≤ 10000) (v : Value) (w : World) (hx : Rd w w.heap.size v (x :: ks.flat)) (hT : Tab w) :
    Calls Tryd.prog 9 #[v] w fun e w' => e = .returned (.string ⟨(L.prT false x ks).toArray⟩) ∧ Below w.heap.size w w' := by
  have hlen := prT_len (p := false) hok hs
  have HNE := hid (prT_ne (p := false) hok)
  have HX := hid hx
  obtain ⟨A, cap, rfl, hl1, hl2, _, hcx⟩ := hx
  obtain ⟨b, o, rfl, hb, _⟩ := hcx (by simp)
  unfold maxLen at hl2
  clear hcx
  have hpos : (0 : Int) < ((x :: ks.flat).length : Int) := by simp
  have hT2 := hT.size
  have HOK := hid hok
  have HT := hid hT
  have HSH := hid hs
  have hll : (x :: ks.flat).length ≤ 20000 := by simp; omega
  have hnl : ([] : List UInt8).length + (L.prT false x ks).length ≤ 9000000 := by simp; omega
  have hdr : (x :: ks.flat).drop 0 = x :: (ks.flat ++ []) := by simp
  have hfl : 0 + 1 + ks.flat.length = (x :: ks.flat).length := by simp [Nat.add_comm]
  clear hok hs hT hlen
  generalize (x :: ks.flat) = l at *
  go_enter Tryd.func9, Tryd.ntmps9
  go_wp2_with fail
  have hS : PSt l (.slice (some ⟨b, o, none⟩) l.length cap) w.heap.size (w.heap.size + 1) (w.heap.size + 1 + 1) (w.heap.size + 1 + 1 + 1) 0 [] ((((w.alloc (.cells #[.slice (some ⟨b, o, none⟩) l.length cap] 23)).alloc (.cells #[.pointer none, .slice none 0 0] 51)).alloc (.cells #[.int .i64 ((0 : Nat) : Int)] 3)).alloc (.cells #[.func (.func 29) #[] #[.pointer (some ⟨w.heap.size, 0, none⟩), .pointer (some ⟨w.heap.size + 1 + 1, 0, none⟩), .pointer (some ⟨w.heap.size + 1, 0, none⟩), .pointer (some ⟨w.heap.size + 1 + 1 + 1, 0, none⟩)]] 52)) := by
    refine ⟨?_, ?_, ?_, ?_, ?_, ?_, hT2, by omega, by omega, by omega⟩
    · rw [Lib.alloc_old _ _ _ (by simp; omega), Lib.alloc_old _ _ _ (by simp; omega), Lib.alloc_old _ _ _ (by simp)]; exact heap_alloc_new w _
    · rw [Lib.alloc_old _ _ _ (by simp)]
      have := heap_alloc_new ((w.alloc (.cells #[.slice (some ⟨b, o, none⟩) l.length cap] 23)).alloc (.cells #[.pointer none, .slice none 0 0] 51)) (.cells #[.int .i64 ((0 : Nat) : Int)] 3)
      simpa using this
    · have := heap_alloc_new (((w.alloc (.cells #[.slice (some ⟨b, o, none⟩) l.length cap] 23)).alloc (.cells #[.pointer none, .slice none 0 0] 51)).alloc (.cells #[.int .i64 ((0 : Nat) : Int)] 3)) (.cells #[.func (.func 29) #[] #[.pointer (some ⟨w.heap.size, 0, none⟩), .pointer (some ⟨w.heap.size + 1 + 1, 0, none⟩), .pointer (some ⟨w.heap.size + 1, 0, none⟩), .pointer (some ⟨w.heap.size + 1 + 1 + 1, 0, none⟩)]] 52)
      simpa using this
    · refine Or.inl ⟨Nat.le_refl _, .slice none 0 0, ?_, ⟨rfl, Or.inl ⟨rfl, rfl⟩⟩, by simp [Value.ownBlock]⟩
      rw [Lib.alloc_old _ _ _ (by simp), Lib.alloc_old _ _ _ (by simp)]
      have := heap_alloc_new (w.alloc (.cells #[.slice (some ⟨b, o, none⟩) l.length cap] 23)) (.cells #[.pointer none, .slice none 0 0] 51)
      simpa using this
    · exact (((HX.out.alloc _).alloc _).alloc _).alloc _
    · exact HT.out.grows ((((below_new _).alloc (by simp) _).alloc (by simp; omega) _).alloc (by simp; omega) _)
  have hB0 : Below w.heap.size w ((((w.alloc (.cells #[.slice (some ⟨b, o, none⟩) l.length cap] 23)).alloc (.cells #[.pointer none, .slice none 0 0] 51)).alloc (.cells #[.int .i64 ((0 : Nat) : Int)] 3)).alloc (.cells #[.func (.func 29) #[] #[.pointer (some ⟨w.heap.size, 0, none⟩), .pointer (some ⟨w.heap.size + 1 + 1, 0, none⟩), .pointer (some ⟨w.heap.size + 1, 0, none⟩), .pointer (some ⟨w.heap.size + 1 + 1 + 1, 0, none⟩)]] 52)) := (((below_new _).alloc (by simp) _).alloc (by simp; omega) _).alloc (by simp; omega) _
  refine (visitP_any l (fun y hy => (HSH.out y hy).2) hll _ _ _ _ _ (ks.flat.length + 1) x ks (by omega) HOK.out false [] 0 [] _ hdr hS hnl).mono ?_
  rintro e w2 ⟨rfl, hS2, hK2⟩
  have hB2 := hB0.trans (hK2.1.mono (by omega))
  have HST := hid (string_k _ _ _ _ hS2.bd (by simpa using HNE.out))
  clear hS2 hK2 hS hB0
  go_wp2_with fail
  refine (HST.out).mono ?_
  rintro e w3 ⟨rfl, hb3, -⟩
  go_wp2
  go_ret
  exact ⟨rfl, hB2.trans (hb3.mono (by omega))⟩

end Go.Proofs.YtimlblbmfckeiaaDoor
