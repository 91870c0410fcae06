/-
  The walk of core's others: the numbers of all that a set lacks. Conditions: sets of at most 1000 numbers.
-/
import Derived.Test.YtnhjiappmblnmaaCrA
import Derived.Shelf.SlicesE.DeleteFunc
namespace Go.Proofs.Ytnhjiappmblnmaa
open Go.RowKit Go.Sort Go.Shelf Go.Lib

theorem search_any (s : List Int) (hs : Cr.isSet s) (hl : s.length ≤ 1000) (v : Value) (B : Nat) (w : World) (hx : RdZ w B v s) (x : Int) :
    Calls Try.prog 39 #[v, .int .i64 x] w fun e w' => ∃ i : Nat, e = .returned (.tuple #[.int .i64 i, .bool (decide (x ∈ s))]) ∧ ∃ q, w' = w.drewN q := by
  obtain ⟨A, cap, rfl, h1, h2, -, hc⟩ := hx
  by_cases hn : s = []
  · subst hn
    refine (Try.slices_BinarySearch_int_empty A cap x w).mono ?_
    rintro e w' ⟨rfl, rfl⟩
    exact ⟨0, by simp, 0, rfl⟩
  · obtain ⟨b, o, rfl, hlt, hc⟩ := hc hn
    refine (Try.slices_BinarySearch_int b o s.length cap s x w (Nat.le_refl _) (by omega) (fun j hj => by rw [hc j hj]; simp [hj]) (by rw [List.take_length]; exact hs.imp fun h => by omega)).mono ?_
    rintro e w' ⟨rfl, hq⟩
    have e : (s.take s.length).contains x = decide (x ∈ s) := by
      rw [List.take_length, Bool.eq_iff_iff]
      simp
    exact ⟨_, by rw [e], hq⟩

set_option maxHeartbeats 1000000 in
/-- The closure of others, in whatever world holds the set. -/
theorem lacks_gives (s : List Int) (hs : Cr.isSet s) (hl : s.length ≤ 1000) (v : Value) (B b : Nat) (x : Int) (W : World) (hc : W.cell? ⟨b, 0, none⟩ = some v) (hx : RdZ W B v s) :
    FnGives Try.prog 38 #[.pointer (some ⟨b, 0, none⟩)] #[.int .i64 x] (.bool (decide (x ∈ s))) W := by
  show Calls Try.prog 38 #[.int .i64 x, .pointer (some ⟨b, 0, none⟩)] W _
  have HS := hid (search_any s hs hl v B W hx x)
  obtain ⟨A, cap, rfl, -⟩ := hx
  clear hs
  obtain ⟨d, hd⟩ : ∃ d, d = decide (x ∈ s) := ⟨_, rfl⟩
  rw [← hd] at HS ⊢
  clear hd
  go_enter Try.func38, Try.ntmps38
  go_wp2_with fail
  refine (HS.out).mono ?_
  rintro e w' ⟨i, rfl, q, rfl⟩
  go_wp2_with fail
  go_ret
  exact ⟨rfl, q, rfl⟩

/-- The numbers of all that a set lacks. -/
def lackL (s all : List Int) : List Int := all.filter fun x => !decide (x ∈ s)
theorem lackL_set {s all : List Int} (h : Cr.isSet all) : Cr.isSet (lackL s all) := List.Pairwise.filter _ h
theorem lackL_len (s all : List Int) : (lackL s all).length ≤ all.length := List.length_filter_le _ _

theorem eg38 : ∀ args w, (callFunc 38 args).run Try.prog w = .ok (.enter 38 args) w := enters_of Try.func38 (by kernel_rfl) rfl

set_option maxHeartbeats 1000000 in
theorem delete_any (s all : List Int) (hs : Cr.isSet s) (hl : s.length ≤ 1000) (hal : all.length ≤ 1000) (v u : Value) (b B0 B1 : Nat) (w : World) (hb : b < w.heap.size) (hc : w.cell? ⟨b, 0, none⟩ = some v) (hx : RdZ w B0 v s) (hB : B0 ≤ B1) (hb1 : b < B1) (hB1 : B1 ≤ w.heap.size) (hu : OwnZ B1 u all w) :
    Calls Try.prog 37 #[u, .func (.func 38) #[] #[.pointer (some ⟨b, 0, none⟩)]] w fun e w' => ∃ u', e = .returned u' ∧ OwnZ B1 u' (lackL s all) w' ∧ Below B1 w w' := by
  rcases hu.2 with ⟨hv, h0⟩ | ⟨g, cap, cur, hv, hg, hh, hn, hcap, hsz, htake⟩
  · have : all = [] := List.eq_nil_of_length_eq_zero h0
    subst this
    subst hv
    have HI := hid (Try.slices_IndexFunc_empty (α := Int) none 0 (.func (.func 38) #[] #[.pointer (some ⟨b, 0, none⟩)]) w)
    have HO := hid (show OwnZ B1 (.slice none 0 0) (lackL s []) w from OwnZ.nil _ _)
    clear hx hc hs hu
    go_enter Try.func37, Try.ntmps37
    go_wp2_with fail
    refine (HI.out).mono ?_
    rintro e w' ⟨rfl, rfl⟩
    go_wp2_with fail
    go_ret
    exact ⟨_, rfl, HO.out, Below.refl _ _⟩
  · subst hv
    have hgives : ∀ (W : World) (x : Int), Fr (fun i => B1 ≤ i) w W → FnGives Try.prog 38 #[.pointer (some ⟨b, 0, none⟩)] #[.int .i64 x] (.bool (decide (x ∈ s))) W := fun W x hf => by
      refine lacks_gives s hs hl v B0 b x W ?_ (hx.fr hf fun i hi g => by omega)
      exact (World.cell?_of_block (w := w) (a := ⟨b, 0, none⟩) (hf.block b hb (by omega))).trans hc
    have H := Try.slices_DeleteFunc (Value.int .i64) (fun _ => rfl) (fun x => decide (x ∈ s)) 38 #[.pointer (some ⟨b, 0, none⟩)] eg38 0 Try.zeroValue3 g 0 cap all.toArray w
      (fun W x hB2 => hgives W x (Fr.of_below hB2 fun i hi => by omega))
      (fun n os dk x _ => hgives _ x (by
        refine ⟨rfl, rfl, rfl, ?_, fun i hi hni => ?_⟩
        · show w.heap.size ≤ ((putRow _ _ _ _ _).heap ++ os).size
          rw [Array.size_append, size_putRow]
          show w.heap.size ≤ w.heap.size + os.size
          omega
        · show ((putRow _ _ _ _ _).heap ++ os)[i]? = _
          have hig : g ≠ i := fun e => hni (e ▸ hg)
          rw [Array.getElem?_append_left (by rw [size_putRow]; exact hi)]
          simp [putRow, mapBlock, Sort.ahead, Array.getElem?_modify, hig]))
      (holds_of_blockI hh (by rw [← htake, Nat.mul_one])) (by simp; omega) (by simpa using hn)
    simp only [List.size_toArray] at H
    refine H.mono ?_
    rintro e w' ⟨rfl, q, rfl⟩
    have hle := lackL_len s all
    have h1 := Lib.ownsRow_putRow (enc := Value.int .i64) (q := q) (k := (lackL s all).length) (ys := lackL s all ++ List.replicate (all.length - (lackL s all).length) 0) hu (by rw [List.length_append, List.length_replicate]; omega) hle
    rw [List.take_left] at h1
    refine ⟨_, rfl, h1, ?_⟩
    exact Lib.below_putRow (enc := Value.int .i64) (q := q) (d := (lackL s all ++ List.replicate (all.length - (lackL s all).length) 0).toArray) (RowKit.Below.refl B1 w) hg

def OthersPost (s all : List Int) (w : World) (e : Ending) (w' : World) : Prop := ∃ v', e = .returned v' ∧ OwnZ w.heap.size v' (lackL s all) w' ∧ Below w.heap.size w w'
set_option maxHeartbeats 2000000 in
set_option maxRecDepth 100000 in
theorem others_any (s all : List Int) (hs : Cr.isSet s) (ha : Cr.isSet all) (hl : s.length ≤ 1000) (hal : all.length ≤ 1000) (v u : Value) (w : World) (hx : RdZ w w.heap.size v s) (hu : RdZ w w.heap.size u all) :
    Calls Try.prog 28 #[v, u] w (OthersPost s all w) := by
  have HB0 := hid (below_new (w := w) (.cells #[v] 22))
  have HA := hid (set_any all ha hal u _ (hu.to HB0.out))
  have HX := hid hx
  have HS := hid hs
  have HC0 : Hid ((w.alloc (.cells #[v] 22)).heap[w.heap.size]? = some (.cells #[v] 22 (0, 0))) := hid (heap_alloc_new _ _)
  obtain ⟨A, cap, rfl, -⟩ := hx
  obtain ⟨A2, cap2, rfl, -⟩ := hu
  obtain ⟨W0, hW0⟩ : ∃ W0, W0 = w.alloc (.cells #[.slice A s.length cap] 22) := ⟨_, rfl⟩
  have hsz : W0.heap.size = w.heap.size + 1 := by rw [hW0]; simp
  have HSZ := hid hsz
  have HW := hid hW0
  rw [← hW0] at HA HC0 HB0
  clear hs ha hsz hW0
  go_enter Try.func28, Try.ntmps28
  go_wp2_with fail
  rw [← HW.out]
  refine (HA.out).mono ?_
  rintro e w1 ⟨v1, rfl, h1, b1⟩
  have hlt1 : w.heap.size < w1.heap.size := by have := b1.size; have := HSZ.out; omega
  have HD := hid (delete_any s all HS.out hl hal _ v1 w.heap.size w.heap.size W0.heap.size w1 hlt1 ((b1.cell (p := ⟨w.heap.size, 0, none⟩) (by rw [HSZ.out]; exact Nat.lt_succ_self _)).trans ((heap_cell HC0.out 0).trans rfl)) ((HX.out.below HB0.out).below (b1.mono (by rw [HSZ.out]; omega))) (by rw [HSZ.out]; omega) (by rw [HSZ.out]; omega) b1.size h1)
  have HB1 := hid (HB0.out.trans (b1.mono (by rw [HSZ.out]; omega)))
  clear h1 b1 hlt1 HA
  go_wp2_with fail
  refine (HD.out).mono ?_
  rintro e w2 ⟨v2, rfl, h2, b2⟩
  have HE := hid (show OthersPost s all w (.returned v2) w2 from ⟨v2, rfl, h2.more (by rw [HSZ.out]; omega), HB1.out.trans (b2.mono (by rw [HSZ.out]; omega))⟩)
  clear h2 b2 HD
  go_wp2_with fail
  go_ret
  exact HE.out
end Go.Proofs.Ytnhjiappmblnmaa
