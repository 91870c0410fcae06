/-
  What PrecLooks asks, call by call. Conditions: slices that read as good types of at most 10000 nodes.
-/
import Derived.Test.YtpndbgdimkpfjaaPvU
namespace Go.Proofs.Ytpndbgdimkpfjaa
open Go.RowKit Go.Sort

def tagsL : L.Fo → List ByteArray
  | .nil => []
  | .cons _ ks _ => (L.trees ks).map (·.1.name)

theorem tags_len {n : Nat} {F : L.Fo} (h : Gd n F) : (tagsL F).length ≤ 1000 := by
  obtain ⟨x, ks, rfl, -⟩ := h.root
  have := trees_50 h.ok
  simp only [tagsL, List.length_map]
  omega

theorem TagsPost.yes {F : L.Fo} {B : Nat} {e : Ending} {w : World} (h : TagsPost F B e w) (h7 : (L.hd F).kind = 7) : ∃ v, e = .returned (.tuple #[v, .int .i64 0]) ∧ OwnS B v (tagsL F) w := by
  rcases h with ⟨h0, -⟩ | ⟨-, h, -⟩ | ⟨-, v, ks, hF, he, ho⟩
  · omega
  · exact absurd h7 h
  · exact ⟨v, he, by rw [hF]; exact ho⟩
theorem TagsPost.dyn {F : L.Fo} {B : Nat} {e : Ending} {w : World} (h : TagsPost F B e w) (h0 : (L.hd F).kind = 0) : e = .returned (.tuple #[.slice none 0 0, .int .i64 0]) := by
  rcases h with ⟨-, h⟩ | ⟨h, -, -⟩ | ⟨h, -⟩
  · exact h
  · exact absurd h0 h
  · omega
theorem TagsPost.no {F : L.Fo} {B : Nat} {e : Ending} {w : World} (h : TagsPost F B e w) (h0 : (L.hd F).kind ≠ 0) (h7 : (L.hd F).kind ≠ 7) : e = .returned (.tuple #[.slice none 0 0, .int .i64 9]) := by
  rcases h with ⟨h, -⟩ | ⟨-, -, h⟩ | ⟨h, -⟩
  · exact absurd h h0
  · exact h
  · exact absurd h h7

theorem rds_nil (w : World) : RdS w w.heap.size (.slice none 0 0) [] := ⟨none, 0, rfl, fun h => absurd rfl h⟩

theorem reffield_yes {n : Nat} {F : L.Fo} (h : Gd n F) (hn : n ≤ 10000) (s : ByteArray) {P : L.Fo} (hc : L.fieldF s F = some P) (v : Value) (w : World) (hx : Rd w w.heap.size v F.flat) :
    Calls Try.prog 23 #[v, .string s] w fun e w' => ∃ v', e = .returned (.tuple #[v', .int .i64 0]) ∧ Own w.heap.size v' P.flat w' ∧ Below w.heap.size w w' :=
  (reffield_any h hn s v w hx).mono fun e w' ⟨hp, hB⟩ => by
    rw [hc] at hp
    obtain ⟨v', he, ho⟩ := hp
    exact ⟨v', he, ho, hB⟩
theorem reffield_no {n : Nat} {F : L.Fo} (h : Gd n F) (hn : n ≤ 10000) (s : ByteArray) (hc : L.fieldF s F = none) (v : Value) (w : World) (hx : Rd w w.heap.size v F.flat) :
    Calls Try.prog 23 #[v, .string s] w fun e w' => e = .returned (.tuple #[.slice none 0 0, .int .i64 9]) ∧ Below w.heap.size w w' :=
  (reffield_any h hn s v w hx).mono fun e w' ⟨hp, hB⟩ => by
    rw [hc] at hp
    exact ⟨hp, hB⟩

set_option maxRecDepth 100000 in
theorem plain1 (va : Value) (la : List L.Nd) (w : World) (ha : Rd w w.heap.size va la) :
    Calls Try.prog 11 #[.slice (some ⟨w.heap.size, 0, none⟩) 1 1] (w.alloc (.cells #[va] 23)) fun e w' => e = .returned (.bool (allG [(va, la)])) ∧ Below w.heap.size w w' := by
  refine (plain_many [(va, la)] (w.alloc (.cells #[va] 23)) w.heap.size 1 (by simp) (by simp) ?_ ?_).mono fun e w' ⟨he, hB⟩ => ⟨he, (below_new _).trans (hB.mono (by simp))⟩
  · intro t ht
    simp only [List.mem_cons, List.not_mem_nil, or_false] at ht
    subst ht
    exact (ha.alloc _).mono (by simp)
  · intro j hj
    have h3 : j < 1 := hj
    obtain rfl : j = 0 := by omega
    exact Lib.cell_of_heap (heap_alloc_new w (.cells #[va] 23)) 0
theorem all1 {v1 : Value} {l1 : List L.Nd} (h : allG [(v1, l1)] = true) : L.good 60 l1 = true := by
  simpa [allG] using h

end Go.Proofs.Ytpndbgdimkpfjaa
