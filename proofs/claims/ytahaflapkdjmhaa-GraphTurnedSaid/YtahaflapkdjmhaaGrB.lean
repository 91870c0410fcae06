/-
  The map of the first place of each name, as plain data and in memory; the walks of graph's firsts, again and lost. Conditions: few modules, short names.
-/
import Derived.Test.YtahaflapkdjmhaaGrA
import Derived.Maps.OwnSet
import Derived.Maps.OwnOps
import Derived.OwnWalk
namespace Go.Proofs.Ytahaflapkdjmhaa
open Go.RowKit Go.Maps

namespace Gr
/-- Few modules, short names. -/
structure Few (l : List Md) : Prop where
  n : l.length ≤ 20
  name : ∀ m ∈ l, m.name.size ≤ 100
  imps : ∀ m ∈ l, m.imps.length ≤ 20
  imp : ∀ m ∈ l, ∀ s ∈ m.imps, s.size ≤ 100

theorem find_none {s : ByteArray} : ∀ {l : List Md} {k : Nat}, (∀ m ∈ l, m.name ≠ s) → find s l k = -1
  | [], _, _ => rfl
  | m :: l, k, h => by rw [find, if_neg (h m (by simp))]; exact find_none fun x hx => h x (by simp [hx])
theorem find_cases (s : ByteArray) : ∀ (l : List Md) (k : Nat), (find s l k = -1 ∧ ∀ m ∈ l, m.name ≠ s) ∨ ∃ (i : Nat) (h : i < l.length), find s l k = ((k + i : Nat) : Int) ∧ l[i].name = s
  | [], _ => Or.inl ⟨rfl, by simp⟩
  | m :: l, k => by
    by_cases e : m.name = s
    · right; exact ⟨0, by simp, by rw [find, if_pos e]; rfl, e⟩
    · rcases find_cases s l (k + 1) with ⟨h1, h2⟩ | ⟨i, hi, h1, h2⟩
      · left
        refine ⟨by rw [find, if_neg e]; exact h1, fun x hx => ?_⟩
        rcases List.mem_cons.1 hx with h3 | h3
        · rw [h3]; exact e
        · exact h2 x h3
      · right
        exact ⟨i + 1, by simp; omega, by rw [find, if_neg e, h1]; congr 1; omega, by simpa using h2⟩
theorem find_append (s : ByteArray) : ∀ (a b : List Md) (k : Nat), find s (a ++ b) k = if find s a k < 0 then find s b (k + a.length) else find s a k
  | [], b, k => by simp [find]
  | m :: a, b, k => by
    rw [List.cons_append, find, find]
    by_cases e : m.name = s
    · rw [if_pos e, if_pos e, if_neg (by omega)]
    · rw [if_neg e, if_neg e, find_append s a b (k + 1), List.length_cons]
      have : k + 1 + a.length = k + (a.length + 1) := by omega
      rw [this]
theorem find_take (s : ByteArray) (l : List Md) (k : Nat) (hk : k < l.length) : find s (l.take (k + 1)) 0 = if find s (l.take k) 0 < 0 then (if l[k].name = s then (k : Int) else -1) else find s (l.take k) 0 := by
  have e : l.take (k + 1) = l.take k ++ [l[k]] := by rw [List.take_succ_eq_append_getElem hk]
  rw [e, find_append]
  simp only [find, List.length_take, Nat.zero_add]
  rw [Nat.min_eq_left (by omega)]
theorem find_lt (s : ByteArray) (l : List Md) : -1 ≤ find s l 0 ∧ find s l 0 < l.length := by
  rcases find_cases s l 0 with ⟨h, _⟩ | ⟨i, hi, h, _⟩ <;> rw [h] <;> omega
theorem find_own (l : List Md) (k : Nat) (hk : k < l.length) : 0 ≤ find l[k].name l 0 ∧ find l[k].name l 0 ≤ k := by
  have h1 : find l[k].name (l.take (k + 1)) 0 ≤ k ∧ 0 ≤ find l[k].name (l.take (k + 1)) 0 := by
    rw [find_take _ l k hk]
    have h2 := (find_lt l[k].name (l.take k)).2
    rw [List.length_take, Nat.min_eq_left (by omega)] at h2
    split
    · simp
    · omega
  have h2 : ∀ s, 0 ≤ find s (l.take (k + 1)) 0 → find s l 0 = find s (l.take (k + 1)) 0 := by
    intro s hs
    have e : find s (l.take (k + 1) ++ l.drop (k + 1)) 0 = find s (l.take (k + 1)) 0 := by rw [find_append, if_neg (by omega)]
    rw [List.take_append_drop] at e
    exact e
  have h3 := h2 _ h1.2
  omega

/-- The first of some modules that is so. -/
def firstP (p : Nat → Md → Bool) : List Md → Nat → Int
  | [], _ => -1
  | m :: l, k => cond (p k m) (k : Int) (firstP p l (k + 1))
theorem firstP_cases (p : Nat → Md → Bool) : ∀ (l : List Md) (k : Nat), (firstP p l k = -1 ∧ ∀ (i : Nat) (h : i < l.length), p (k + i) l[i] = false) ∨ ∃ (i : Nat) (h : i < l.length), firstP p l k = ((k + i : Nat) : Int) ∧ p (k + i) l[i] = true ∧ ∀ (j : Nat) (hj : j < i), p (k + j) (l[j]'(by omega)) = false
  | [], _ => Or.inl ⟨rfl, by simp⟩
  | m :: l, k => by
    cases e : p k m with
    | true => right; exact ⟨0, by simp, by rw [firstP, e]; rfl, e, by omega⟩
    | false =>
      have ex : firstP p (m :: l) k = firstP p l (k + 1) := by rw [firstP, e]; rfl
      rcases firstP_cases p l (k + 1) with ⟨h1, h2⟩ | ⟨i, hi, h1, h2, h3⟩
      · left
        refine ⟨ex.trans h1, fun i hi => ?_⟩
        cases i with
        | zero => exact e
        | succ i => have := h2 i (by simpa using hi); rw [show k + (i + 1) = k + 1 + i by omega]; simpa using this
      · right
        refine ⟨i + 1, by simp; omega, by rw [ex, h1]; congr 1; omega, by rw [show k + (i + 1) = k + 1 + i by omega]; simpa using h2, fun j hj => ?_⟩
        cases j with
        | zero => exact e
        | succ j => have := h3 j (by omega); rw [show k + (j + 1) = k + 1 + j by omega]; simpa using this

def againP (l : List Md) : Nat → Md → Bool := fun k m => decide (find m.name l 0 < k)
def lostP (l : List Md) : Nat → Md → Bool := fun _ m => m.imps.any fun s => decide (find s l 0 < 0)
def againL (l : List Md) : Int := firstP (againP l) l 0
def lostL (l : List Md) : Int := firstP (lostP l) l 0

/-- The key that a text reads as. -/
def keyS (s : ByteArray) : Lit := .string s.data.toList
theorem keyS_isKey (s : ByteArray) : WideAt.IsKeyLit (keyS s) := trivial
theorem keyS_inj {s t : ByteArray} (h : keyS s = keyS t) : s = t := by
  simp only [keyS, Lit.string.injEq] at h
  exact ByteArray.ext (Array.toList_inj.1 h)

/-- D tells the first place of each name. -/
def FirstD (D : DataW Unit) (l : List Md) : Prop := ∀ s : ByteArray, has D (keyS s) = decide (0 ≤ find s l 0) ∧ (0 ≤ find s l 0 → ∀ z, D.atKey (keyS s) z = .lit (.int .i64 (find s l 0)))

theorem lit_at {D : DataW Unit} {kl : Lit} {z : DataW Unit} {a c : Int} (h : ∀ z, D.atKey kl z = .lit (.int .i64 a)) (g : D.atKey kl z = .lit (.int .i64 c)) : a = c := by
  rw [h] at g
  simpa using g
theorem firstD_nil : FirstD (.map []) [] := fun s => ⟨by simp [has, find], fun h => by simp [find] at h⟩
theorem firstD_put {D : DataW Unit} {l : List Md} {k : Nat} (hk : k < l.length) (hm : IsMap D) (h : FirstD D (l.take k)) (hno : find l[k].name (l.take k) 0 < 0) : FirstD (D.put (keyS l[k].name) (.lit (.int .i64 k))) (l.take (k + 1)) := by
  intro s
  rw [find_take s l k hk]
  by_cases e : l[k].name = s
  · subst e
    rw [if_pos hno, if_pos rfl]
    refine ⟨?_, fun _ z => atKey_put_same hm (keyS_isKey _) _ _⟩
    rw [has_put_same hm (keyS_isKey _)]
    simp
  · have hne : keyS s ≠ keyS l[k].name := fun h => e (keyS_inj h).symm
    have h2 : (if find s (l.take k) 0 < 0 then (if l[k].name = s then (k : Int) else -1) else find s (l.take k) 0) = find s (l.take k) 0 := by
      rw [if_neg e]
      have := (find_lt s (l.take k)).1
      split
      · omega
      · rfl
    rw [h2]
    refine ⟨by rw [has_put_other hne]; exact (h s).1, fun hp z => by rw [atKey_put_other hne]; exact (h s).2 hp z⟩
theorem firstD_same {D : DataW Unit} {l : List Md} {k : Nat} (hk : k < l.length) (h : FirstD D (l.take k)) (hyes : 0 ≤ find l[k].name (l.take k) 0) : FirstD D (l.take (k + 1)) := by
  intro s
  have h2 : find s (l.take (k + 1)) 0 = find s (l.take k) 0 := by
    rw [find_take s l k hk]
    by_cases e : l[k].name = s
    · subst e; rw [if_neg (by omega)]
    · rw [if_neg e]
      have := (find_lt s (l.take k)).1
      split
      · omega
      · rfl
  rw [h2]
  exact h s
end Gr

theorem law_str : Keyed Try.prog 9 := string_keyed Try.underlying9
theorem zero_int (w : World) : (zeroValue 3).run Try.prog w = .ok (.int .i64 0) w := by kernel_rfl
theorem key_of (s : ByteArray) (h : s.size ≤ 100) : keyOf Try.prog 9 (.string s) = some (Gr.keyS s) := WideMaps.keyOf_string_mk Try.underlying9 (by unfold maxLen; omega)
theorem run_makeHint (n : Int) (w : World) : (Instr.makeMap 37 (some (.int .i64 n))).run Try.prog w = .ok (.map (some w.heap.size)) (w.alloc (.map #[] 0)) := by
  simp [Instr.makeMap, run_underlying Try.underlying37, asInt, asIntOf, Result.andThen]

/-- Block b is the map of first places. -/
def FirstM (w : World) (b : Nat) (l : List Gr.Md) : Prop := ∃ D : DataW Unit, w.ownsMap Try.prog 9 (plainElem Try.prog 3) b 20 D ∧ Gr.FirstD D l
theorem FirstM.below {w w' : World} {B b : Nat} {l : List Gr.Md} (h : FirstM w b l) (hb : Below B w w') (hlt : b < B) : FirstM w' b l := by
  obtain ⟨D, ⟨es, clock, h1, r⟩, h2⟩ := h
  exact ⟨D, ⟨es, clock, (hb.block b hlt).trans h1, r⟩, h2⟩

set_option maxHeartbeats 2000000 in
set_option maxRecDepth 100000 in
theorem firsts_any (l : List Gr.Md) (hq : Gr.Few l) (v : Value) (w : World) (hx : RdM w w.heap.size v l) :
    Calls Try.prog 10 #[v] w fun e w' => ∃ bm, e = .returned (.map (some bm)) ∧ w.heap.size ≤ bm ∧ bm < w'.heap.size ∧ FirstM w' bm l ∧ Below w.heap.size w w' := by
  have HX := hid hx
  have HQ := hid hq
  have hn := hq.n
  clear hq
  obtain ⟨A, cap, rfl, h1, h2, -⟩ := hx
  unfold maxLen at h2
  have hmm := run_makeHint
  go_enter Try.func10, Try.ntmps10
  go_wp2
  go_loopw [13] (fun vi wr => ∃ (k : Nat) (D : DataW Unit), vi = .int .i64 k ∧ k ≤ l.length ∧ wr.ownsMap Try.prog 9 (plainElem Try.prog 3) w.heap.size k D ∧ Hid (Gr.FirstD D (l.take k)) ∧ Below w.heap.size w wr) (fun vi _ => l.length - (intOf vi).toNat)
  case atStart => exact ⟨0, _, rfl, by omega, World.ownsMap_made _ _ _ _, hid Gr.firstD_nil, below_new _⟩
  case round =>
    obtain ⟨k, D, rfl, hk, hown, hD, hbel⟩ := hrel
    have hsz := hown.lt
    by_cases hlt : k < l.length
    · have hkz : (k : Int) < (l.length : Int) := by omega
      obtain ⟨A', c', hv, -, -, hc⟩ := HX.out.below hbel
      simp only [Value.slice.injEq, true_and] at hv
      obtain ⟨rfl, rfl⟩ := hv
      obtain ⟨b, o, rfl, hb, hc⟩ := hc (by rintro rfl; simp at hlt)
      obtain ⟨Ai, ci, Ad, nd, cd, As, ns, cs, x0, x1, x2, x3, -⟩ := hc k hlt
      clear hc
      have hts := HQ.out.name l[k] (List.getElem_mem hlt)
      have hD2 := (hD.out l[k].name).1
      have hstep := fun hno => Gr.firstD_put hlt hown.isMap hD.out hno
      have hsame := fun hyes => Gr.firstD_same hlt hD.out hyes
      obtain ⟨t, ht⟩ : ∃ t, t = l[k].name := ⟨_, rfl⟩
      obtain ⟨ni, hni⟩ : ∃ ni, ni = l[k].imps.length := ⟨_, rfl⟩
      rw [← ht] at x0 hts hD2 hstep hsame
      rw [← hni] at x1
      clear ht hni
      have hkey := key_of t hts
      have hkl : k < 20 := by omega
      by_cases g : Gr.find t (l.take k) 0 < 0
      · rw [decide_eq_false (by omega)] at hD2
        have HS := hid (hstep g)
        clear hstep hsame g
        go_wp2_with (first | (at_lookup; refine wpList_lookup_own_ok_int _ rfl _ _ 37 rfl 9 3 .i64 law_str Try.underlying37 Try.underlying3 (zero_int _) w.heap.size k D rfl (hown.alloc _) _ _ rfl hkey ?_; intro c hat hwc; clear hat) | (at_mapUpdate; refine wpList_mapUpdate_own _ rfl _ _ _ 37 rfl 9 3 law_str Try.underlying37 _ w.heap.size k D rfl (hown.alloc _) (by unfold maxLen; omega) _ _ _ rfl rfl hkey _ [] (plainElem_int Try.underlying3 (WalkArith.wf_i64 (by omega))) ?_; intro w1 hown1 hgrow1))
        go_roundw
        case rel => exact ⟨k + 1, _, by go_num, by omega, hown1, HS, (hbel.alloc (by omega) _).grown hgrow1 (by simp; omega) (fun j hj => by cases hj; exact Nat.le_refl _)⟩
        case measure => simp [intOf]; omega
      · rw [decide_eq_true (by omega)] at hD2
        have HS := hid (hsame (by omega))
        clear hstep hsame g
        go_wp2_with (first | (at_lookup; refine wpList_lookup_own_ok_int _ rfl _ _ 37 rfl 9 3 .i64 law_str Try.underlying37 Try.underlying3 (zero_int _) w.heap.size k D rfl (hown.alloc _) _ _ rfl hkey ?_; intro c hat hwc; clear hat))
        go_roundw
        case rel => exact ⟨k + 1, D, by go_num, by omega, (hown.alloc _).mono (by omega), HS, hbel.alloc (by omega) _⟩
        case measure => simp [intOf]; omega
    · have hkz : ¬ (k : Int) < (l.length : Int) := by omega
      have hD2 := hid hD.out
      clear hD
      go_wp2
      go_ret
      refine ⟨_, rfl, Nat.le_refl _, hsz, ⟨D, hown.mono (by omega), ?_⟩, hbel⟩
      have := hD2.out
      rw [List.take_of_length_le (by omega)] at this
      exact this

end Go.Proofs.Ytahaflapkdjmhaa
