/-
  Modules that come in, as plain data; the walks of the reference's find and In, and of the laws' place. Conditions: slices that read as modules, as numbers.
-/
import Derived.Test.YtahaflapkdjmhaaRows
import Derived.Test.YtahaflapkdjmhaaChecked
import Derived.WalkKit
import Derived.Lib.Strings
import Derived.WalkSpells
import Derived.WalkLawsBesides
namespace Go.Proofs.Ytahaflapkdjmhaa
open Go.RowKit

theorem hid {p : Prop} (h : p) : Hid p := h
theorem ret_bool {a b : Bool} (h : a = b) : Ending.returned (.bool a) = .returned (.bool b) := by rw [h]
theorem ret_int {k : IntKind} {a b : Int} (h : a = b) : Ending.returned (.int k a) = .returned (.int k b) := by rw [h]
theorem eqS (s t : ByteArray) : (s.toList == t.toList) = decide (s = t) := by
  rw [Bool.eq_iff_iff]
  simp only [beq_iff_eq, decide_eq_true_eq]
  constructor
  · intro h
    rw [Lib.toList_data, Lib.toList_data] at h
    exact ByteArray.ext (Array.toList_inj.1 h)
  · rintro rfl; rfl
theorem below_new {w : World} (o : Obj) : Below w.heap.size w (w.alloc o) := (Below.refl _ _).alloc (Nat.le_refl _) _

namespace Gr
/-- A module: its name, what it imports. -/
structure Md where
  name : ByteArray
  imps : List ByteArray
/-- The first module of a name. -/
def find (s : ByteArray) : List Md → Nat → Int
  | [], _ => -1
  | m :: l, k => if m.name = s then (k : Int) else find s l (k + 1)
end Gr

/-- A slice that reads as texts. -/
def RdS (w : World) (B : Nat) (v : Value) (ss : List ByteArray) : Prop :=
  ∃ A cap, v = .slice A ss.length cap ∧ (ss ≠ [] → ∃ b o, A = some ⟨b, o, none⟩ ∧ b < B ∧ ∀ (i : Nat) (h : i < ss.length), w.cell? ⟨b, o + i, none⟩ = some (.string ss[i]))
/-- A slice that reads as numbers. -/
def RdI (w : World) (B : Nat) (v : Value) (l : List Int) : Prop :=
  ∃ A cap, v = .slice A l.length cap ∧ (l ≠ [] → ∃ b o, A = some ⟨b, o, none⟩ ∧ b < B ∧ ∀ (i : Nat) (h : i < l.length), w.cell? ⟨b, o + i, none⟩ = some (.int .i64 l[i]))
/-- A slice that reads as modules. -/
def RdM (w : World) (B : Nat) (v : Value) (l : List Gr.Md) : Prop :=
  ∃ A cap, v = .slice A l.length cap ∧ l.length ≤ cap ∧ cap ≤ maxLen ∧ (l ≠ [] → ∃ b o, A = some ⟨b, o, none⟩ ∧ b < B ∧ ∀ (i : Nat) (h : i < l.length), ∃ Ai ci Ad nd cd As ns cs,
    w.cell? ⟨b, o + i * 4, none⟩ = some (.string l[i].name) ∧ w.cell? ⟨b, o + i * 4 + 1, none⟩ = some (.slice Ai l[i].imps.length ci) ∧ w.cell? ⟨b, o + i * 4 + 2, none⟩ = some (.slice Ad nd cd) ∧ w.cell? ⟨b, o + i * 4 + 3, none⟩ = some (.slice As ns cs) ∧ RdS w B (.slice Ai l[i].imps.length ci) l[i].imps)

theorem RdS.below {w w' : World} {B : Nat} {v : Value} {ss : List ByteArray} (h : RdS w B v ss) (hb : Below B w w') : RdS w' B v ss := by
  obtain ⟨A, cap, hv, hc⟩ := h
  refine ⟨A, cap, hv, fun hne => ?_⟩
  obtain ⟨b, o, hA, hlt, hc⟩ := hc hne
  exact ⟨b, o, hA, hlt, fun i hi => (hb.cell (p := ⟨b, o + i, none⟩) hlt).trans (hc i hi)⟩
theorem RdS.mono {w : World} {B B' : Nat} {v : Value} {ss : List ByteArray} (h : RdS w B v ss) (hb : B ≤ B') : RdS w B' v ss := by
  obtain ⟨A, cap, hv, hc⟩ := h
  refine ⟨A, cap, hv, fun hne => ?_⟩
  obtain ⟨b, o, hA, hlt, hc⟩ := hc hne
  exact ⟨b, o, hA, by omega, hc⟩
theorem RdI.below {w w' : World} {B : Nat} {v : Value} {ss : List Int} (h : RdI w B v ss) (hb : Below B w w') : RdI w' B v ss := by
  obtain ⟨A, cap, hv, hc⟩ := h
  refine ⟨A, cap, hv, fun hne => ?_⟩
  obtain ⟨b, o, hA, hlt, hc⟩ := hc hne
  exact ⟨b, o, hA, hlt, fun i hi => (hb.cell (p := ⟨b, o + i, none⟩) hlt).trans (hc i hi)⟩
theorem RdI.mono {w : World} {B B' : Nat} {v : Value} {ss : List Int} (h : RdI w B v ss) (hb : B ≤ B') : RdI w B' v ss := by
  obtain ⟨A, cap, hv, hc⟩ := h
  refine ⟨A, cap, hv, fun hne => ?_⟩
  obtain ⟨b, o, hA, hlt, hc⟩ := hc hne
  exact ⟨b, o, hA, by omega, hc⟩
theorem RdM.below {w w' : World} {B : Nat} {v : Value} {l : List Gr.Md} (h : RdM w B v l) (hb : Below B w w') : RdM w' B v l := by
  obtain ⟨A, cap, hv, h1, h2, hc⟩ := h
  refine ⟨A, cap, hv, h1, h2, fun hne => ?_⟩
  obtain ⟨b, o, hA, hlt, hc⟩ := hc hne
  refine ⟨b, o, hA, hlt, fun i hi => ?_⟩
  obtain ⟨Ai, ci, Ad, nd, cd, As, ns, cs, x0, x1, x2, x3, hs⟩ := hc i hi
  exact ⟨Ai, ci, Ad, nd, cd, As, ns, cs, (hb.cell (p := ⟨b, o + i * 4, none⟩) hlt).trans x0, (hb.cell (p := ⟨b, o + i * 4 + 1, none⟩) hlt).trans x1, (hb.cell (p := ⟨b, o + i * 4 + 2, none⟩) hlt).trans x2, (hb.cell (p := ⟨b, o + i * 4 + 3, none⟩) hlt).trans x3, hs.below hb⟩
theorem RdM.at_ {w w' : World} {B : Nat} {v : Value} {l : List Gr.Md} (h : RdM w B v l) (hb : Below B w w') {k : Nat} (hk : k < l.length) : ∃ b o cap Ai ci Ad nd cd As ns cs, v = .slice (some ⟨b, o, none⟩) l.length cap ∧ b < B ∧
    w'.cell? ⟨b, o + k * 4, none⟩ = some (.string l[k].name) ∧ w'.cell? ⟨b, o + k * 4 + 1, none⟩ = some (.slice Ai l[k].imps.length ci) ∧ w'.cell? ⟨b, o + k * 4 + 2, none⟩ = some (.slice Ad nd cd) ∧ w'.cell? ⟨b, o + k * 4 + 3, none⟩ = some (.slice As ns cs) ∧ RdS w B (.slice Ai l[k].imps.length ci) l[k].imps := by
  obtain ⟨A, cap, hv, -, -, hc⟩ := h
  obtain ⟨b, o, hA, hlt, hc⟩ := hc (by rintro rfl; simp at hk)
  obtain ⟨Ai, ci, Ad, nd, cd, As, ns, cs, x0, x1, x2, x3, hs⟩ := hc k hk
  subst hA
  exact ⟨b, o, cap, Ai, ci, Ad, nd, cd, As, ns, cs, hv, hlt, (hb.cell (p := ⟨b, o + k * 4, none⟩) hlt).trans x0, (hb.cell (p := ⟨b, o + k * 4 + 1, none⟩) hlt).trans x1, (hb.cell (p := ⟨b, o + k * 4 + 2, none⟩) hlt).trans x2, (hb.cell (p := ⟨b, o + k * 4 + 3, none⟩) hlt).trans x3, hs⟩
theorem RdS.at_ {w w' : World} {B : Nat} {v : Value} {l : List ByteArray} (h : RdS w B v l) (hb : Below B w w') {k : Nat} (hk : k < l.length) : ∃ b o cap, v = .slice (some ⟨b, o, none⟩) l.length cap ∧ b < B ∧ w'.cell? ⟨b, o + k, none⟩ = some (.string l[k]) := by
  obtain ⟨A, cap, hv, hc⟩ := h
  obtain ⟨b, o, hA, hlt, hcc⟩ := hc (by rintro rfl; simp at hk)
  subst hA
  exact ⟨b, o, cap, hv, hlt, (hb.cell (p := ⟨b, o + k, none⟩) hlt).trans (hcc k hk)⟩
theorem RdM.mono {w : World} {B B' : Nat} {v : Value} {l : List Gr.Md} (h : RdM w B v l) (hb : B ≤ B') : RdM w B' v l := by
  obtain ⟨A, cap, hv, h1, h2, hc⟩ := h
  refine ⟨A, cap, hv, h1, h2, fun hne => ?_⟩
  obtain ⟨b, o, hA, hlt, hc⟩ := hc hne
  refine ⟨b, o, hA, by omega, fun i hi => ?_⟩
  obtain ⟨Ai, ci, Ad, nd, cd, As, ns, cs, x0, x1, x2, x3, hs⟩ := hc i hi
  exact ⟨Ai, ci, Ad, nd, cd, As, ns, cs, x0, x1, x2, x3, hs.mono hb⟩

set_option maxHeartbeats 1000000 in
set_option maxRecDepth 100000 in
theorem place_any (l : List Gr.Md) (s : ByteArray) (v : Value) (w : World) (hx : RdM w w.heap.size v l) :
    Calls Try.prog 8 #[v, .string s] w fun e w' => e = .returned (.int .i64 (Gr.find s l 0)) ∧ w = w' := by
  have HX := hid hx
  obtain ⟨A, cap, rfl, h1, h2, -⟩ := hx
  unfold maxLen at h2
  go_enter Try.func8, Try.ntmps8
  go_wp2
  go_loop [5] (fun vi => ∃ k : Nat, vi = .int .i64 k ∧ k ≤ l.length ∧ Hid (Gr.find s (l.drop k) k = Gr.find s l 0)) (fun vi => l.length - (intOf vi).toNat)
  case atStart => exact ⟨0, rfl, by omega, hid rfl⟩
  case round =>
    obtain ⟨k, rfl, hk, hE⟩ := hrel
    by_cases hlt : k < l.length
    · have hkz : (k : Int) < (l.length : Int) := by omega
      obtain ⟨A', c', hv, -, -, hc⟩ := HX.out
      simp only [Value.slice.injEq, true_and] at hv
      obtain ⟨rfl, rfl⟩ := hv
      obtain ⟨b, o, rfl, hb, hc⟩ := hc (by rintro rfl; simp at hlt)
      obtain ⟨Ai, ci, Ad, nd, cd, As, ns, cs, x0, -⟩ := hc k hlt
      have hst := hE.out
      rw [List.drop_eq_getElem_cons hlt, Gr.find] at hst
      obtain ⟨t, ht⟩ : ∃ t, t = l[k].name := ⟨_, rfl⟩
      rw [← ht] at x0 hst
      have e1 := eqS t s
      clear hc ht hE
      by_cases g : t = s
      · rw [decide_eq_true g] at e1
        rw [if_pos g] at hst
        have HV := hid hst
        clear hst g
        go_wp2
        go_ret
        exact ⟨ret_int HV.out, rfl⟩
      · rw [decide_eq_false g] at e1
        rw [if_neg g] at hst
        have HV := hid hst
        clear hst g
        go_wp2
        go_round
        case rel => exact ⟨k + 1, by go_num, by omega, HV⟩
        case measure => simp [intOf]; omega
    · have hkz : ¬ (k : Int) < (l.length : Int) := by omega
      have HV : Hid (Gr.find s l 0 = -1) := hid (by rw [← hE.out, List.drop_eq_nil_of_le (by omega)]; rfl)
      clear hE
      go_wp2
      go_ret
      exact ⟨ret_int HV.out.symm, rfl⟩

end Go.Proofs.Ytahaflapkdjmhaa
