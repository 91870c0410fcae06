/-
  From a row's condition on the two listed tables to what the walks ask of them; a state of the model that meets it. No other conditions.
-/
import Derived.Test.YtfmmhmkaphbmpaaDoorRows
import Derived.Test.YtfmmhmkaphbmpaaDoorLexT
import Derived.ProofKit
import Derived.LaidMore
import Derived.OpenShut
import Derived.Lib.LaidTab
import Derived.Stop.Joined
namespace Go.Proofs.YtfmmhmkaphbmpaaDoor
open Go.ChangeShapes Go.WideShapes Go.ChangeAt Go.RowKit

def laidAll : List (String × DataW Unit) := [("leaven/lex.signs", Rows.laid_leaven_lex_signs), ("leaven/lex.keys", Rows.laid_leaven_lex_keys)]

def strD {H : Type} (gs : List (List UInt8)) : DataW H := .agg (gs.map fun g => .lit (.string g))

theorem cells_of_strs {H : Type} {enc : TypeId × Value → H} {P : Program} {w : World} {base : Nat} {sp : Nat → Bool} {held : Bool} {fuel : Nat} {t e : TypeId} {n : Nat} {cs : List Value} {gs : List (List UInt8)} {p : List MemPlace}
    (ht : P.underlying t = some (.array n e)) (he : P.underlying e = some .string) (hce : P.cellsOf e = 1) (hct : P.cellsOf t = n)
    (h : DataW.trod enc P w base sp held fuel t cs = some (strD gs, p)) : cs = gs.map strV := by
  obtain ⟨xs, m, _, hx, hlen, hn, hel⟩ := DataW.trod_array ht h
  have hgs : xs.map (·.1) = gs.map fun g => (DataW.lit (.string g) : DataW H) := by
    have := congrArg Prod.fst hx
    simpa [strD] using this.symm
  have hgl : gs.length = n := by
    have := congrArg List.length hgs
    simp at this
    omega
  apply List.ext_getElem?
  intro i
  by_cases hi : i < n
  · have h1 := hel i hi
    rw [hce, Nat.mul_one] at h1
    have hxi : xs[i]? = some (xs[i]'(by omega)) := List.getElem?_eq_getElem (by omega)
    rw [hxi] at h1
    obtain ⟨s, hc, hs, _⟩ := DataW.trod_string he h1
    have h2 : cs[i]? = some (.string s) := by
      have := congrArg (·[0]?) hc
      simpa [List.getElem?_take, List.getElem?_drop] using this
    have h3 : (xs.map (·.1))[i]? = some (DataW.lit (.string s.data.toList) : DataW H) := by
      rw [List.getElem?_map, hxi, hs]
      rfl
    rw [hgs, List.getElem?_map] at h3
    obtain ⟨g, hg, hg2⟩ := Option.map_eq_some_iff.1 h3
    have hg3 : g = s.data.toList := by simpa using hg2
    rw [h2, List.getElem?_map, hg, hg3]
    rfl
  · rw [List.getElem?_eq_none (by omega), List.getElem?_eq_none (by simp; omega)]

theorem gSigns : Tryd.prog.globalNamed "leaven/lex.signs" = some 1 := by kernel_rfl
theorem gKeys : Tryd.prog.globalNamed "leaven/lex.keys" = some 0 := by kernel_rfl
theorem tSigns : (Tryd.prog.globals[1]?).map (·.type) = some 58 := by kernel_rfl
theorem tKeys : (Tryd.prog.globals[0]?).map (·.type) = some 41 := by kernel_rfl
theorem cStr : Tryd.prog.cellsOf 9 = 1 := by kernel_rfl
theorem cSigns : Tryd.prog.cellsOf 58 = 24 := by kernel_rfl
theorem cKeys : Tryd.prog.cellsOf 41 = 18 := by kernel_rfl
theorem uSigns : Tryd.prog.underlying 58 = some (.array 24 9) := by kernel_rfl
theorem uKeys : Tryd.prog.underlying 41 = some (.array 18 9) := by kernel_rfl

theorem block_of_var {P : Program} {w : World} {name : String} {g : Nat} {cs : Array Value} (hg : P.globalNamed name = some g) (h : w.var? P name = some cs) : ∃ t fr, w.heap[g]? = some (.cells cs t fr) := by
  simp only [World.var?, hg, Option.bind_some] at h
  split at h
  · rename_i c t fr hh
    cases h
    exact ⟨t, fr, hh⟩
  · cases h

theorem tab_of_laid {W : World} (h : laidMetH Tryd.prog laidAll W) : Tab W := by
  rw [MakeChecks.laidMetH_plain _ _ _ (by kernel_rfl)] at h
  obtain ⟨ps, ⟨g0, t0, cs0, f0, p0, q0, hg0, ht0, hv0, hd0, ⟨g1, t1, cs1, f1, p1, q1, hg1, ht1, hv1, hd1, _, _⟩, _⟩, _, _⟩ := h
  obtain rfl := Option.some.inj (gSigns.symm.trans hg0)
  obtain rfl := Option.some.inj (gKeys.symm.trans hg1)
  obtain rfl := Option.some.inj (tSigns.symm.trans ht0)
  obtain rfl := Option.some.inj (tKeys.symm.trans ht1)
  have e0 := cells_of_strs (gs := L.signsL) uSigns Tryd.underlying9 cStr cSigns hd0
  have e1 := cells_of_strs (gs := L.keysL) uKeys Tryd.underlying9 cStr cKeys hd1
  have a0 : cs0 = rowV L.signsL := by apply Array.ext'; rw [e0]; rfl
  have a1 : cs1 = rowV L.keysL := by apply Array.ext'; rw [e1]; rfl
  subst a0 a1
  exact ⟨block_of_var gKeys hv1, block_of_var gSigns hv0⟩

/-- The door's own heap meets the condition. -/
theorem door_met (os : Os) (args : Array Value) : laidMetH Tryd.prog laidAll ((World.doorLaid Tryd.prog 400 os).forCall (fun _ _ => 0) ⟨#[], args, []⟩).memory :=
  laidMetH_of_parts3 (fuel := 8) (laidMet_of_run' 8 (by kernel_rfl) (by kernel_rfl)) (by kernel_rfl) (by kernel_rfl)

end Go.Proofs.YtfmmhmkaphbmpaaDoor
