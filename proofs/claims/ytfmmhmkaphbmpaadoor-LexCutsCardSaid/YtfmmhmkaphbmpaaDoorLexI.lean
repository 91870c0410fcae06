/-
  The walk of the reference's one: the token at a place, and whether there is one. Conditions: the place lies in the text; a text of at most 2000000 bytes.
-/
import Derived.Test.YtfmmhmkaphbmpaaDoorLexG
import Derived.Test.YtfmmhmkaphbmpaaDoorLexP
import Derived.Test.YtfmmhmkaphbmpaaDoorGlyX
namespace Go.Proofs.YtfmmhmkaphbmpaaDoor
open Go.RowKit

/-- What one returns: the token and true; or any token, and false. -/
def OneRes (o : Option (Nat × List UInt8 × Nat)) (p : Nat) (e : Ending) : Prop :=
  match o with
  | some x => e = .returned (.tuple #[tokV x.1 x.2.1 p (p + x.2.2), .bool true])
  | none => ∃ (k : Nat) (t : List UInt8) (a b : Nat), e = .returned (.tuple #[tokV k t a b, .bool false])

def OneLeft (o : Option (Nat × List UInt8 × Nat)) (p : Nat) (w : World) (e : Ending) (w' : World) : Prop := OneRes o p e ∧ Below w.heap.size w w'

theorem refGoes_v (c : UInt8) (b : Bool) (h : L.goesB c = b) (w : World) : Calls Tryd.prog 46 #[.int .u8 c.toNat] w fun e w' => e = .returned (.bool b) ∧ w = w' :=
  (refGoes_any c.toNat w).mono fun _ _ ⟨he, hw⟩ => ⟨he.trans (ret_bool h), hw⟩
theorem refFigure_v (c : UInt8) (b : Bool) (h : L.digB c = b) (w : World) : Calls Tryd.prog 47 #[.int .u8 c.toNat] w fun e w' => e = .returned (.bool b) ∧ w = w' :=
  (refFigure_any c.toNat w).mono fun _ _ ⟨he, hw⟩ => ⟨he.trans (ret_bool h), hw⟩

set_option maxHeartbeats 1000000 in
set_option maxRecDepth 100000 in
theorem one_quoted (s : ByteArray) (hs : s.size ≤ 2000000) (p : Nat) (hp : p < s.size) (hq : G.at0 (s.data.toList.drop p) 0 = 34) (w : World) :
    Calls Tryd.prog 25 #[.string s, .int .i64 p] w (OneLeft (L.oneL (s.data.toList.drop p)) p w) := by
  have hbt := byte_is s p hp
  have h34 : (((s[p]'hp).toNat : Int) == 34) = true := beq_iff_eq.2 (by omega)
  have hu : ∀ w, Calls Tryd.prog 45 #[.string (s.extract p s.size)] w fun e w' => e = .returned (unqV (G.unqL (s.data.toList.drop p))) ∧ Below w.heap.size w w' :=
    fun w => (refUnquote_any _ (by simp; omega) w).mono fun _ _ ⟨he, hx⟩ => ⟨by rw [he, ext_end], hx⟩
  have hn : ∀ x, G.unqL (s.data.toList.drop p) = some x → x.2 ≤ 2000000 := fun x hx => by
    have h1 := L.unqL_le hx
    have h2 : (s.data.toList.drop p).length = s.size - p := by simp
    omega
  cases ho : G.unqL (s.data.toList.drop p) with
  | none =>
    rw [ho] at hu
    have HU : Hid (∀ w, Calls Tryd.prog 45 #[.string (s.extract p s.size)] w fun e w' => e = .returned (.tuple #[.string ⟨#[]⟩, .int .i64 0, .int .i64 2]) ∧ Below w.heap.size w w') := hid hu
    have HV : Hid (L.oneL (s.data.toList.drop p) = none) := hid (by unfold L.oneL; rw [if_pos hq, ho])
    clear hu hn ho hq hbt
    go_enter Tryd.func25, Tryd.ntmps25
    go_wp2_with fail
    refine (HU.out _).mono ?_
    rintro e w1 ⟨rfl, h1⟩
    obtain ⟨hc, hf, hz⟩ := new_cells h1
    go_wp2
    refine bodyPost_ret (v := .tuple #[.agg #[.int .i64 4, .string ⟨#[]⟩, .int .i64 p, .int .i64 p], .bool false]) (by simp [results, Tryd.results25, hc, go_sem]) rfl ⟨?_, below4 (new_below h1) _ _ _ _⟩
    rw [HV.out]
    exact ⟨4, [], p, p, rfl⟩
  | some x =>
    have h4 := hn x ho
    rw [ho] at hu
    have HU : Hid (∀ w, Calls Tryd.prog 45 #[.string (s.extract p s.size)] w fun e w' => e = .returned (.tuple #[.string ⟨x.1.toArray⟩, .int .i64 x.2, .int .i64 0]) ∧ Below w.heap.size w w') := hid hu
    have HV : Hid (L.oneL (s.data.toList.drop p) = some (4, x.1, x.2)) := hid (by unfold L.oneL; rw [if_pos hq, ho])
    clear hu hn ho hq hbt
    obtain ⟨x1, x2⟩ := x
    simp only at h4 HU HV
    go_enter Tryd.func25, Tryd.ntmps25
    go_wp2_with fail
    refine (HU.out _).mono ?_
    rintro e w1 ⟨rfl, h1⟩
    obtain ⟨hc, hf, hz⟩ := new_cells h1
    go_wp2
    refine bodyPost_ret (v := .tuple #[.agg #[.int .i64 4, .string ⟨x1.toArray⟩, .int .i64 p, .int .i64 ((p + x2 : Nat) : Int)], .bool true]) (by simp [results, Tryd.results25, hc, go_sem]) rfl ⟨?_, below4 (new_below h1) _ _ _ _⟩
    rw [HV.out]
    exact rfl

end Go.Proofs.YtfmmhmkaphbmpaaDoor
