/-
  A builder of the call's own beside a range over a string: one word for the state of both, and the writers' contracts in that word. Condition: what is held stays below 9000000 bytes.
-/
import Derived.Test.YtfmmhmkaphbmpaaDoorGlyB
import Derived.Test.YtfmmhmkaphbmpaaDoorGlyPw
namespace Go.Proofs.YtfmmhmkaphbmpaaDoor
open Go.RowKit

/-- Block B is a builder that holds acc, block K is the range's iterator at pos of s, and below B nothing has turned since w. -/
def St (s : ByteArray) (B K pos : Nat) (acc : List UInt8) (w wr : World) : Prop :=
  Lib.IsBuilderF 47 5 B B (Lib.byteCells acc) wr ∧ wr.heap[K]? = some (.stringIter s pos) ∧ Below B w wr ∧ B < K

theorem St.below {s : ByteArray} {B K pos : Nat} {acc : List UInt8} {w wr : World} (h : St s B K pos acc w wr) : Below B w wr := h.2.2.1
theorem St.size {s : ByteArray} {B K pos : Nat} {acc : List UInt8} {w wr : World} (h : St s B K pos acc w wr) : B ≤ wr.heap.size := by
  have := (Array.getElem?_eq_some_iff.1 h.2.1).1
  have := h.2.2.2
  omega
theorem St.pos {s : ByteArray} {B K pos : Nat} {acc : List UInt8} {w wr : World} (h : St s B K pos acc w wr) : wr.iterPos K = pos := by
  simp [World.iterPos, h.2.1]

theorem St.step {s : ByteArray} {B K pos : Nat} {acc : List UInt8} {w wr : World} (h : St s B K pos acc w wr) (p : Nat) : St s B K p acc w (wr.iterAt K s p) :=
  ⟨h.1.iterAt h.2.1 p, Lib.iterAt_heap wr K s pos p h.2.1, Lib.below_iterAt h.2.2.1 (by have := h.2.2.2; omega) s p, h.2.2.2⟩

theorem st_next {s : ByteArray} {B K pos : Nat} {acc : List UInt8} {w wr : World} (h : St s B K pos acc w wr) (hp : pos < s.size) (r n : Nat) (hd : G.runeL (s.data.toList.drop pos) = (r, n)) (ty : TypeId) :
    (Instr.next (.pointer (some ⟨K, 0, none⟩)) true ty).run Tryd.prog wr = .ok (.tuple #[.bool true, .int .i64 pos, .int .i32 r]) (wr.iterAt K s (pos + n)) := by
  have := Lib.run_next_any_at (P := Tryd.prog) wr K s pos ty h.2.1 hp
  rw [this, G.decode_eq, hd]

theorem st_end {s : ByteArray} {B K pos : Nat} {acc : List UInt8} {w wr : World} (h : St s B K pos acc w wr) (hp : ¬ pos < s.size) (ty : TypeId) :
    (Instr.next (.pointer (some ⟨K, 0, none⟩)) true ty).run Tryd.prog wr = .ok (.tuple #[.bool false]) wr :=
  Lib.run_next_end_at (P := Tryd.prog) wr K s pos ty h.2.1 hp

theorem st_byte {s : ByteArray} {B K pos : Nat} {acc : List UInt8} {w wr : World} (h : St s B K pos acc w wr) (hl : acc.length ≤ 9000000) (c : Int) (h0 : 0 ≤ c) (h1 : c < 256) :
    Calls Tryd.prog 27 #[.pointer (some ⟨B, 0, none⟩), .int .u8 c] wr fun e w' => e = .returned .nilIface ∧ St s B K pos (acc ++ [c.toNat.toUInt8]) w w' := by
  refine (writeByte B B _ c wr h.1 (by rw [Lib.byteCells_length]; omega) h.size).mono ?_
  rintro e w' ⟨rfl, h2, b2, k2⟩
  refine ⟨rfl, ?_, k2.iter h.2.1 (by have := h.2.2.2; omega), h.2.2.1.trans b2, h.2.2.2⟩
  rw [Lib.byteCells_append]
  have : Lib.byteCells [c.toNat.toUInt8] = [.int .u8 c] := by
    simp [Lib.byteCells]
    omega
  rw [this]
  exact Or.inr h2

theorem st_string {s : ByteArray} {B K pos : Nat} {acc : List UInt8} {w wr : World} (h : St s B K pos acc w wr) (hl : acc.length ≤ 9000000) (t : ByteArray) (ht : t.size ≤ 9000000) :
    Calls Tryd.prog 28 #[.pointer (some ⟨B, 0, none⟩), .string t] wr fun e w' => e = .returned (.tuple #[.int .i64 t.size, .nilIface]) ∧ St s B K pos (acc ++ t.data.toList) w w' := by
  refine (writeString B B _ t wr h.1 (by rw [Lib.byteCells_length]; omega) h.size).mono ?_
  rintro e w' ⟨rfl, h2, b2, k2⟩
  refine ⟨rfl, ?_, k2.iter h.2.1 (by have := h.2.2.2; omega), h.2.2.1.trans b2, h.2.2.2⟩
  rw [Lib.byteCells_append, ← Lib.strCells_eq]
  exact Or.inr h2

theorem st_rune {s : ByteArray} {B K pos : Nat} {acc : List UInt8} {w wr : World} (h : St s B K pos acc w wr) (hl : acc.length ≤ 9000000) (r : Nat) (hr : r ≤ 2147483647) :
    Calls Tryd.prog 50 #[.pointer (some ⟨B, 0, none⟩), .int .i32 r] wr fun e w' => e = .returned (.tuple #[.int .i64 (Lib.runeCells r).length, .nilIface]) ∧ St s B K pos (acc ++ Lib.encodeRune r) w w' := by
  refine (writeRune B B _ r (by omega) (by omega) wr h.1 (by rw [Lib.byteCells_length]; omega) h.size).mono ?_
  rintro e w' ⟨rfl, h2, b2, k2⟩
  refine ⟨rfl, ?_, k2.iter h.2.1 (by have := h.2.2.2; omega), h.2.2.1.trans b2, h.2.2.2⟩
  rw [Lib.byteCells_append, Lib.byteCells_encodeRune]
  exact Or.inr h2

theorem st_text {s : ByteArray} {B K pos : Nat} {acc : List UInt8} {w wr : World} (h : St s B K pos acc w wr) :
    Calls Tryd.prog 30 #[.pointer (some ⟨B, 0, none⟩)] wr fun e w' => e = .returned (.string ⟨acc.toArray⟩) ∧ Below B w w' := by
  refine (Tryd.Builder_String_any_k B B acc wr h.1 h.size).mono ?_
  rintro e w' ⟨rfl, _, b2, _⟩
  exact ⟨rfl, h.2.2.1.trans b2⟩

end Go.Proofs.YtfmmhmkaphbmpaaDoor
