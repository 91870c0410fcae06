/-
  A builder of the call's own, and rows of tokens that are read; the walk of lex's Join. Conditions: each text has at most 3000 bytes, and what is joined has at most 1000000.
-/
import Derived.Test.YtfmmhmkaphbmpaaDoorLexO
import Derived.Test.YtfmmhmkaphbmpaaDoorGlyR
import Derived.Test.YtfmmhmkaphbmpaaDoorLexY
namespace Go.Proofs.YtfmmhmkaphbmpaaDoor
open Go.RowKit

/-- Block B is a builder that holds acc, and below B nothing has turned since w. -/
def Bs (B : Nat) (acc : List UInt8) (w wr : World) : Prop := Lib.IsBuilderF 47 5 B B (Lib.byteCells acc) wr ∧ Below B w wr ∧ B < wr.heap.size

theorem bs_below {B : Nat} {acc : List UInt8} {w wr w2 : World} (h : Bs B acc w wr) (hb : Below wr.heap.size wr w2) : Bs B acc w w2 := by
  obtain ⟨h1, h2, h3⟩ := h
  refine ⟨?_, h2.trans (hb.mono (by omega)), Nat.lt_of_lt_of_le h3 hb.size⟩
  have hg := grown_of_below hb
  rcases h1 with h1 | h1
  · obtain ⟨hB, v, hv, hown, hne⟩ := h1
    exact .inl ⟨hB, v, (hb.block B h3).trans hv, hown.kept hg (Classical.em _), hne⟩
  · obtain ⟨hB, v, hv, hown, hne⟩ := h1
    exact .inr ⟨hB, v, (hb.block B h3).trans hv, hown.kept hg (Classical.em _), hne⟩

theorem isB_lt {B b : Nat} {bs : List Value} {w : World} {p : Value} (h : Lib.BuilderAtF 47 5 B b p bs w) : b < w.heap.size := h.lt

theorem bs_byte {B : Nat} {acc : List UInt8} {w wr : World} (h : Bs B acc w wr) (hl : acc.length ≤ 9000000) (c : Int) (h0 : 0 ≤ c) (h1 : c < 256) :
    Calls Tryd.prog 27 #[.pointer (some ⟨B, 0, none⟩), .int .u8 c] wr fun e w' => e = .returned .nilIface ∧ Bs B (acc ++ [c.toNat.toUInt8]) w w' := by
  refine (writeByte B B _ c wr h.1 (by rw [Lib.byteCells_length]; omega) (by have := h.2.2; omega)).mono ?_
  rintro e w' ⟨rfl, h2, b2, _⟩
  refine ⟨rfl, ?_, h.2.1.trans b2, h2.lt⟩
  rw [Lib.byteCells_append]
  have : Lib.byteCells [c.toNat.toUInt8] = [.int .u8 c] := by
    simp [Lib.byteCells]
    omega
  rw [this]
  exact Or.inr h2

theorem bs_string {B : Nat} {acc : List UInt8} {w wr : World} (h : Bs B acc w wr) (hl : acc.length ≤ 9000000) (t : ByteArray) (ht : t.size ≤ 9000000) :
    Calls Tryd.prog 28 #[.pointer (some ⟨B, 0, none⟩), .string t] wr fun e w' => e = .returned (.tuple #[.int .i64 t.size, .nilIface]) ∧ Bs B (acc ++ t.data.toList) w w' := by
  refine (writeString B B _ t wr h.1 (by rw [Lib.byteCells_length]; omega) (by have := h.2.2; omega)).mono ?_
  rintro e w' ⟨rfl, h2, b2, _⟩
  refine ⟨rfl, ?_, h.2.1.trans b2, h2.lt⟩
  rw [Lib.byteCells_append, ← Lib.strCells_eq]
  exact Or.inr h2

theorem bs_text {B : Nat} {acc : List UInt8} {w wr : World} (h : Bs B acc w wr) :
    Calls Tryd.prog 30 #[.pointer (some ⟨B, 0, none⟩)] wr fun e w' => e = .returned (.string ⟨acc.toArray⟩) ∧ Below B w w' := by
  refine (Tryd.Builder_String_any_k B B acc wr h.1 (by have := h.2.2; omega)).mono ?_
  rintro e w' ⟨rfl, _, b2, _⟩
  exact ⟨rfl, h.2.1.trans b2⟩

/-- A slice value whose elements' kinds and texts read so, below block B. -/
def Rd (w : World) (B : Nat) (v : Value) (l : List (Int × List UInt8)) : Prop :=
  ∃ (A : Option Addr) (cap : Nat), v = .slice A l.length cap ∧ (0 < l.length → ∃ a : Addr, A = some a ∧ a.block < B ∧ ∀ (i : Nat) (h : i < l.length), w.cell? (a.add (i * 4)) = some (.int .i64 l[i].1) ∧ w.cell? (a.add (i * 4 + 1)) = some (strV l[i].2))

theorem addr_block (a : Addr) (n : Nat) : (a.add n).block = a.block := by unfold Addr.add; split <;> rfl

/-- The place one behind, as a walk spells it. -/
theorem addr_next (a : Addr) (i : Nat) : a.add (i + 1) = ⟨(a.add i).block, (a.add i).off + 1, none⟩ := by
  unfold Addr.add
  by_cases hi : i = 0 <;> simp [hi, Nat.add_assoc]

theorem Rd.keep {w w' : World} {B : Nat} {v : Value} {l : List (Int × List UInt8)} (h : Rd w B v l) (hk : ∀ p : Addr, p.block < B → w'.cell? p = w.cell? p) : Rd w' B v l := by
  obtain ⟨A, cap, hv, hc⟩ := h
  refine ⟨A, cap, hv, fun hn => ?_⟩
  obtain ⟨a, ha, hb, hx⟩ := hc hn
  refine ⟨a, ha, hb, fun i hi => ?_⟩
  rw [hk _ (by rw [addr_block]; exact hb), hk _ (by rw [addr_block]; exact hb)]
  exact hx i hi
theorem Rd.below {w w' : World} {B : Nat} {v : Value} {l : List (Int × List UInt8)} (h : Rd w B v l) (hb : Below B w w') : Rd w' B v l := h.keep fun _ hp => hb.cell hp

theorem take_snoc {α : Type} (l : List α) (k : Nat) (h : k < l.length) : l.take (k + 1) = l.take k ++ [l[k]] := List.take_succ_eq_append_getElem h

/-- A step of a join. -/
theorem join_step {l : List (Int × List UInt8)} {k : Nat} (h : k < l.length) :
    joinT (l.take (k + 1)) = (joinT (l.take k) ++ (if 0 < k then [32] else [])) ++ (if l[k].1 = 4 then G.quoteL l[k].2 else l[k].2) := by
  rw [take_snoc l k h, joinT_snoc, List.append_assoc]
  congr 1
  by_cases hk : 0 < k
  · rw [if_neg (by intro h2; have := congrArg List.length h2; rw [List.length_take, List.length_nil] at this; omega), if_pos hk]
    rfl
  · have : k = 0 := by omega
    subst this
    rfl

set_option maxHeartbeats 4000000 in
set_option maxRecDepth 100000 in
theorem join_any (v : Value) (l : List (Int × List UInt8)) (w : World) (hR : Rd w w.heap.size v l) (hn : l.length ≤ 100000) (hx : ∀ t ∈ l, t.2.length ≤ 3000) (hj : ∀ k, (joinT (l.take k)).length ≤ 1000000) :
    Calls Tryd.prog 16 #[v] w fun e w' => e = .returned (.string ⟨(joinT (l.take (l.length - 1))).toArray⟩) ∧ Below w.heap.size w w' := by
  obtain ⟨A, cap, rfl, hc⟩ := hR
  have hst : Bs w.heap.size [] w (w.alloc (.cells #[.pointer none, .slice none 0 0] 47)) := ⟨Lib.IsBuilderF.of (Lib.fresh_isBuilder 47 5 w), (Below.refl _ w).alloc (Nat.le_refl _) _, by simp⟩
  have HC := hid hc
  have HX := hid hx
  have HJ := hid hj
  clear hc hx hj
  go_enter Tryd.func16, Tryd.ntmps16
  go_wp2
  go_loopw [8] (fun vi wr => ∃ k : Nat, k ≤ l.length ∧ (0 < k → k + 1 ≤ l.length) ∧ vi = .int .i64 k ∧ Bs w.heap.size (joinT (l.take k)) w wr) (fun vi _ => l.length - (intOf vi).toNat)
  case atStart => exact ⟨0, by omega, by omega, rfl, by simpa [joinT] using hst⟩
  case round =>
    obtain ⟨k, hk, hk1, rfl, hB⟩ := hrel
    by_cases hlt : k + 1 < l.length
    · have hkl : k < l.length := by omega
      obtain ⟨a, hA, hab, hcell⟩ := HC.out (by omega)
      obtain ⟨c0, c1⟩ := hcell k hkl
      subst hA
      unfold strV at c1
      have hs := join_step hkl
      have hx3 := HX.out l[k] (List.getElem_mem hkl)
      have hj0 := HJ.out k
      have hq := quote_len l[k].2
      clear hcell
      by_cases h4 : l[k].1 = 4
      · have b4 : (l[k].1 == 4) = true := by rw [h4]; rfl
        rw [if_pos h4] at hs
        by_cases h0 : 0 < k
        · rw [if_pos h0] at hs
          have HS := hid hs
          clear hs h4
          go_wp2_with fail
          refine (bs_byte hB (by omega) 32 (by omega) (by omega)).mono ?_
          rintro e w1 ⟨rfl, hB⟩
          have c0 := (hB.2.1.cell (p := a.add (k * 4)) (by rw [addr_block]; exact hab)).trans c0
          have c1 := (hB.2.1.cell (p := a.add (k * 4 + 1)) (by rw [addr_block]; exact hab)).trans c1
          rw [addr_next] at c1
          go_wp2_with fail
          refine (quote_any _ (by show l[k].2.toArray.size ≤ 2000000; simp; omega) _).mono ?_
          rintro e w2 ⟨rfl, h2⟩
          have hB2 := bs_below hB h2
          go_wp2_with fail
          refine (bs_string hB2 (by simp; omega) _ (by show (G.quoteL l[k].2).toArray.size ≤ 9000000; simp; omega)).mono ?_
          rintro e w3 ⟨rfl, hB3⟩
          go_wp2
          go_roundw
          case rel =>
            refine ⟨k + 1, by omega, by omega, by go_num, ?_⟩
            rw [HS.out]
            exact hB3
          case measure => simp [intOf]; omega
        · rw [if_neg h0, List.append_nil] at hs
          have HS := hid hs
          clear hs h4
          have c0 := (hB.2.1.cell (p := a.add (k * 4)) (by rw [addr_block]; exact hab)).trans c0
          have c1 := (hB.2.1.cell (p := a.add (k * 4 + 1)) (by rw [addr_block]; exact hab)).trans c1
          rw [addr_next] at c1
          go_wp2_with fail
          refine (quote_any _ (by show l[k].2.toArray.size ≤ 2000000; simp; omega) _).mono ?_
          rintro e w2 ⟨rfl, h2⟩
          have hB2 := bs_below hB h2
          go_wp2_with fail
          refine (bs_string hB2 (by omega) _ (by show (G.quoteL l[k].2).toArray.size ≤ 9000000; simp; omega)).mono ?_
          rintro e w3 ⟨rfl, hB3⟩
          go_wp2
          go_roundw
          case rel =>
            refine ⟨k + 1, by omega, by omega, by go_num, ?_⟩
            rw [HS.out]
            exact hB3
          case measure => simp [intOf]; omega
      · have b4 : (l[k].1 == 4) = false := beq_eq_false_iff_ne.2 h4
        rw [if_neg h4] at hs
        by_cases h0 : 0 < k
        · rw [if_pos h0] at hs
          have HS := hid hs
          clear hs h4
          go_wp2_with fail
          refine (bs_byte hB (by omega) 32 (by omega) (by omega)).mono ?_
          rintro e w1 ⟨rfl, hB⟩
          have c0 := (hB.2.1.cell (p := a.add (k * 4)) (by rw [addr_block]; exact hab)).trans c0
          have c1 := (hB.2.1.cell (p := a.add (k * 4 + 1)) (by rw [addr_block]; exact hab)).trans c1
          rw [addr_next] at c1
          go_wp2_with fail
          refine (bs_string hB (by simp; omega) _ (by show l[k].2.toArray.size ≤ 9000000; simp; omega)).mono ?_
          rintro e w3 ⟨rfl, hB3⟩
          go_wp2
          go_roundw
          case rel =>
            refine ⟨k + 1, by omega, by omega, by go_num, ?_⟩
            rw [HS.out]
            exact hB3
          case measure => simp [intOf]; omega
        · rw [if_neg h0, List.append_nil] at hs
          have HS := hid hs
          clear hs h4
          have c0 := (hB.2.1.cell (p := a.add (k * 4)) (by rw [addr_block]; exact hab)).trans c0
          have c1 := (hB.2.1.cell (p := a.add (k * 4 + 1)) (by rw [addr_block]; exact hab)).trans c1
          rw [addr_next] at c1
          go_wp2_with fail
          refine (bs_string hB (by omega) _ (by show l[k].2.toArray.size ≤ 9000000; simp; omega)).mono ?_
          rintro e w3 ⟨rfl, hB3⟩
          go_wp2
          go_roundw
          case rel =>
            refine ⟨k + 1, by omega, by omega, by go_num, ?_⟩
            rw [HS.out]
            exact hB3
          case measure => simp [intOf]; omega
    · have hkn : k = l.length - 1 := by omega
      subst hkn
      go_wp2_with fail
      refine (bs_text hB).mono ?_
      rintro e w1 ⟨rfl, hB1⟩
      go_wp2
      go_ret
      exact ⟨rfl, hB1⟩

end Go.Proofs.YtfmmhmkaphbmpaaDoor
