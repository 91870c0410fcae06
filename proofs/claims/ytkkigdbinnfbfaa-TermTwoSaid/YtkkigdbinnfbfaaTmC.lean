/-
  Frames; rows of types of the call's own; the walks of term's small functions on nodes. No conditions but those that each lemma names.
-/
import Derived.Test.YtkkigdbinnfbfaaM2
import Derived.Maps.AppendAt
import Derived.BigQuiet
import Derived.IntWalk
import Derived.Deep.RegionWith
import Derived.Deep.RegionHeld3
namespace Go.Proofs.Ytkkigdbinnfbfaa
open Go.RowKit

/-! ### Frames -/
/-- All blocks but these are as they were. -/
structure Fr (P : Nat → Prop) (w w' : World) : Prop where
  os : w'.os = w.os
  tape : w'.tape = w.tape
  output : w'.output = w.output
  size : w.heap.size ≤ w'.heap.size
  block : ∀ i, i < w.heap.size → ¬ P i → w'.heap[i]? = w.heap[i]?
theorem Fr.refl (P : Nat → Prop) (w : World) : Fr P w w := ⟨rfl, rfl, rfl, Nat.le_refl _, fun _ _ _ => rfl⟩
theorem Fr.trans {P : Nat → Prop} {a b c : World} (h : Fr P a b) (k : Fr P b c) : Fr P a c :=
  ⟨k.os.trans h.os, k.tape.trans h.tape, k.output.trans h.output, Nat.le_trans h.size k.size, fun i hi hp => (k.block i (Nat.lt_of_lt_of_le hi h.size) hp).trans (h.block i hi hp)⟩
/-- What is new at the one step may be written at the next. -/
theorem Fr.then {P Q : Nat → Prop} {a b c : World} (h : Fr P a b) (k : Fr Q b c) (hq : ∀ i, i < a.heap.size → Q i → P i) : Fr P a c :=
  ⟨k.os.trans h.os, k.tape.trans h.tape, k.output.trans h.output, Nat.le_trans h.size k.size, fun i hi hp => (k.block i (Nat.lt_of_lt_of_le hi h.size) (fun g => hp (hq i hi g))).trans (h.block i hi hp)⟩
theorem Fr.mono {P Q : Nat → Prop} {a b : World} (h : Fr P a b) (hq : ∀ i, i < a.heap.size → P i → Q i) : Fr Q a b :=
  ⟨h.os, h.tape, h.output, h.size, fun i hi hp => h.block i hi fun g => hp (hq i hi g)⟩
theorem Fr.of_below {P : Nat → Prop} {w w' : World} (h : Below w.heap.size w w') : Fr P w w' := ⟨h.os, h.tape, h.output, h.size, fun i hi _ => h.block i hi⟩
theorem Fr.below {P : Nat → Prop} {w w' : World} (h : Fr P w w') {B : Nat} (hB : B ≤ w.heap.size) (hp : ∀ i, i < B → ¬ P i) : Below B w w' := ⟨h.os, h.tape, h.output, h.size, fun i hi => h.block i (Nat.lt_of_lt_of_le hi hB) (hp i hi)⟩
theorem Fr.grown {w w' : World} {v : Value} (h : w.grownBy w' v.ownBlock) : Fr (fun i => v.ownBlock = some i) w w' := ⟨h.os, h.tape, h.output, h.size, fun i hi hp => h.block i hi fun g => hp g.symm⟩
theorem Fr.cell {P : Nat → Prop} {w w' : World} (h : Fr P w w') {a : Addr} {v : Value} (hc : w.cell? a = some v) (hp : ¬ P a.block) : w'.cell? a = some v := (World.cell?_of_block (h.block a.block (cell_lt hc) hp)).trans hc
theorem Fr.heap {P : Nat → Prop} {w w' : World} (h : Fr P w w') {b : Nat} {o : Obj} (hc : w.heap[b]? = some o) (hp : ¬ P b) : w'.heap[b]? = some o := (h.block b (heap_lt hc) hp).trans hc

/-- The block in which a type's nodes lie. -/
def Blk (v : Value) (l : List L.Nd) (b : Nat) : Prop := l ≠ [] ∧ v.ownBlock = some b
theorem Blk.lt {w : World} {B : Nat} {v : Value} {l : List L.Nd} (h : Rd w B v l) {b : Nat} (hb : Blk v l b) : b < B := by
  obtain ⟨A, cap, rfl, -, -, -, hc⟩ := h
  obtain ⟨b', o, rfl, hlt, -⟩ := hc hb.1
  have := hb.2
  simp only [Value.ownBlock, Option.some.injEq] at this
  omega
theorem Rd.fr {P : Nat → Prop} {w w' : World} {B : Nat} {v : Value} {l : List L.Nd} (h : Rd w B v l) (hf : Fr P w w') (hp : ∀ b, Blk v l b → ¬ P b) : Rd w' B v l := by
  obtain ⟨A, cap, rfl, h1, h2, h3, hc⟩ := h
  refine ⟨A, cap, rfl, h1, h2, h3, fun hn => ?_⟩
  obtain ⟨b, o, rfl, hb, hx⟩ := hc hn
  refine ⟨b, o, rfl, hb, fun i hi => ?_⟩
  obtain ⟨x, y, z⟩ := hx i hi
  have hq := hp b ⟨hn, rfl⟩
  exact ⟨hf.cell x hq, hf.cell y hq, hf.cell z hq⟩
theorem Rd.len {w : World} {B : Nat} {v : Value} {l : List L.Nd} (h : Rd w B v l) : ∃ A cap, v = .slice A l.length cap ∧ l.length ≤ cap ∧ cap ≤ maxLen := by
  obtain ⟨A, cap, rfl, h1, h2, -⟩ := h
  exact ⟨A, cap, rfl, h1, h2⟩
theorem Own.blk {B : Nat} {v : Value} {l : List L.Nd} {w : World} (h : Own B v l w) {b : Nat} (hb : Blk v l b) : B ≤ b := (h.lt b hb.2).1
theorem own_fr {P : Nat → Prop} {w w' : World} {B : Nat} {e : TypeId} {size n : Nat} {v : Value} {xs : List Value} (h : w.ownsRow B e size v n xs) (hf : Fr P w w') (hp : ∀ g, v.ownBlock = some g → ¬ P g) : w'.ownsRow B e size v n xs := by
  refine ⟨h.1, h.2.imp id ?_⟩
  rintro ⟨g, cap, cur, rfl, h1, h2, h3⟩
  exact ⟨g, cap, cur, rfl, h1, hf.heap h2 (hp g rfl), h3⟩
theorem own_more {w : World} {B B' : Nat} {e : TypeId} {size n : Nat} {v : Value} {xs : List Value} (h : w.ownsRow B e size v n xs) (hb : B' ≤ B) : w.ownsRow B' e size v n xs := by
  refine ⟨h.1, h.2.imp id ?_⟩
  rintro ⟨g, cap, cur, rfl, h1, h3⟩
  exact ⟨g, cap, cur, rfl, Nat.le_trans hb h1, h3⟩

/-! ### Rows of types -/
abbrev VT := Value × List L.Nd
theorem infoTyp : (Try.prog.info? 23).map (fun i => (i.zero, i.size, i.bytes)) = some (some (.slice none 0 0), 1, 24) := by kernel_rfl
/-- A slice that reads as these types, below B. -/
def RdR (w : World) (B : Nat) (v : Value) (ts : List VT) : Prop :=
  (∃ (A : Option Addr) (cap : Nat), v = .slice A ts.length cap ∧ ts.length ≤ cap ∧ cap ≤ maxLen ∧ (A = none → cap = 0) ∧ (ts ≠ [] → ∃ b o, A = some ⟨b, o, none⟩ ∧ b < B ∧ ∀ (i : Nat) (h : i < ts.length), w.cell? ⟨b, o + i, none⟩ = some ts[i].1)) ∧ ∀ t ∈ ts, Rd w B t.1 t.2
theorem RdR.below {w w' : World} {B : Nat} {v : Value} {ts : List VT} (h : RdR w B v ts) (hb : Below w.heap.size w w') : RdR w' B v ts := by
  obtain ⟨⟨A, cap, hv, h1, h2, h3, hc⟩, hr⟩ := h
  refine ⟨⟨A, cap, hv, h1, h2, h3, fun hn => ?_⟩, fun t ht => (hr t ht).below hb⟩
  obtain ⟨b, o, ha, hlt, hx⟩ := hc hn
  refine ⟨b, o, ha, hlt, fun i hi => ?_⟩
  have := hx i hi
  exact (hb.cell (p := ⟨b, o + i, none⟩) (cell_lt this)).trans this
theorem RdR.mono {w : World} {B B' : Nat} {v : Value} {ts : List VT} (h : RdR w B v ts) (hb : B ≤ B') : RdR w B' v ts := by
  obtain ⟨⟨A, cap, hv, h1, h2, h3, hc⟩, hr⟩ := h
  refine ⟨⟨A, cap, hv, h1, h2, h3, fun hn => ?_⟩, fun t ht => (hr t ht).mono hb⟩
  obtain ⟨b, o, ha, hlt, hx⟩ := hc hn
  exact ⟨b, o, ha, by omega, hx⟩
theorem RdR.fr {w w' : World} {B : Nat} {v : Value} {ts : List VT} (h : RdR w B v ts) (hf : Fr (fun i => B ≤ i) w w') : RdR w' B v ts := by
  obtain ⟨⟨A, cap, hv, h1, h2, h3, hc⟩, hr⟩ := h
  refine ⟨⟨A, cap, hv, h1, h2, h3, fun hn => ?_⟩, fun t ht => (hr t ht).fr hf fun b hb g => by have := Blk.lt (hr t ht) hb; omega⟩
  obtain ⟨b, o, ha, hlt, hx⟩ := hc hn
  exact ⟨b, o, ha, hlt, fun i hi => hf.cell (hx i hi) (by show ¬ B ≤ b; omega)⟩
theorem RdR.to {w w' : World} {v : Value} {ts : List VT} (h : RdR w w.heap.size v ts) (hb : Below w.heap.size w w') : RdR w' w'.heap.size v ts := (h.below hb).mono hb.size
/-- A row of types of the call's own, in a block from B on; each type lies in another block, from B on. -/
structure RowT (B : Nat) (v : Value) (ts : List VT) (w : World) : Prop where
  own : w.ownsRow B 23 1 v ts.length (ts.map (·.1))
  rd : ∀ t ∈ ts, Rd w w.heap.size t.1 t.2
  off : ∀ t ∈ ts, ∀ b, Blk t.1 t.2 b → v.ownBlock ≠ some b
  low : ∀ t ∈ ts, ∀ b, Blk t.1 t.2 b → B ≤ b
theorem RowT.nil (B : Nat) (w : World) : RowT B (.slice none 0 0) [] w := ⟨World.ownsRow_nil w B _ 1, by simp, by simp, by simp⟩
theorem RowT.fr {P : Nat → Prop} {B : Nat} {v : Value} {ts : List VT} {w w' : World} (h : RowT B v ts w) (hf : Fr P w w') (hp : ∀ i, P i → i < B) : RowT B v ts w' where
  own := own_fr h.own hf fun g hg hP => by
    have := (World.ownsRow.lt h.own g hg).1
    have := hp g hP
    omega
  rd := fun t ht => ((h.rd t ht).fr hf fun b hb hP => by
    have := h.low t ht b hb
    have := hp b hP
    omega).mono hf.size
  off := h.off
  low := h.low
theorem RowT.below {B : Nat} {v : Value} {ts : List VT} {w w' : World} (h : RowT B v ts w) (hb : Below w.heap.size w w') : RowT B v ts w' := h.fr (Fr.of_below (P := fun _ => False) hb) fun _ g => g.elim
theorem RowT.more {B B' : Nat} {v : Value} {ts : List VT} {w : World} (h : RowT B v ts w) (hb : B' ≤ B) : RowT B' v ts w := ⟨own_more h.own hb, h.rd, h.off, fun t ht b hB => Nat.le_trans hb (h.low t ht b hB)⟩
theorem RowT.val {B : Nat} {v : Value} {ts : List VT} {w : World} (h : RowT B v ts w) : ∃ A cap, v = .slice A ts.length cap ∧ ts.length ≤ cap ∧ cap ≤ maxLen := by
  rcases h.own.2 with ⟨hv, h0⟩ | ⟨g, cap, cur, hv, _, hh, hc, hm, _⟩
  · exact ⟨none, 0, by rw [hv, h0], by omega, Nat.zero_le _⟩
  · exact ⟨_, _, hv, hc, hm⟩
theorem RowT.rdr {B : Nat} {v : Value} {ts : List VT} {w : World} (h : RowT B v ts w) : RdR w w.heap.size v ts := by
  refine ⟨?_, h.rd⟩
  rcases h.own.2 with ⟨hv, h0⟩ | ⟨g, cap, cur, hv, _, hh, hc, hm, _⟩
  · exact ⟨none, 0, by rw [hv, h0], by omega, Nat.zero_le _, fun _ => rfl, fun hn => absurd (List.eq_nil_of_length_eq_zero h0) hn⟩
  · subst hv
    refine ⟨_, cap, rfl, hc, hm, by simp, fun _ => ⟨g, 0, rfl, heap_lt hh, fun i hi => ?_⟩⟩
    rw [Nat.zero_add, World.ownsRow.cellAt h.own i (by omega)]
    simp [hi]
theorem RowT.snoc {B : Nat} {v v' : Value} {ts : List VT} {t : VT} {w w' : World} (h : RowT B v ts w) (ho : w'.ownsRow B 23 1 v' (ts.length + 1) (ts.map (·.1) ++ [t.1])) (hg : w.grownBy w' v.ownBlock) (hat : v'.ownBlock = v.ownBlock ∨ v'.ownBlock = some w.heap.size)
    (hr : Rd w w.heap.size t.1 t.2) (hoff : ∀ b, Blk t.1 t.2 b → v.ownBlock ≠ some b) (hlow : ∀ b, Blk t.1 t.2 b → B ≤ b) : RowT B v' (ts ++ [t]) w' where
  own := by rw [List.map_append, List.length_append]; exact ho
  rd := fun x hx => by
    rcases List.mem_append.1 hx with hx | hx
    · exact ((h.rd x hx).fr (Fr.grown hg) fun b hb g => h.off x hx b hb g).mono hg.size
    · rw [List.mem_singleton.1 hx]
      exact (hr.fr (Fr.grown hg) fun b hb g => hoff b hb g).mono hg.size
  off := fun x hx b hb => by
    have key : v.ownBlock ≠ some b ∧ b < w.heap.size := by
      rcases List.mem_append.1 hx with hx | hx
      · exact ⟨h.off x hx b hb, Blk.lt (h.rd x hx) hb⟩
      · rw [List.mem_singleton.1 hx] at hb
        exact ⟨hoff b hb, Blk.lt hr hb⟩
    rcases hat with e | e
    · rw [e]; exact key.1
    · rw [e]
      intro g
      injection g with g
      omega
  low := fun x hx b hb => by
    rcases List.mem_append.1 hx with hx | hx
    · exact h.low x hx b hb
    · rw [List.mem_singleton.1 hx] at hb; exact hlow b hb

theorem typ_one (w : World) (v : Value) : ∀ j u, ([v] : List Value)[j]? = some u → (w.alloc (.cells #[v] 23)).cell? ((⟨w.heap.size, 0, none⟩ : Addr).add j) = some u := cell_one_new w v _

/-- An append of one type to a row of the call's own. -/
theorem wpList_app_typ {ops : Array Oper} {rest : List Oper} {o : Oper} {a : Act} {Q : Exit → Act → World → Prop} (hgd : o.guard = none) (s x : Operand)
    (ho : o.op = .call { callee := .builtin .append, args := #[s, x], argTypes := #[27, 27] }) {B : Nat} {w : World} {v vt : Value} {ts : List VT} {l : List L.Nd} (hs : a.eval s = v) (hr : RowT B v ts w) (hlen : ts.length ≤ 100000) (hB : B ≤ w.heap.size)
    (hx : a.eval x = .slice (some ⟨w.heap.size, 0, none⟩) 1 1) (ht : Rd w w.heap.size vt l) (hoff : ∀ b, Blk vt l b → v.ownBlock ≠ some b) (hlow : ∀ b, Blk vt l b → B ≤ b)
    (h : ∀ v' w', RowT B v' (ts ++ [(vt, l)]) w' → Fr (fun i => v.ownBlock = some i) w w' → wpList Try.prog ops Q rest (a.put o.dst v') w') :
    wpList Try.prog ops Q (o :: rest) a (w.alloc (.cells #[vt] 23)) := by
  obtain ⟨it, hit, hzt0, hzt1, hzt2⟩ := info_parts infoTyp
  have hb : Below w.heap.size w (w.alloc (.cells #[vt] 23)) := below_new _
  have hr2 := hr.below hb
  have ht2 := (ht.below hb).mono hb.size
  refine wpList_append_own_at (w.alloc (.cells #[vt] 23)) hgd s x 27 ho B 23 it (.slice none 0 0) 1 24 Try.underlying27 hit hzt0 hzt1 hzt2 rfl (by decide) v ts.length _ hs hr2.own ⟨w.heap.size, 0, none⟩ 1 1 [vt] hx rfl (typ_one w vt) (fun u hu => ?_) (by unfold maxLen; omega) (by omega) (by simp; omega) ?_
  · obtain ⟨A, cap, rfl, -⟩ := ht.len
    rw [List.mem_singleton.1 hu]; rfl
  · intro v' w' h1 h2 _ h4
    exact h v' w' (hr2.snoc h1 h2 h4 ht2 hoff hlow) ((Fr.of_below hb).trans (Fr.grown h2))

/-! ### Small functions on nodes -/
def ndV (x : L.Nd) : Value := .agg #[.int .i64 x.kind, .string x.name, .int .i64 x.n]
theorem tmany_any (k n : Int) (s : ByteArray) (w : World) : Calls Try.prog 45 #[.agg #[.int .i64 k, .string s, .int .i64 n]] w fun e w' => e = .returned (.int .i64 (L.many ⟨k, s, n⟩)) ∧ Below w.heap.size w w' := by
  by_cases h5 : k = 5
  · subst h5
    go_enter Try.func45, Try.ntmps45
    go_wp2
    go_ret
    exact ⟨rfl, below_new _⟩
  by_cases h6 : k = 6
  · subst h6
    go_enter Try.func45, Try.ntmps45
    go_wp2
    go_ret
    exact ⟨rfl, below_new _⟩
  by_cases h7 : k = 7
  · subst h7
    go_enter Try.func45, Try.ntmps45
    go_wp2
    go_ret
    exact ⟨rfl, below_new _⟩
  have hm : Hid (L.many ⟨k, s, n⟩ = 0) := hid (by unfold L.many; rw [if_neg h5, if_neg (by simp only; omega)])
  have e5 : (k == 5) = false := by simpa using h5
  have e6 : (k == 6) = false := by simpa using h6
  have e7 : (k == 7) = false := by simpa using h7
  clear h5 h6 h7
  go_enter Try.func45, Try.ntmps45
  go_wp2
  go_ret
  exact ⟨by rw [hm.out]; rfl, below_new _⟩
theorem isVar_any (k n : Int) (s : ByteArray) (w : World) : Calls Try.prog 13 #[.agg #[.int .i64 k, .string s, .int .i64 n]] w fun e w' => e = .returned (.bool (L.varN ⟨k, s, n⟩)) ∧ Below w.heap.size w w' := by
  by_cases h8 : k = 8
  · subst h8
    go_enter Try.func13, Try.ntmps13
    go_wp2
    go_ret
    exact ⟨rfl, below_new _⟩
  have e8 : (k == 8) = false := by simpa using h8
  have hv : Hid (L.varN ⟨k, s, n⟩ = decide (k = 9)) := hid (by simp [L.varN, h8])
  clear h8
  go_enter Try.func13, Try.ntmps13
  go_wp2
  go_ret
  exact ⟨ret_bool (by rw [hv.out]; first | rfl | simp), below_new _⟩
end Go.Proofs.Ytkkigdbinnfbfaa
