/-
  The texts TrB, TrC, TrD, TrE, TrF, TrH, TrI, one behind the other. Conditions: those that each of them names.
-/
import Derived.Test.YtgghmhgbdknkaaaMR0
import Derived.Test.YtgghmhgbdknkaaaM1
import Derived.BigQuiet
import Derived.StillTailTactics
import Derived.WalkLawsBesides
import Derived.Test.YtgghmhgbdknkaaaM2
section
/-
  What the reader of types stands on: a slice of tokens that is read, the reader's own variable, a row of sites; what is kept of them. No conditions but those that each lemma names.
-/
namespace Go.Proofs.Ytgghmhgbdknkaaa
open Go.RowKit

/-- A slice value that reads as these tokens, in a block below B. -/
def RdK (w : World) (B : Nat) (v : Value) (l : List T.Tk) : Prop :=
  ∃ (A : Option Addr) (cap : Nat), v = .slice A l.length cap ∧ l.length ≤ 1000000 ∧
    (l ≠ [] → ∃ b o, A = some ⟨b, o, none⟩ ∧ b < B ∧ ∀ (i : Nat) (h : i < l.length), w.cell? ⟨b, o + i * 4, none⟩ = some (.int .i64 l[i].kind) ∧ w.cell? ⟨b, o + i * 4 + 1, none⟩ = some (.string l[i].text) ∧ w.cell? ⟨b, o + i * 4 + 2, none⟩ = some (.int .i64 l[i].fr) ∧ w.cell? ⟨b, o + i * 4 + 3, none⟩ = some (.int .i64 l[i].to))

theorem RdK.low {w w' : World} {B : Nat} {v : Value} {l : List T.Tk} (h : RdK w B v l) (hb : Below B w w') : RdK w' B v l := by
  obtain ⟨A, cap, hv, hl, hc⟩ := h
  refine ⟨A, cap, hv, hl, fun hn => ?_⟩
  obtain ⟨b, o, ha, hlt, hx⟩ := hc hn
  refine ⟨b, o, ha, hlt, fun i hi => ?_⟩
  have e : ∀ j, w'.cell? ⟨b, j, none⟩ = w.cell? ⟨b, j, none⟩ := fun j => hb.cell (p := ⟨b, j, none⟩) hlt
  rw [e, e, e, e]
  exact hx i hi
theorem RdK.mono {w : World} {B B' : Nat} {v : Value} {l : List T.Tk} (h : RdK w B v l) (hB : B ≤ B') : RdK w B' v l := by
  obtain ⟨A, cap, hv, hl, hc⟩ := h
  refine ⟨A, cap, hv, hl, fun hn => ?_⟩
  obtain ⟨b, o, ha, hlt, hx⟩ := hc hn
  exact ⟨b, o, ha, by omega, hx⟩

def siC (x : T.Si) : List Value := [.int .i64 x.fr, .int .i64 x.to, .bool false]
def cellsSi (l : List T.Si) : List Value := l.flatMap siC
/-- A row of sites of the call's own. -/
def OwnSi (B : Nat) (v : Value) (l : List T.Si) (w : World) : Prop := w.ownsRow B 41 3 v l.length (cellsSi l)

/-- The reader of the call's own, in block P: the tokens, the place, the next site, the sites. -/
def Rr (l : List T.Tk) (vt : Value) (P : Nat) (s : T.S) (w : World) : Prop :=
  s.pl ≤ l.length ∧ (0 ≤ s.site ∧ s.site + l.length ≤ 4000000000000000000 + s.pl) ∧ RdK w P vt l ∧
  ∃ vs, w.heap[P]? = some (.cells #[vt, .int .i64 (s.pl : Int), .int .i64 s.site, vs] 57 (0, 0)) ∧ OwnSi (P + 1) vs s.sites w ∧ s.sites.length ≤ s.pl

/-- What the reader's steps leave as it was: but for the reader, and rows of sites. -/
def KT (P : Nat) (w w' : World) : Prop := Below P w w' ∧ ∀ k o, w.heap[k]? = some o → k ≠ P → (∀ c fz, o ≠ .cells c 41 fz) → w'.heap[k]? = some o

theorem KT.refl (P : Nat) (w : World) : KT P w w := ⟨Below.refl _ _, fun _ _ h _ _ => h⟩
theorem KT.trans {P : Nat} {a b c : World} (h : KT P a b) (k : KT P b c) : KT P a c := ⟨h.1.trans k.1, fun i o hi h1 h2 => k.2 i o (h.2 i o hi h1 h2) h1 h2⟩
theorem KT.of_below {P : Nat} {w w' : World} (h : Below w.heap.size w w') (hP : P ≤ w.heap.size) : KT P w w' := ⟨h.mono hP, fun k _ hk _ _ => (h.block k (heap_lt hk)).trans hk⟩
theorem Rr.lt {l : List T.Tk} {vt : Value} {P : Nat} {s : T.S} {w : World} (h : Rr l vt P s w) : P < w.heap.size := by
  obtain ⟨-, -, -, vs, hc, -⟩ := h
  exact heap_lt hc

/-- The reader stays where only new memory is made. -/
theorem Rr.below {l : List T.Tk} {vt : Value} {P : Nat} {s : T.S} {w w' : World} (h : Rr l vt P s w) (hb : Below w.heap.size w w') : Rr l vt P s w' := by
  have hP := h.lt
  obtain ⟨h1, h2, h3, vs, hc, ho, h4⟩ := h
  exact ⟨h1, h2, h3.low (hb.mono (Nat.le_of_lt hP)), vs, (hb.block _ hP).trans hc, row_below ho hb, h4⟩

theorem Rr.cells {l : List T.Tk} {vt : Value} {P : Nat} {s : T.S} {w : World} (h : Rr l vt P s w) : ∃ vs, w.cell? ⟨P, 0, none⟩ = some vt ∧ w.cell? ⟨P, 1, none⟩ = some (.int .i64 (s.pl : Int)) ∧ w.cell? ⟨P, 2, none⟩ = some (.int .i64 s.site) ∧ w.cell? ⟨P, 3, none⟩ = some vs ∧ OwnSi (P + 1) vs s.sites w ∧
    (∀ j, w.frozen? ⟨P, j, none⟩ = false) := by
  obtain ⟨-, -, -, vs, hc, ho, -⟩ := h
  refine ⟨vs, ?_, ?_, ?_, ?_, ho, fun j => ?_⟩
  · rw [Lib.cell_of_heap hc]; rfl
  · rw [Lib.cell_of_heap hc]; rfl
  · rw [Lib.cell_of_heap hc]; rfl
  · rw [Lib.cell_of_heap hc]; rfl
  · simp [World.frozen?, hc]

/-- The token at a place; behind the last one: an End. -/
def tokAt (l : List T.Tk) (p : Nat) : T.Tk := l.getD p ⟨0, ⟨#[]⟩, 0, 0⟩
def tokV (t : T.Tk) : Value := .agg #[.int .i64 t.kind, .string t.text, .int .i64 t.fr, .int .i64 t.to]

end Go.Proofs.Ytgghmhgbdknkaaa
end

section
/-
  The walks of the reader's small steps: token, isSign, skip, take, fail, enter. Conditions: the reader's own variable reads as it should.
-/
namespace Go.Proofs.Ytgghmhgbdknkaaa
open Go.RowKit

theorem grownBy_cell (w : World) (b i : Nat) (v : Value) : w.grownBy (w.setCell ⟨b, i, none⟩ v) (some b) :=
  ⟨rfl, rfl, rfl, by simp [World.setCell], fun k _ hk => heap_setCell_other w ⟨b, i, none⟩ k v (by rintro rfl; exact hk rfl)⟩

/-- A new block of cells, in a world that has grown since: it reads as it was made, and nothing of it is frozen. -/
theorem new_cells {w w1 : World} {cs : Array Value} {t : TypeId} (h : Below (w.alloc (.cells cs t)).heap.size (w.alloc (.cells cs t)) w1) :
    (∀ i, w1.cell? ⟨w.heap.size, i, none⟩ = cs[i]?) ∧ (∀ i, w1.frozen? ⟨w.heap.size, i, none⟩ = false) ∧ w.heap.size < w1.heap.size := by
  have hb : w1.heap[w.heap.size]? = some (.cells cs t (0, 0)) := (h.block w.heap.size (by simp)).trans (heap_alloc_new w _)
  have hz := h.size
  simp at hz
  exact ⟨fun i => Lib.cell_of_heap hb i, fun i => Lib.frozen_of_heap hb i, by omega⟩

theorem below4 {N b : Nat} {w w' : World} (h : Below N w w') (v0 v1 v2 v3 : Value) (hb : N ≤ b := by omega) : Below N w ((((w'.setCell ⟨b, 0, none⟩ v0).setCell ⟨b, 1, none⟩ v1).setCell ⟨b, 2, none⟩ v2).setCell ⟨b, 3, none⟩ v3) :=
  (((h.setCell (p := ⟨b, 0, none⟩) hb v0).setCell (p := ⟨b, 1, none⟩) hb v1).setCell (p := ⟨b, 2, none⟩) hb v2).setCell (p := ⟨b, 3, none⟩) hb v3

set_option maxHeartbeats 2000000 in
set_option maxRecDepth 100000 in
theorem token_any {l : List T.Tk} {vt : Value} {P : Nat} {s : T.S} {w : World} (h : Rr l vt P s w) :
    Calls Try.prog 57 #[.pointer (some ⟨P, 0, none⟩)] w fun e w' => e = .returned (tokV (tokAt l s.pl)) ∧ Below w.heap.size w w' := by
  have hP := h.lt
  obtain ⟨vs, c0, c1, c2, c3, -, -⟩ := h.cells
  obtain ⟨hpl, -, hr, -⟩ := h
  obtain ⟨A, cap, rfl, hl, hcx⟩ := hr
  have HCX := hid hcx
  clear hcx
  generalize s.pl = q at *
  by_cases hlt : q < l.length
  · obtain ⟨b, o, rfl, hb, hcx⟩ := HCX.out (by rintro rfl; simp at hlt)
    obtain ⟨x0, x1, x2, x3⟩ := hcx q hlt
    have hbw : b < w.heap.size := by omega
    have HTK : Hid (tokAt l q = l[q]) := hid (by simp [tokAt, List.getD, hlt])
    have hqz : (q : Int) < (l.length : Int) := by omega
    have hqe : ((q : Int) == (l.length : Int)) = false := by simp; omega
    clear hcx
    generalize l[q] = t at *
    rw [HTK.out]
    obtain ⟨tk, tt, tf, tn⟩ := t
    clear hlt
    go_enter Try.func57, Try.ntmps57
    go_wp2
    go_quiet (fail)
    go_wp2
    obtain ⟨wd, hwd⟩ : ∃ wd, wd = ((w.alloc (.cells #[.int .i64 0, .string ⟨#[]⟩, .int .i64 0, .int .i64 0] 44)).drewN nq).drew := ⟨_, rfl⟩
    have hN : Below (w.alloc (.cells #[.int .i64 0, .string ⟨#[]⟩, .int .i64 0, .int .i64 0] 44)).heap.size (w.alloc (.cells #[.int .i64 0, .string ⟨#[]⟩, .int .i64 0, .int .i64 0] 44)) wd := by rw [hwd]; exact (below_drewN (Below.refl _ _) nq).drew
    have hB : Below w.heap.size w wd := (below_new _).trans (hN.mono (by simp))
    obtain ⟨n0, nf, nz⟩ := new_cells hN
    have d0 := (hB.cell (p := ⟨P, 0, none⟩) hP).trans c0
    have d1 := (hB.cell (p := ⟨P, 1, none⟩) hP).trans c1
    have y0 := (hB.cell (p := ⟨b, o + q * 4, none⟩) hbw).trans x0
    have y1 := (hB.cell (p := ⟨b, o + q * 4 + 1, none⟩) hbw).trans x1
    have y2 := (hB.cell (p := ⟨b, o + q * 4 + 2, none⟩) hbw).trans x2
    have y3 := (hB.cell (p := ⟨b, o + q * 4 + 3, none⟩) hbw).trans x3
    clear c0 c1 c2 c3 x0 x1 x2 x3
    refine wp_region_still_tail 10 (by kernel_rfl) (by kernel_rfl) ?_
    simp only [List.take_succ_cons, List.take_zero, List.drop_succ_cons, List.drop_zero]
    change wpStill _ _ (World.drew _) _ _ _
    rw [← hwd]
    have HWD := hid hwd
    clear hwd
    repeat still_step
    refine wpStill_nil ?_
    change wpList _ _ _ _ _ (World.drew _)
    rw [← HWD.out]
    clear hN
    have HB := hid hB
    clear hB
    go_wp2
    exact bodyPost_ret (v := .agg #[.int .i64 tk, .string tt, .int .i64 tf, .int .i64 tn]) (by simp [results, Try.results57, n0, go_sem]) rfl ⟨rfl, below4 HB.out _ _ _ _⟩
  · have hq : q = l.length := by omega
    have hqe : ((q : Int) == (l.length : Int)) = true := by simp; omega
    have HTK : Hid (tokAt l q = ⟨0, ⟨#[]⟩, 0, 0⟩) := hid (by simp [tokAt, List.getD, hlt])
    rw [HTK.out]
    clear hlt hq
    go_enter Try.func57, Try.ntmps57
    go_wp2
    go_quiet (fail)
    go_wp2
    have hN : Below (w.alloc (.cells #[.int .i64 0, .string ⟨#[]⟩, .int .i64 0, .int .i64 0] 44)).heap.size (w.alloc (.cells #[.int .i64 0, .string ⟨#[]⟩, .int .i64 0, .int .i64 0] 44)) ((w.alloc (.cells #[.int .i64 0, .string ⟨#[]⟩, .int .i64 0, .int .i64 0] 44)).drewN nq) := below_drewN (Below.refl _ _) nq
    have hB : Below w.heap.size w ((w.alloc (.cells #[.int .i64 0, .string ⟨#[]⟩, .int .i64 0, .int .i64 0] 44)).drewN nq) := (below_new _).trans (hN.mono (by simp))
    obtain ⟨n0, nf, nz⟩ := new_cells hN
    exact bodyPost_ret (v := .agg #[.int .i64 0, .string ⟨#[]⟩, .int .i64 0, .int .i64 0]) (by simp [results, Try.results57, n0, go_sem]) rfl ⟨rfl, below4 hB _ _ _ _⟩

theorem isSign_tok (l : List T.Tk) (p : Nat) (sg : ByteArray) : T.isSign l p sg = (decide ((tokAt l p).kind = 5) && decide ((tokAt l p).text = sg)) := by
  unfold T.isSign tokAt
  by_cases h : p < l.length
  · simp [List.getD, h]
  · rw [List.getElem?_eq_none (by omega)]
    simp [List.getD, h]

set_option maxHeartbeats 2000000 in
set_option maxRecDepth 100000 in
theorem isSign_any {l : List T.Tk} {vt : Value} {P : Nat} {s : T.S} {w : World} (h : Rr l vt P s w) (sg : ByteArray) :
    Calls Try.prog 47 #[.pointer (some ⟨P, 0, none⟩), .string sg] w fun e w' => e = .returned (.bool (T.isSign l s.pl sg)) ∧ Below w.heap.size w w' := by
  have HT := hid (token_any h)
  rw [isSign_tok]
  generalize tokAt l s.pl = t at *
  obtain ⟨tk, tt, tf, tn⟩ := t
  have HT2 : Hid (Calls Try.prog 57 #[.pointer (some ⟨P, 0, none⟩)] w fun e w' => e = .returned (.agg #[.int .i64 tk, .string tt, .int .i64 tf, .int .i64 tn]) ∧ Below w.heap.size w w') := HT
  clear HT
  have he := eqS tt sg
  by_cases h5 : tk = 5
  · subst h5
    by_cases hs : tt = sg
    · subst hs
      clear he
      go_enter Try.func47, Try.ntmps47
      go_wp2_with fail
      refine (HT2.out).mono ?_
      rintro e w1 ⟨rfl, h1⟩
      go_wp2
      go_ret
      exact ⟨ret_bool (by simp), h1.alloc h1.size _⟩
    · have e2 : (tt.toList == sg.toList) = false := by rw [he]; simp [hs]
      clear he
      go_enter Try.func47, Try.ntmps47
      go_wp2_with fail
      refine (HT2.out).mono ?_
      rintro e w1 ⟨rfl, h1⟩
      go_wp2
      go_ret
      exact ⟨ret_bool (by simp [hs]), h1.alloc h1.size _⟩
  · have e5 : (tk == 5) = false := by simpa using h5
    clear he
    go_enter Try.func47, Try.ntmps47
    go_wp2_with fail
    refine (HT2.out).mono ?_
    rintro e w1 ⟨rfl, h1⟩
    go_wp2
    go_ret
    exact ⟨ret_bool (by simp [h5]), h1.alloc h1.size _⟩

/-- The panic that tells what is wrong, and where. -/
def faultE (p : Nat) (e : Int) : Ending := .panicked [{ v := .iface 59 (.agg #[.int .i64 (p : Int), .int .i64 e]), recovered := false }]

set_option maxHeartbeats 2000000 in
set_option maxRecDepth 100000 in
theorem fail_any {l : List T.Tk} {vt : Value} {P : Nat} {s : T.S} {w : World} (h : Rr l vt P s w) (er : Int) :
    Calls Try.prog 60 #[.pointer (some ⟨P, 0, none⟩), .int .i64 er] w fun e w' => e = faultE s.pl er ∧ w = w' := by
  obtain ⟨vs, c0, c1, c2, c3, -, -⟩ := h.cells
  generalize s.pl = q at *
  clear h c0 c2 c3
  go_enter Try.func60, Try.ntmps60
  go_wp2
  exact ⟨rfl, rfl, rfl⟩

/-- One token is passed. -/
theorem Rr.next {l : List T.Tk} {vt : Value} {P : Nat} {s : T.S} {w : World} (h : Rr l vt P s w) (hlt : s.pl < l.length) :
    Rr l vt P ⟨s.pl + 1, s.site, s.sites⟩ (w.setCell ⟨P, 1, none⟩ (.int .i64 ((s.pl : Int) + 1))) ∧ KT P w (w.setCell ⟨P, 1, none⟩ (.int .i64 ((s.pl : Int) + 1))) := by
  have hP := h.lt
  obtain ⟨h1, h2, h3, vs, hc, ho, h4⟩ := h
  have hB : Below P w (w.setCell ⟨P, 1, none⟩ (.int .i64 ((s.pl : Int) + 1))) := (Below.refl _ _).setCell (p := ⟨P, 1, none⟩) (Nat.le_refl _) _
  refine ⟨⟨hlt, ⟨h2.1, by simp only; omega⟩, h3.low hB, vs, ?_, ?_, by simp only; omega⟩, hB, fun k _ hk hn _ => (heap_setCell_other w ⟨P, 1, none⟩ k _ hn).trans hk⟩
  · rw [heap_setCell_same w P 1 _ _ _ hc]
    simp
  · refine ho.kept (grownBy_cell w P 1 _) ?_
    rcases ho.2 with ⟨hv, _⟩ | ⟨g, cap, cur, hv, hb, hh, _⟩
    · left; rw [hv]; rfl
    · right
      rw [hv]
      simp only [Value.ownBlock, ne_eq, Option.some.injEq]
      omega

end Go.Proofs.Ytgghmhgbdknkaaa
end

section
/-
  The walks of the reader's steps that pass a token, or tell that it is offending: skip, take, enter, leaf, limit. Conditions: the reader's own variable reads as it should.
-/
namespace Go.Proofs.Ytgghmhgbdknkaaa
open Go.RowKit

def stN (s : T.S) : T.S := ⟨s.pl + 1, s.site, s.sites⟩

theorem sign_lt {l : List T.Tk} {p : Nat} {sg : ByteArray} (h : T.isSign l p sg = true) : p < l.length := by
  unfold T.isSign at h
  rcases Nat.lt_or_ge p l.length with h1 | h1
  · exact h1
  · rw [List.getElem?_eq_none h1] at h; cases h

set_option maxHeartbeats 2000000 in
set_option maxRecDepth 100000 in
theorem skip_any {l : List T.Tk} {vt : Value} {P : Nat} {s : T.S} {w : World} (h : Rr l vt P s w) (sg : ByteArray) :
    Calls Try.prog 62 #[.pointer (some ⟨P, 0, none⟩), .string sg] w fun e w' => e = .returned (.bool (T.isSign l s.pl sg)) ∧ KT P w w' ∧ Rr l vt P (if T.isSign l s.pl sg then stN s else s) w' := by
  have HS := hid (isSign_any h sg)
  have HR := hid h
  have hP := h.lt
  clear h
  cases hb : T.isSign l s.pl sg with
  | false =>
    rw [hb] at HS
    clear hb
    go_enter Try.func62, Try.ntmps62
    go_wp2_with fail
    refine (HS.out).mono ?_
    rintro e w1 ⟨rfl, h1⟩
    go_wp2
    go_ret
    exact ⟨rfl, KT.of_below h1 (Nat.le_of_lt hP), HR.out.below h1⟩
  | true =>
    rw [hb] at HS
    have HLT := hid (sign_lt hb)
    clear hb
    go_enter Try.func62, Try.ntmps62
    go_wp2_with fail
    refine (HS.out).mono ?_
    rintro e w1 ⟨rfl, h1⟩
    have HR1 := hid (HR.out.below h1)
    obtain ⟨vs, c0, c1, c2, c3, -, hf⟩ := HR1.out.cells
    have hpb : s.pl ≤ 1000000 := by have := HLT.out; obtain ⟨-, -, ⟨_, _, _, h2, _⟩, -⟩ := HR1.out; omega
    have HNX := hid (HR1.out.next HLT.out)
    have HK := hid (KT.of_below h1 (Nat.le_of_lt hP))
    clear h1
    go_wp2
    go_ret
    exact ⟨rfl, HK.out.trans HNX.out.2, HNX.out.1⟩

set_option maxHeartbeats 2000000 in
set_option maxRecDepth 100000 in
theorem take_any {l : List T.Tk} {vt : Value} {P : Nat} {s : T.S} {w : World} (h : Rr l vt P s w) (sg : ByteArray) :
    Calls Try.prog 54 #[.pointer (some ⟨P, 0, none⟩), .string sg] w fun e w' => KT P w w' ∧ ((T.isSign l s.pl sg = true ∧ e = .returned (.tuple #[]) ∧ Rr l vt P (stN s) w') ∨ (T.isSign l s.pl sg = false ∧ e = faultE s.pl 2)) := by
  have HS := hid (skip_any h sg)
  have HR := hid h
  have hP := h.lt
  clear h
  cases hb : T.isSign l s.pl sg with
  | false =>
    rw [hb] at HS
    clear hb
    go_enter Try.func54, Try.ntmps54
    go_wp2_with fail
    refine (HS.out).mono ?_
    rintro e w1 ⟨rfl, hk, hr⟩
    have HF := hid (fail_any (show Rr l vt P s w1 by simpa using hr) 2)
    have HK := hid hk
    clear hk hr
    go_wp2_with fail
    refine (HF.out).mono ?_
    rintro e w2 ⟨rfl, rfl⟩
    unfold faultE
    go_wp2
    exact ⟨rfl, HK.out, Or.inr ⟨by first | rfl | trivial, rfl⟩⟩
  | true =>
    rw [hb] at HS
    clear hb
    go_enter Try.func54, Try.ntmps54
    go_wp2_with fail
    refine (HS.out).mono ?_
    rintro e w1 ⟨rfl, hk, hr⟩
    have HK := hid hk
    have HRR := hid (show Rr l vt P (stN s) w1 by simpa using hr)
    clear hk hr
    go_wp2
    go_end0
    exact ⟨HK.out, Or.inl ⟨by first | rfl | trivial, rfl, HRR.out⟩⟩

set_option maxHeartbeats 2000000 in
set_option maxRecDepth 100000 in
theorem enter_any {l : List T.Tk} {vt : Value} {P : Nat} {s : T.S} {w : World} (h : Rr l vt P s w) (lv : Int) (h0 : 0 ≤ lv) (hpl : lv < 100 → s.pl < l.length) :
    Calls Try.prog 49 #[.pointer (some ⟨P, 0, none⟩), .int .i64 lv] w fun e w' => KT P w w' ∧ ((lv < 100 ∧ e = .returned (.int .i64 (lv + 1)) ∧ Rr l vt P (stN s) w') ∨ (100 ≤ lv ∧ e = faultE s.pl 4)) := by
  have hP := h.lt
  have HR := hid h
  by_cases hl : lv < 100
  · obtain ⟨vs, c0, c1, c2, c3, -, hf⟩ := h.cells
    have hpb : s.pl ≤ 1000000 := by have := hpl hl; obtain ⟨-, -, ⟨_, _, _, h2, _⟩, -⟩ := HR.out; omega
    have HNX := hid (HR.out.next (hpl hl))
    clear h hpl
    go_enter Try.func49, Try.ntmps49
    go_wp2
    go_ret
    exact ⟨HNX.out.2, Or.inl ⟨hl, rfl, HNX.out.1⟩⟩
  · have HF := hid (fail_any h 4)
    have hl2 : 100 ≤ lv := by omega
    clear h hpl
    go_enter Try.func49, Try.ntmps49
    go_wp2_with fail
    refine (HF.out).mono ?_
    rintro e w2 ⟨rfl, rfl⟩
    unfold faultE
    go_wp2
    exact ⟨rfl, KT.refl _ _, Or.inr ⟨hl2, rfl⟩⟩

end Go.Proofs.Ytgghmhgbdknkaaa
end

section
/-
  The walks of leaf, limit, kindOf and basic. Conditions: the reader's own variable reads as it should.
-/
namespace Go.Proofs.Ytgghmhgbdknkaaa
open Go.RowKit

/-- A tree that is not beyond the limits. -/
def Fits (t : T.Tr) : Prop := t.nodes ≤ 10000 ∧ t.deep ≤ 100
/-- The value of a tree: its nodes in a row of the call's own, if it is not beyond the limits; how many, how deep. -/
def TrV (B : Nat) (t : T.Tr) (v : Value) (w : World) : Prop := (Fits t → Own B v t.flat w) ∧ (¬ Fits t → v = .slice none 0 0)
def trV (t : T.Tr) (v : Value) : Value := .agg #[v, .int .i64 (t.nodes : Int), .int .i64 (t.deep : Int)]

theorem Own.kt {P : Nat} {v : Value} {l : List L.Nd} {w w' : World} (h : Own (P + 1) v l w) (hk : KT P w w') : Own (P + 1) v l w' := by
  refine ⟨h.1, h.2.imp id fun ⟨g, cap, cur, h1, h2, h3, h4⟩ => ⟨g, cap, cur, h1, h2, ?_, h4⟩⟩
  exact hk.2 g _ h3 (by omega) (by intro c fz he; injection he with _ h5; exact absurd h5 (by decide))
theorem TrV.kt {P : Nat} {t : T.Tr} {v : Value} {w w' : World} (h : TrV (P + 1) t v w) (hk : KT P w w') : TrV (P + 1) t v w' := ⟨fun hf => (h.1 hf).kt hk, h.2⟩

set_option maxHeartbeats 2000000 in
set_option maxRecDepth 100000 in
theorem limit_any (v : Value) (n d : Int) (w : World) :
    Calls Try.prog 39 #[.agg #[v, .int .i64 n, .int .i64 d]] w fun e w' => e = .returned (.int .i64 (if 10000 < n then 3 else if 100 < d then 4 else 0)) ∧ Below w.heap.size w w' := by
  by_cases h1 : 10000 < n
  · rw [if_pos h1]
    go_enter Try.func39, Try.ntmps39
    go_wp2
    go_ret
    exact ⟨rfl, below_new _⟩
  · rw [if_neg h1]
    by_cases h2 : 100 < d
    · rw [if_pos h2]
      go_enter Try.func39, Try.ntmps39
      go_wp2
      go_ret
      exact ⟨rfl, below_new _⟩
    · rw [if_neg h2]
      go_enter Try.func39, Try.ntmps39
      go_wp2
      go_ret
      exact ⟨rfl, below_new _⟩

theorem below3 {N b : Nat} {w w' : World} (h : Below N w w') (v0 v1 v2 : Value) (hb : N ≤ b := by omega) : Below N w (((w'.setCell ⟨b, 0, none⟩ v0).setCell ⟨b, 1, none⟩ v1).setCell ⟨b, 2, none⟩ v2) :=
  ((h.setCell (p := ⟨b, 0, none⟩) hb v0).setCell (p := ⟨b, 1, none⟩) hb v1).setCell (p := ⟨b, 2, none⟩) hb v2

set_option maxHeartbeats 2000000 in
set_option maxRecDepth 100000 in
theorem leaf_any (k n : Int) (w : World) :
    Calls Try.prog 61 #[.agg #[.int .i64 k, .string ⟨#[]⟩, .int .i64 n]] w fun e w' => ∃ v, e = .returned (trV (T.leafT k n) v) ∧ TrV w.heap.size (T.leafT k n) v w' ∧ Below w.heap.size w w' := by
  go_enter Try.func61, Try.ntmps61
  go_wp2
  refine bodyPost_ret (v := .agg #[.slice (some ⟨w.heap.size + 1 + 1, 0, none⟩) 1 1, .int .i64 1, .int .i64 1]) (by simp [results, Try.results61, go_sem]) rfl ⟨.slice (some ⟨w.heap.size + 1 + 1, 0, none⟩) 1 1, rfl, ⟨fun _ => ?_, fun hn => absurd ⟨by simp [T.Tr.nodes, T.leafT, L.Fo.flat], by simp [T.Tr.deep, T.leafT, L.Fo.deep]⟩ hn⟩, ((below_new _).alloc (by simp) _).alloc (by simp; omega) _⟩
  have := lit_own ((w.alloc (.cells #[.int .i64 k, .string ⟨#[]⟩, .int .i64 n] 28)).alloc (.cells #[.slice (some ⟨w.heap.size + 1 + 1, 0, none⟩) 1 1, .int .i64 1, .int .i64 1] 73)) w.heap.size (by simp; omega) k n ⟨#[]⟩
  show Own w.heap.size (.slice (some ⟨w.heap.size + 1 + 1, 0, none⟩) 1 1) [⟨k, ⟨#[]⟩, n⟩] _
  simpa using this

theorem ret_tup2 {a b : Int} {c d : Bool} (h : a = b) (h2 : c = d) : Ending.returned (.tuple #[.int .i64 a, .bool c]) = .returned (.tuple #[.int .i64 b, .bool d]) := by rw [h, h2]

set_option maxHeartbeats 2000000 in
set_option maxRecDepth 100000 in
theorem kindOf_any (t : T.Tk) (w : World) :
    Calls Try.prog 64 #[tokV t] w fun e w' => e = .returned (.tuple #[.int .i64 (if T.baseK t < 0 then 0 else T.baseK t), .bool (decide (0 ≤ T.baseK t))]) ∧ Below w.heap.size w w' := by
  obtain ⟨tk, tt, tf, tn⟩ := t
  unfold tokV
  by_cases h6 : tk = 6
  · subst h6
    have e1 := eqS tt ⟨#[105, 110, 116]⟩
    rw [show (⟨#[105, 110, 116]⟩ : ByteArray).toList = [105, 110, 116] by first | rfl | (simp; done) | decide] at e1
    have e2 := eqS tt ⟨#[98, 111, 111, 108]⟩
    rw [show (⟨#[98, 111, 111, 108]⟩ : ByteArray).toList = [98, 111, 111, 108] by first | rfl | (simp; done) | decide] at e2
    have e3 := eqS tt ⟨#[115, 116, 114, 105, 110, 103]⟩
    rw [show (⟨#[115, 116, 114, 105, 110, 103]⟩ : ByteArray).toList = [115, 116, 114, 105, 110, 103] by first | rfl | (simp; done) | decide] at e3
    have e4 := eqS tt ⟨#[117, 110, 105, 116]⟩
    rw [show (⟨#[117, 110, 105, 116]⟩ : ByteArray).toList = [117, 110, 105, 116] by first | rfl | (simp; done) | decide] at e4
    by_cases h1 : tt = ⟨#[105, 110, 116]⟩
    · have HB : Hid (T.baseK ⟨6, tt, tf, tn⟩ = 1) := hid (by simp [T.baseK, h1])
      rw [HB.out]
      rw [decide_eq_true h1] at e1
      clear h1 e2 e3 e4
      go_enter Try.func64, Try.ntmps64
      go_wp2
      go_ret2
      exact ⟨rfl, below_new _⟩
    by_cases h2 : tt = ⟨#[98, 111, 111, 108]⟩
    · have HB : Hid (T.baseK ⟨6, tt, tf, tn⟩ = 2) := hid (by simp [T.baseK, h2])
      rw [HB.out]
      rw [decide_eq_false h1] at e1
      rw [decide_eq_true h2] at e2
      clear h1 h2 e3 e4
      go_enter Try.func64, Try.ntmps64
      go_wp2
      go_ret2
      exact ⟨rfl, below_new _⟩
    by_cases h3 : tt = ⟨#[115, 116, 114, 105, 110, 103]⟩
    · have HB : Hid (T.baseK ⟨6, tt, tf, tn⟩ = 3) := hid (by simp [T.baseK, h3])
      rw [HB.out]
      rw [decide_eq_false h1] at e1
      rw [decide_eq_false h2] at e2
      rw [decide_eq_true h3] at e3
      clear h1 h2 h3 e4
      go_enter Try.func64, Try.ntmps64
      go_wp2
      go_ret2
      exact ⟨rfl, below_new _⟩
    by_cases h4 : tt = ⟨#[117, 110, 105, 116]⟩
    · have HB : Hid (T.baseK ⟨6, tt, tf, tn⟩ = 4) := hid (by simp [T.baseK, h4])
      rw [HB.out]
      rw [decide_eq_false h1] at e1
      rw [decide_eq_false h2] at e2
      rw [decide_eq_false h3] at e3
      rw [decide_eq_true h4] at e4
      clear h1 h2 h3 h4
      go_enter Try.func64, Try.ntmps64
      go_wp2
      go_ret2
      exact ⟨rfl, below_new _⟩
    have HB : Hid (T.baseK ⟨6, tt, tf, tn⟩ = -1) := hid (by simp [T.baseK, h1, h2, h3, h4])
    rw [HB.out]
    rw [decide_eq_false h1] at e1
    rw [decide_eq_false h2] at e2
    rw [decide_eq_false h3] at e3
    rw [decide_eq_false h4] at e4
    clear h1 h2 h3 h4
    go_enter Try.func64, Try.ntmps64
    go_wp2
    go_ret2
    exact ⟨rfl, below_new _⟩
  · have e6 : (tk != 6) = true := by simpa using h6
    have HB : Hid (T.baseK ⟨tk, tt, tf, tn⟩ = -1) := hid (by simp [T.baseK, h6])
    rw [HB.out]
    clear h6
    go_enter Try.func64, Try.ntmps64
    go_wp2
    go_ret2
    exact ⟨rfl, below_new _⟩

end Go.Proofs.Ytgghmhgbdknkaaa
end

section
/-
  What stays where a result is laid into its own variable; the walk of basic. Conditions: the reader's own variable reads as it should.
-/
namespace Go.Proofs.Ytgghmhgbdknkaaa
open Go.RowKit

theorem row_put {B N : Nat} {T T2 : TypeId} {s n : Nat} {v : Value} {c : List Value} {c2 : Array Value} {fr : Nat × Nat} {w w' : World} (h : w.ownsRow B T s v n c) (hN : w.heap[N]? = some (.cells c2 T2 fr)) (hT : T ≠ T2) (hg : w.grownBy w' (some N)) : w'.ownsRow B T s v n c := by
  refine h.kept hg ?_
  rcases h.2 with ⟨hv, _⟩ | ⟨g, cap, cur, hv, _, hh, _⟩
  · left; rw [hv]; rfl
  · right
    rw [hv]
    simp only [Value.ownBlock, ne_eq, Option.some.injEq]
    rintro rfl
    rw [hh] at hN
    injection hN with hN
    injection hN with _ h2
    exact hT h2

theorem KT.put {P N : Nat} {w0 w w' : World} (h : KT P w0 w) (hN : w0.heap.size ≤ N) (hP : P ≤ w0.heap.size) (hg : w.grownBy w' (some N)) : KT P w0 w' :=
  ⟨h.1.grown hg (Nat.le_trans hP h.1.size) (fun k hk => by injection hk with hk; omega), fun k o hk h1 h2 => (hg.block k (heap_lt (h.2 k o hk h1 h2)) (by have := heap_lt hk; simp; omega)).trans (h.2 k o hk h1 h2)⟩

theorem Rr.put {l : List T.Tk} {vt : Value} {P N : Nat} {s : T.S} {T2 : TypeId} {c2 : Array Value} {fr : Nat × Nat} {w w' : World} (h : Rr l vt P s w) (hPN : P < N) (hN : w.heap[N]? = some (.cells c2 T2 fr)) (hT : 41 ≠ T2) (hg : w.grownBy w' (some N)) : Rr l vt P s w' := by
  have hP := h.lt
  obtain ⟨h1, h2, h3, vs, hc, ho, h4⟩ := h
  have hB : Below P w w' := (Below.refl _ _).grown hg (Nat.le_of_lt hP) (fun k hk => by injection hk with hk; omega)
  exact ⟨h1, h2, h3.low hB, vs, (hg.block P hP (by simp; omega)).trans hc, row_put ho hN hT hg, h4⟩

theorem TrV.slice {B : Nat} {t : T.Tr} {v : Value} {w : World} (h : TrV B t v w) : ∃ A n c, v = .slice A n c := by
  by_cases hf : Fits t
  · obtain ⟨A, c, hv, -⟩ := (h.1 hf).rd
    exact ⟨A, _, c, hv⟩
  · exact ⟨none, 0, 0, h.2 hf⟩

/-- Three cells of one block are laid. -/
def put3 (w : World) (N : Nat) (a b c : Value) : World := ((w.setCell ⟨N, 0, none⟩ a).setCell ⟨N, 1, none⟩ b).setCell ⟨N, 2, none⟩ c
theorem put3_grown (w : World) (N : Nat) (a b c : Value) : w.grownBy (put3 w N a b c) (some N) :=
  grown_trans (grown_trans (grownBy_cell _ N 0 a) (grownBy_cell _ N 1 b)) (grownBy_cell _ N 2 c)

theorem tokAt_end {l : List T.Tk} {p : Nat} (h : 0 ≤ T.baseK (tokAt l p)) : p < l.length := by
  rcases Nat.lt_or_ge p l.length with h1 | h1
  · exact h1
  · exfalso
    have : tokAt l p = ⟨0, ⟨#[]⟩, 0, 0⟩ := by simp [tokAt, List.getD, List.getElem?_eq_none h1]
    rw [this] at h
    simp [T.baseK] at h

set_option maxHeartbeats 4000000 in
set_option maxRecDepth 100000 in
theorem basic_any {l : List T.Tk} {vt : Value} {P : Nat} {s : T.S} {w : World} (h : Rr l vt P s w) :
    Calls Try.prog 56 #[.pointer (some ⟨P, 0, none⟩)] w fun e w' => KT P w w' ∧
      ((T.baseK (tokAt l s.pl) < 0 ∧ e = faultE s.pl 2) ∨ (0 ≤ T.baseK (tokAt l s.pl) ∧ ∃ v, e = .returned (trV (T.leafT (T.baseK (tokAt l s.pl)) 0) v) ∧ TrV (P + 1) (T.leafT (T.baseK (tokAt l s.pl)) 0) v w' ∧ Rr l vt P (stN s) w')) := by
  have hP := h.lt
  have HR := hid (h.below (below_new (.cells #[.slice none 0 0, .int .i64 0, .int .i64 0] 73)))
  have HT := hid (token_any HR.out)
  have HLT := hid (fun h0 : 0 ≤ T.baseK (tokAt l s.pl) => tokAt_end h0)
  clear h
  generalize tokAt l s.pl = t at *
  have HK := hid (fun w => kindOf_any t w)
  generalize T.baseK t = bk at *
  obtain ⟨w0, hw0⟩ : ∃ w0, w0 = w.alloc (.cells #[.slice none 0 0, .int .i64 0, .int .i64 0] 73) := ⟨_, rfl⟩
  rw [← hw0] at HR HT
  have hb0 : Below w.heap.size w w0 := by rw [hw0]; exact below_new _
  have hN0 : w0.heap[w.heap.size]? = some (.cells #[.slice none 0 0, .int .i64 0, .int .i64 0] 73 (0, 0)) := by rw [hw0]; exact heap_alloc_new w _
  have HW := hid hw0
  have HB0 := hid hb0
  have HN0 := hid hN0
  clear hw0 hb0 hN0
  go_enter Try.func56, Try.ntmps56
  go_wp2_with (go_at_call 57; rw [← HW.out]; refine (HT.out).mono ?_; rintro e w1 ⟨rfl, h1⟩)
  have HB1 := hid (HB0.out.trans (h1.mono HB0.out.size))
  have HN1 := hid ((h1.block _ (heap_lt HN0.out)).trans HN0.out)
  have HR1 := hid (HR.out.below h1)
  clear h1
  refine (HK.out _).mono ?_
  rintro e w2 ⟨rfl, h2⟩
  have HB2 := hid (HB1.out.trans (h2.mono HB1.out.size))
  have HN2 := hid ((h2.block _ (heap_lt HN1.out)).trans HN1.out)
  have HR2 := hid (HR1.out.below h2)
  clear h2 HR HR1 HN0 HN1 HB1 HT HK
  by_cases hb : bk < 0
  · have hb2 : (decide (0 ≤ bk)) = false := by simp; omega
    have HF := hid (fail_any HR2.out 2)
    have HKT := hid (KT.of_below HB2.out (Nat.le_of_lt hP))
    go_wp2_with fail
    refine (HF.out).mono ?_
    rintro e w3 ⟨rfl, rfl⟩
    unfold faultE
    go_wp2
    exact ⟨rfl, HKT.out, Or.inl ⟨by first | exact hb | trivial, rfl⟩⟩
  · have hb0 : 0 ≤ bk := by omega
    have hb2 : (decide (0 ≤ bk)) = true := by simp; omega
    have HPL := hid (HLT.out hb0)
    obtain ⟨vs, c0, c1, c2, c3, -, hf⟩ := HR2.out.cells
    have hpb : s.pl ≤ 1000000 := by have := HPL.out; obtain ⟨-, -, ⟨_, _, _, h2, _⟩, -⟩ := HR2.out; omega
    have HNX := hid (HR2.out.next HPL.out)
    have HLF := hid (fun w => leaf_any bk 0 w)
    have hPN : P < w.heap.size := hP
    go_wp2_with fail
    refine (HLF.out _).mono ?_
    rintro e w3 ⟨v, rfl, hv, h3⟩
    obtain ⟨Av, nv, cv, rfl⟩ := hv.slice
    have hz2 := HNX.out.2.1.size
    have HR3 := hid (HNX.out.1.below h3)
    have HK3 := hid (((KT.of_below HB2.out (Nat.le_of_lt hP)).trans HNX.out.2).trans (KT.of_below h3 (Nat.le_of_lt HNX.out.1.lt)))
    have HN2b : Hid ((w2.setCell ⟨P, 1, none⟩ (.int .i64 ((s.pl : Int) + 1))).heap[w.heap.size]? = some (.cells #[.slice none 0 0, .int .i64 0, .int .i64 0] 73 (0, 0))) := hid ((heap_setCell_other w2 ⟨P, 1, none⟩ _ _ (by simp; omega)).trans HN2.out)
    have HN3 := hid ((h3.block _ (heap_lt HN2b.out)).trans HN2b.out)
    have hc : ∀ i, w3.cell? ⟨w.heap.size, i, none⟩ = #[Value.slice none 0 0, .int .i64 0, .int .i64 0][i]? := fun i => Lib.cell_of_heap HN3.out i
    have hz : ∀ i, w3.frozen? ⟨w.heap.size, i, none⟩ = false := fun i => Lib.frozen_of_heap HN3.out i
    have HV : Hid (TrV (P + 1) (T.leafT bk 0) (.slice Av nv cv) w3) := hid ⟨fun hf => (hv.1 hf).more (by have := HNX.out.1.lt; omega), hv.2⟩
    have hg := put3_grown w3 w.heap.size (.slice Av nv cv) (.int .i64 1) (.int .i64 1)
    have HG := hid hg
    rw [show trV (T.leafT bk 0) (.slice Av nv cv) = .agg #[.slice Av nv cv, .int .i64 1, .int .i64 1] from rfl]
    clear hg hv h3 c0 c1 c2 c3 hf HNX
    go_wp2
    refine bodyPost_ret (v := .agg #[.slice Av nv cv, .int .i64 1, .int .i64 1]) ?_ rfl ?_
    · simp [results, Try.results56, hc, go_sem]
    · exact ⟨HK3.out.put (Nat.le_refl _) (Nat.le_of_lt hP) HG.out, Or.inr ⟨by first | exact hb0 | trivial, _, rfl, ⟨fun hf => row_put (HV.out.1 hf) HN3.out (by decide) HG.out, HV.out.2⟩, HR3.out.put hP HN3.out (by decide) HG.out⟩⟩

end Go.Proofs.Ytgghmhgbdknkaaa
end

section
/-
  The walks of slices.Contains at texts, isLabel and label. Conditions: the reader's own variable reads as it should; texts of tokens of at most 2000000 bytes.
-/
namespace Go.Proofs.Ytgghmhgbdknkaaa
open Go.RowKit

theorem any_eq (ss : List ByteArray) (t : ByteArray) (i : Nat) (h : i < ss.length) : (ss.drop i).any (fun x => decide (x = t)) = (decide (ss[i] = t) || (ss.drop (i + 1)).any (fun x => decide (x = t))) := by
  rw [List.drop_eq_getElem_cons h, List.any_cons]

set_option maxHeartbeats 2000000 in
set_option maxRecDepth 100000 in
theorem indexT_any (ss : List ByteArray) (t : ByteArray) (hn : ss.length ≤ 1000) (v : Value) (w : World) (hx : RdS w w.heap.size v ss) :
    Calls Try.prog 82 #[v, .string t] w fun e w' => ∃ z : Int, e = .returned (.int .i64 z) ∧ (decide (0 ≤ z) = ss.any (fun x => decide (x = t))) ∧ w = w' := by
  have HX := hid hx
  obtain ⟨A, cap, rfl, -⟩ := hx
  go_enter Try.func82, Try.ntmps82
  go_wp2
  go_loopw [8] (fun vi wr => ∃ i : Nat, vi = .int .i64 i ∧ i ≤ ss.length ∧ w = wr ∧ Hid ((ss.drop i).any (fun x => decide (x = t)) = ss.any (fun x => decide (x = t)))) (fun vi _ => ss.length - (intOf vi).toNat)
  case atStart => exact ⟨0, rfl, by omega, rfl, hid rfl⟩
  case round =>
    obtain ⟨i, rfl, hi, rfl, hE⟩ := hrel
    by_cases hlt : i < ss.length
    · obtain ⟨b, o, hA, hb, hcx⟩ : ∃ b o, A = some ⟨b, o, none⟩ ∧ b < w.heap.size ∧ ∀ (i : Nat) (h : i < ss.length), w.cell? ⟨b, o + i, none⟩ = some (.string ss[i]) := by
        obtain ⟨A', c', hv, hc⟩ := HX.out
        simp only [Value.slice.injEq, true_and] at hv
        obtain ⟨rfl, -⟩ := hv
        exact hc (by rintro rfl; simp at hlt)
      subst hA
      have c0 := hcx i hlt
      have hz : (i : Int) < (ss.length : Int) := by omega
      have HS := hid (any_eq ss t i hlt)
      clear hcx
      generalize ss[i] = x at *
      have he := eqS t x
      by_cases hq : x = t
      · subst hq
        have HE2 : Hid (ss.any (fun y => decide (y = x)) = true) := hid (by rw [← hE.out, HS.out]; simp)
        clear he
        go_wp2
        go_ret
        exact ⟨_, rfl, by rw [HE2.out]; simp, rfl⟩
      · have e2 : (t.toList == x.toList) = false := by rw [he]; simp only [decide_eq_false_iff_not]; exact fun h => hq h.symm
        have HE2 : Hid ((ss.drop (i + 1)).any (fun y => decide (y = t)) = ss.any (fun y => decide (y = t))) := hid (by rw [← hE.out, HS.out]; simp [hq])
        clear he
        go_wp2
        go_roundw
        case rel => exact ⟨i + 1, by go_num, by omega, by first | rfl | trivial, HE2⟩
        case measure => simp [intOf]; omega
    · obtain rfl : i = ss.length := by omega
      have HE2 : Hid (ss.any (fun x => decide (x = t)) = false) := hid (by rw [← hE.out]; simp)
      go_wp2
      go_ret
      exact ⟨-1, rfl, by rw [HE2.out]; rfl, rfl⟩

set_option maxHeartbeats 2000000 in
set_option maxRecDepth 100000 in
theorem containsT_any (ss : List ByteArray) (t : ByteArray) (hn : ss.length ≤ 1000) (v : Value) (w : World) (hx : RdS w w.heap.size v ss) :
    Calls Try.prog 70 #[v, .string t] w fun e w' => e = .returned (.bool (ss.any (fun x => decide (x = t)))) ∧ w = w' := by
  have HI := hid (indexT_any ss t hn v w hx)
  obtain ⟨A, cap, rfl, -⟩ := hx
  go_enter Try.func70, Try.ntmps70
  go_wp2_with fail
  refine (HI.out).mono ?_
  rintro e w1 ⟨z, rfl, hz, rfl⟩
  go_wp2
  go_ret
  exact ⟨ret_bool (by first | rfl | exact hz), rfl⟩

/-- Is a token a label of a row of this kind? -/
def isLabT (kind : Int) (t : T.Tk) : Bool := decide (t.kind = (if kind = 6 then 1 else 2)) && (if kind = 6 then nameB 97 122 t.text else nameB 65 90 t.text)

set_option maxHeartbeats 2000000 in
set_option maxRecDepth 100000 in
theorem isLabelT_any (kind : Int) (t : T.Tk) (hs : t.text.size ≤ 2000000) (w : World) :
    Calls Try.prog 69 #[.int .i64 kind, tokV t] w fun e w' => e = .returned (.bool (isLabT kind t)) ∧ Below w.heap.size w w' := by
  obtain ⟨tk, tt, tf, tn⟩ := t
  unfold tokV isLabT
  simp only
  have HW := hid (fun w => isWord_any tt hs w)
  have HG := hid (fun w => isTag_any tt hs w)
  by_cases h6 : kind = 6
  · subst h6
    by_cases h1 : tk = 1
    · subst h1
      go_enter Try.func69, Try.ntmps69
      go_wp2_with fail
      refine (HW.out _).mono ?_
      rintro e w1 ⟨rfl, h1⟩
      go_wp2
      go_ret
      exact ⟨ret_bool (by simp), (below_new _).trans (h1.mono (by simp))⟩
    · have e1 : (tk == 1) = false := by simpa using h1
      go_enter Try.func69, Try.ntmps69
      go_wp2
      go_ret
      exact ⟨ret_bool (by simp), below_new _⟩
  · have e6 : (kind == 6) = false := by simpa using h6
    by_cases h2 : tk = 2
    · subst h2
      go_enter Try.func69, Try.ntmps69
      go_wp2_with fail
      refine (HG.out _).mono ?_
      rintro e w1 ⟨rfl, h1⟩
      go_wp2
      go_ret
      exact ⟨ret_bool (by simp), (below_new _).trans (h1.mono (by simp))⟩
    · have e2 : (tk == 2) = false := by simpa using h2
      go_enter Try.func69, Try.ntmps69
      go_wp2
      go_ret
      exact ⟨ret_bool (by simp), below_new _⟩

end Go.Proofs.Ytgghmhgbdknkaaa
end

section
/-
  The walk of label. Conditions: the reader's own variable reads as it should; a token's text of at most 2000000 bytes; at most 1000 labels ahead.
-/
namespace Go.Proofs.Ytgghmhgbdknkaaa
open Go.RowKit

theorem tokAt_lab {l : List T.Tk} {p : Nat} {k : Int} (h : isLabT k (tokAt l p) = true) : p < l.length := by
  rcases Nat.lt_or_ge p l.length with h1 | h1
  · exact h1
  · exfalso
    have : tokAt l p = ⟨0, ⟨#[]⟩, 0, 0⟩ := by simp [tokAt, List.getD, List.getElem?_eq_none h1]
    rw [this] at h
    unfold isLabT at h
    split at h <;> simp at h

/-- What label tells. -/
def LabelPost (l : List T.Tk) (vt : Value) (P : Nat) (s : T.S) (kind : Int) (ss : List ByteArray) (w : World) (e : Ending) (w' : World) : Prop :=
  KT P w w' ∧ ((isLabT kind (tokAt l s.pl) = false ∧ e = faultE s.pl 2) ∨
    (isLabT kind (tokAt l s.pl) = true ∧ ss.any (fun x => decide (x = (tokAt l s.pl).text)) = true ∧ e = faultE s.pl 7) ∨
    (isLabT kind (tokAt l s.pl) = true ∧ ss.any (fun x => decide (x = (tokAt l s.pl).text)) = false ∧ ss.length = 50 ∧ e = faultE s.pl 3) ∨
    (isLabT kind (tokAt l s.pl) = true ∧ ss.any (fun x => decide (x = (tokAt l s.pl).text)) = false ∧ ss.length ≠ 50 ∧ e = .returned (.string (tokAt l s.pl).text) ∧ Rr l vt P (stN s) w'))

set_option maxHeartbeats 4000000 in
set_option maxRecDepth 100000 in
theorem label_any {l : List T.Tk} {vt : Value} {P : Nat} {s : T.S} {w : World} (h : Rr l vt P s w) (kind : Int) (ss : List ByteArray) (hn : ss.length ≤ 1000) (vs : Value) (hx : RdS w w.heap.size vs ss) (hts : (tokAt l s.pl).text.size ≤ 2000000) :
    Calls Try.prog 63 #[.pointer (some ⟨P, 0, none⟩), .int .i64 kind, vs] w (LabelPost l vt P s kind ss w) := by
  have hP := h.lt
  have HR := hid h
  have HX := hid hx
  have HT := hid (token_any h)
  have HIL := hid (fun w => isLabelT_any kind (tokAt l s.pl) hts w)
  have HLT := hid (fun h0 : isLabT kind (tokAt l s.pl) = true => tokAt_lab h0)
  obtain ⟨A, cap, rfl, -⟩ := hx
  clear h
  obtain ⟨t, ht⟩ : ∃ t, t = tokAt l s.pl := ⟨_, rfl⟩
  rw [← ht] at HT HIL HLT hts
  have HTK := hid ht
  clear ht
  obtain ⟨tk, tt, tf, tn⟩ := t
  have HT2 : Hid (Calls Try.prog 57 #[.pointer (some ⟨P, 0, none⟩)] w fun e w' => e = .returned (.agg #[.int .i64 tk, .string tt, .int .i64 tf, .int .i64 tn]) ∧ Below w.heap.size w w') := HT
  have HIL2 : Hid (∀ w, Calls Try.prog 69 #[.int .i64 kind, .agg #[.int .i64 tk, .string tt, .int .i64 tf, .int .i64 tn]] w fun e w' => e = .returned (.bool (isLabT kind ⟨tk, tt, tf, tn⟩)) ∧ Below w.heap.size w w') := HIL
  obtain ⟨b1, hb1⟩ : ∃ b1, isLabT kind ⟨tk, tt, tf, tn⟩ = b1 := ⟨_, rfl⟩
  rw [hb1] at HIL2 HLT
  have HBE := hid hb1
  clear HT HIL hts hb1
  go_enter Try.func63, Try.ntmps63
  go_wp2_with fail
  refine (HT2.out).mono ?_
  rintro e w1 ⟨rfl, h1⟩
  have hm := heap_alloc_new w1 (.cells #[.int .i64 tk, .string tt, .int .i64 tf, .int .i64 tn] 44)
  have HM := hid hm
  have HB1 := hid h1
  have HBA := hid (h1.alloc h1.size (.cells #[.int .i64 tk, .string tt, .int .i64 tf, .int .i64 tn] 44))
  have HPW : Hid (P < w1.heap.size) := hid (Nat.lt_of_lt_of_le hP h1.size)
  clear h1 HT2 hm
  go_wp2_with fail
  refine (HIL2.out _).mono ?_
  rintro e w2 ⟨rfl, h2⟩
  have HB2 := hid (HBA.out.trans (h2.mono HBA.out.size))
  have hm2 := (h2.block _ (heap_lt HM.out)).trans HM.out
  have m1 : w2.cell? ⟨w1.heap.size, 1, none⟩ = some (.string tt) := Lib.cell_of_heap hm2 1
  have M1 := hid m1
  have HK2 := hid (KT.of_below HB2.out (Nat.le_of_lt hP))
  have HR2 := hid (HR.out.below HB2.out)
  clear h2 hm2 HBA HB1 HIL2
  cases b1 with
  | false =>
    have HF := hid (fail_any HR2.out 2)
    go_wp2_with fail
    refine (HF.out).mono ?_
    rintro e w3 ⟨rfl, rfl⟩
    unfold faultE
    go_wp2
    refine ⟨rfl, ?_⟩
    unfold LabelPost
    rw [← HTK.out]
    exact ⟨HK2.out, Or.inl ⟨HBE.out, rfl⟩⟩
  | true =>
    have HPL := hid (HLT.out rfl)
    have HCT := hid (containsT_any ss tt hn _ w2 (HX.out.below HB2.out))
    go_wp2_with fail
    refine (HCT.out).mono ?_
    rintro e w3 ⟨rfl, rfl⟩
    obtain ⟨b2, hb2⟩ : ∃ b2, ss.any (fun x => decide (x = tt)) = b2 := ⟨_, rfl⟩
    have HAE := hid hb2
    rw [hb2]
    clear hb2
    cases b2 with
    | true =>
      have HF := hid (fail_any HR2.out 7)
      go_wp2_with fail
      refine (HF.out).mono ?_
      rintro e w3 ⟨rfl, rfl⟩
      unfold faultE
      go_wp2
      refine ⟨rfl, ?_⟩
      unfold LabelPost
      rw [← HTK.out]
      exact ⟨HK2.out, Or.inr (Or.inl ⟨HBE.out, HAE.out, rfl⟩)⟩
    | false =>
      by_cases h50 : ss.length = 50
      · have e50 : ((ss.length : Int) == 50) = true := by rw [h50]; rfl
        have HF := hid (fail_any HR2.out 3)
        have H50 := hid h50
        clear h50
        go_wp2_with fail
        refine (HF.out).mono ?_
        rintro e w3 ⟨rfl, rfl⟩
        unfold faultE
        go_wp2
        refine ⟨rfl, ?_⟩
        unfold LabelPost
        rw [← HTK.out]
        exact ⟨HK2.out, Or.inr (Or.inr (Or.inl ⟨HBE.out, HAE.out, H50.out, rfl⟩))⟩
      · have e50 : ((ss.length : Int) == 50) = false := by simp; omega
        obtain ⟨us, c0, c1, c2, c3, -, hf⟩ := HR2.out.cells
        have hpb : s.pl ≤ 1000000 := by have := HPL.out; obtain ⟨-, -, ⟨_, _, _, h2, _⟩, -⟩ := HR2.out; omega
        have HNX := hid (HR2.out.next HPL.out)
        have hPw1 : P < w1.heap.size := HPW.out
        have H50 := hid h50
        clear h50
        go_wp2
        go_ret
        unfold LabelPost
        rw [← HTK.out]
        exact ⟨HK2.out.trans HNX.out.2, Or.inr (Or.inr (Or.inr ⟨HBE.out, HAE.out, H50.out, rfl, HNX.out.1⟩))⟩

end Go.Proofs.Ytgghmhgbdknkaaa
end
