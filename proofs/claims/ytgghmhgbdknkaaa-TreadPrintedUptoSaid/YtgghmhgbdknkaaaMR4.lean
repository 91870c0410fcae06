/-
  The texts TrTk, TrLv, TrTo, one behind the other. Conditions: those that each of them names.
-/
import Derived.Test.YtgghmhgbdknkaaaMR2
import Derived.Test.YtgghmhgbdknkaaaMX2
import Derived.Test.YtgghmhgbdknkaaaM5
import Derived.Test.YtgghmhgbdknkaaaMR3
section
/-
  Rows of tokens of the call's own, as the reader of types reads them; the walk of Sites. Conditions: at most 1000000 tokens.
-/
namespace Go.Proofs.Ytgghmhgbdknkaaa
open Go.RowKit

def tkOf (x : X.L.Tok) : T.Tk := ⟨(x.kind : Int), ⟨x.text.toArray⟩, (x.fr : Int), (x.to : Int)⟩
def tkC (t : T.Tk) : List Value := [.int .i64 t.kind, .string t.text, .int .i64 t.fr, .int .i64 t.to]
def cellsTk (l : List T.Tk) : List Value := l.flatMap tkC
def OwnTk (B : Nat) (v : Value) (l : List T.Tk) (w : World) : Prop := w.ownsRow B 44 4 v l.length (cellsTk l)

theorem cellsTk_len (l : List T.Tk) : (cellsTk l).length = l.length * 4 := by
  induction l with
  | nil => rfl
  | cons t r ih => simp only [cellsTk, tkC, List.flatMap_cons, List.length_append, List.length_cons, List.length_nil] at ih ⊢; omega

theorem cellsTk_at {l : List T.Tk} {i : Nat} (h : i < l.length) : (cellsTk l)[i * 4]? = some (.int .i64 l[i].kind) ∧ (cellsTk l)[i * 4 + 1]? = some (.string l[i].text) ∧ (cellsTk l)[i * 4 + 2]? = some (.int .i64 l[i].fr) ∧ (cellsTk l)[i * 4 + 3]? = some (.int .i64 l[i].to) := by
  induction l generalizing i with
  | nil => cases h
  | cons t r ih =>
    have e : cellsTk (t :: r) = tkC t ++ cellsTk r := by simp [cellsTk]
    rw [e]
    cases i with
    | zero => exact ⟨rfl, rfl, rfl, rfl⟩
    | succ i =>
      have h1 := ih (i := i) (by simpa using h)
      have hl : (tkC t).length = 4 := rfl
      refine ⟨?_, ?_, ?_, ?_⟩
      · rw [List.getElem?_append_right (by rw [hl]; omega), hl, show (i + 1) * 4 - 4 = i * 4 by omega]; exact h1.1
      · rw [List.getElem?_append_right (by rw [hl]; omega), hl, show (i + 1) * 4 + 1 - 4 = i * 4 + 1 by omega]; exact h1.2.1
      · rw [List.getElem?_append_right (by rw [hl]; omega), hl, show (i + 1) * 4 + 2 - 4 = i * 4 + 2 by omega]; exact h1.2.2.1
      · rw [List.getElem?_append_right (by rw [hl]; omega), hl, show (i + 1) * 4 + 3 - 4 = i * 4 + 3 by omega]; exact h1.2.2.2

theorem cellsT_tk (l : List X.L.Tok) : X.cellsT l = cellsTk (l.map tkOf) := by
  induction l with
  | nil => rfl
  | cons t r ih =>
    have e1 : X.cellsT (t :: r) = [.int .i64 t.kind, X.strV t.text, .int .i64 t.fr, .int .i64 t.to] ++ X.cellsT r := by simp [X.cellsT]
    have e2 : cellsTk ((t :: r).map tkOf) = tkC (tkOf t) ++ cellsTk (r.map tkOf) := by simp [cellsTk]
    rw [e1, e2, ih]
    rfl

theorem own_tk {B : Nat} {v : Value} {l : List X.L.Tok} {w : World} (h : X.Own B v l w) : OwnTk B v (l.map tkOf) w := by
  unfold OwnTk
  rw [← cellsT_tk, List.length_map]
  exact h

theorem OwnTk.rd {B : Nat} {v : Value} {l : List T.Tk} {w : World} (h : OwnTk B v l w) (hl : l.length ≤ 1000000) : RdK w w.heap.size v l := by
  rcases h.2 with ⟨hv, h0⟩ | ⟨g, cap, cur, hv, _, hh, hc, hm, _⟩
  · exact ⟨none, 0, by rw [hv, h0], hl, fun hn => absurd (List.eq_nil_of_length_eq_zero h0) hn⟩
  · subst hv
    refine ⟨_, cap, rfl, hl, fun _ => ⟨g, 0, rfl, heap_lt hh, fun i hi => ?_⟩⟩
    have hl := cellsTk_len l
    obtain ⟨h1, h2, h3, h4⟩ := cellsTk_at hi
    rw [Nat.zero_add, World.ownsRow.cellAt h (i * 4) (by omega), World.ownsRow.cellAt h (i * 4 + 1) (by omega), World.ownsRow.cellAt h (i * 4 + 2) (by omega), World.ownsRow.cellAt h (i * 4 + 3) (by omega)]
    exact ⟨h1, h2, h3, h4⟩
theorem OwnTk.below {B : Nat} {v : Value} {l : List T.Tk} {w w' : World} (h : OwnTk B v l w) (hb : Below w.heap.size w w') : OwnTk B v l w' := row_below h hb

/-- A slice of sites that is read. -/
def RdSi (w : World) (v : Value) (l : List T.Si) : Prop :=
  ∃ (A : Option Addr) (cap : Nat), v = .slice A l.length cap ∧ (l ≠ [] → ∃ b o, A = some ⟨b, o, none⟩ ∧ b < w.heap.size ∧ ∀ (i : Nat) (h : i < l.length), w.cell? ⟨b, o + i * 3, none⟩ = some (.int .i64 l[i].fr) ∧ w.cell? ⟨b, o + i * 3 + 1, none⟩ = some (.int .i64 l[i].to) ∧ w.cell? ⟨b, o + i * 3 + 2, none⟩ = some (.bool false))

theorem cellsSi_at {l : List T.Si} {i : Nat} (h : i < l.length) : (cellsSi l)[i * 3]? = some (.int .i64 l[i].fr) ∧ (cellsSi l)[i * 3 + 1]? = some (.int .i64 l[i].to) ∧ (cellsSi l)[i * 3 + 2]? = some (.bool false) := by
  induction l generalizing i with
  | nil => cases h
  | cons t r ih =>
    have e : cellsSi (t :: r) = siC t ++ cellsSi r := by simp [cellsSi]
    rw [e]
    cases i with
    | zero => exact ⟨rfl, rfl, rfl⟩
    | succ i =>
      have h1 := ih (i := i) (by simpa using h)
      have hl : (siC t).length = 3 := rfl
      refine ⟨?_, ?_, ?_⟩
      · rw [List.getElem?_append_right (by rw [hl]; omega), hl, show (i + 1) * 3 - 3 = i * 3 by omega]; exact h1.1
      · rw [List.getElem?_append_right (by rw [hl]; omega), hl, show (i + 1) * 3 + 1 - 3 = i * 3 + 1 by omega]; exact h1.2.1
      · rw [List.getElem?_append_right (by rw [hl]; omega), hl, show (i + 1) * 3 + 2 - 3 = i * 3 + 2 by omega]; exact h1.2.2

theorem OwnSi.rd {B : Nat} {v : Value} {l : List T.Si} {w : World} (h : OwnSi B v l w) : RdSi w v l := by
  rcases h.2 with ⟨hv, h0⟩ | ⟨g, cap, cur, hv, _, hh, hc, hm, _⟩
  · exact ⟨none, 0, by rw [hv, h0], fun hn => absurd (List.eq_nil_of_length_eq_zero h0) hn⟩
  · subst hv
    refine ⟨_, cap, rfl, fun _ => ⟨g, 0, rfl, heap_lt hh, fun i hi => ?_⟩⟩
    have hl := cellsSi_len l
    obtain ⟨h1, h2, h3⟩ := cellsSi_at hi
    rw [Nat.zero_add, World.ownsRow.cellAt h (i * 3) (by omega), World.ownsRow.cellAt h (i * 3 + 1) (by omega), World.ownsRow.cellAt h (i * 3 + 2) (by omega)]
    exact ⟨h1, h2, h3⟩
theorem OwnSi.below {B : Nat} {v : Value} {l : List T.Si} {w w' : World} (h : OwnSi B v l w) (hb : Below w.heap.size w w') : OwnSi B v l w' := row_below h hb

theorem RdSi.below {w w' : World} {v : Value} {l : List T.Si} (h : RdSi w v l) (hb : Below w.heap.size w w') : RdSi w' v l := by
  obtain ⟨A, cap, hv, hc⟩ := h
  refine ⟨A, cap, hv, fun hn => ?_⟩
  obtain ⟨b, o, ha, hlt, hx⟩ := hc hn
  refine ⟨b, o, ha, Nat.lt_of_lt_of_le hlt hb.size, fun i hi => ?_⟩
  have e : ∀ j, w'.cell? ⟨b, j, none⟩ = w.cell? ⟨b, j, none⟩ := fun j => hb.cell (p := ⟨b, j, none⟩) hlt
  rw [e, e, e]
  exact hx i hi

theorem RdSi.at {w : World} {A : Option Addr} {n cap : Nat} {l : List T.Si} (h : RdSi w (.slice A n cap) l) {i : Nat} (hi : i < l.length) :
    ∃ b o, A = some ⟨b, o, none⟩ ∧ b < w.heap.size ∧ w.cell? ⟨b, o + i * 3, none⟩ = some (.int .i64 l[i].fr) ∧ w.cell? ⟨b, o + i * 3 + 1, none⟩ = some (.int .i64 l[i].to) ∧ w.cell? ⟨b, o + i * 3 + 2, none⟩ = some (.bool false) := by
  obtain ⟨A', cap', hv, hc⟩ := h
  simp only [Value.slice.injEq] at hv
  obtain ⟨rfl, -, -⟩ := hv
  obtain ⟨b, o, h1, h2, h3⟩ := hc (by rintro rfl; simp at hi)
  exact ⟨b, o, h1, h2, h3 i hi⟩

set_option maxHeartbeats 4000000 in
set_option maxRecDepth 100000 in
theorem sites_any (x : List T.Si) (vx vy : Value) (hn : x.length ≤ 1000000) (w : World) (hx : RdSi w vx x) (hy : RdSi w vy x) :
    Calls Try.prog 18 #[vx, vy] w fun e w' => e = .returned (.bool true) ∧ Below w.heap.size w w' := by
  have HX := hid hx
  have HY := hid hy
  obtain ⟨A1, c1, rfl, -⟩ := hx
  obtain ⟨A2, c2, rfl, -⟩ := hy
  go_enter Try.func18, Try.ntmps18
  go_wp2
  go_loopw [5] (fun vi wr => ∃ i : Nat, vi = .int .i64 i ∧ i ≤ x.length ∧ Below w.heap.size w wr) (fun vi _ => x.length - (intOf vi).toNat)
  case atStart => exact ⟨0, rfl, by omega, Below.refl _ _⟩
  case round =>
    obtain ⟨i, rfl, hi, hB⟩ := hrel
    by_cases hlt : i < x.length
    · obtain ⟨b, o, rfl, hb, x0, x1, x2⟩ := HX.out.at hlt
      obtain ⟨b', o', rfl, hb', y0, y1, y2⟩ := HY.out.at hlt
      have hiz : (i : Int) < (x.length : Int) := by omega
      have p0 := (hB.cell (p := ⟨b, o + i * 3, none⟩) hb).trans x0
      have p1 := (hB.cell (p := ⟨b, o + i * 3 + 1, none⟩) hb).trans x1
      have p2 := (hB.cell (p := ⟨b, o + i * 3 + 2, none⟩) hb).trans x2
      have q0 := (hB.cell (p := ⟨b', o' + i * 3, none⟩) hb').trans y0
      have q1 := (hB.cell (p := ⟨b', o' + i * 3 + 1, none⟩) hb').trans y1
      have q2 := (hB.cell (p := ⟨b', o' + i * 3 + 2, none⟩) hb').trans y2
      have HB := hid hB
      clear x0 x1 x2 y0 y1 y2 hB
      generalize x[i].fr = f at *
      generalize x[i].to = t at *
      go_wp2
      go_quiet (fail)
      go_wp2
      go_roundw
      case rel => exact ⟨i + 1, by go_num, by omega, below_drewN HB.out _⟩
      case measure => simp [intOf]; omega
    · obtain rfl : i = x.length := by omega
      go_wp2
      go_ret
      exact ⟨rfl, hB⟩

end Go.Proofs.Ytgghmhgbdknkaaa
end

section
/-
  The walk of what each statement of the reading of types asks first: a live question, whose answer is fixed. No conditions.
-/
namespace Go.Proofs.Ytgghmhgbdknkaaa
open Go.RowKit

def liveS : ByteArray := ⟨#[63, 32, 45, 62, 32, 123, 98, 58, 32, 63, 44, 32, 97, 58, 32, 105, 110, 116, 125]⟩
def liveT : List X.L.Tok := [⟨5, [63], 0, 1⟩, ⟨5, [45, 62], 2, 4⟩, ⟨5, [123], 5, 6⟩, ⟨1, [98], 6, 7⟩, ⟨5, [58], 7, 8⟩, ⟨5, [63], 9, 10⟩, ⟨5, [44], 10, 11⟩, ⟨1, [97], 12, 13⟩, ⟨5, [58], 13, 14⟩, ⟨6, [105, 110, 116], 15, 18⟩, ⟨5, [125], 18, 19⟩, ⟨0, [], 19, 19⟩]
theorem live_toks : X.L.toksL liveS.data.toList = .ok liveT := by rfl

def liveK : List T.Tk := liveT.map tkOf
def liveIts : List (ByteArray × T.Tr) := [(⟨#[98]⟩, T.leafT 0 2), (⟨#[97]⟩, T.leafT 1 0)]
theorem live_type : T.typeF liveK 99 ⟨0, 1, []⟩ = .ok (T.arrT (T.leafT 0 1) (T.rowT 6 liveIts)) ⟨11, 3, [⟨0, 1⟩, ⟨9, 10⟩]⟩ := by kernel_rfl
theorem live_deep : T.readF liveK 2 1 100 = .bad 2 4 := by kernel_rfl

theorem live_order : T.order (liveIts.map (·.1)) = [1, 0] := by
  have h1 := T.order_perm (liveIts.map (·.1))
  have h2 := T.order_rise (ss := liveIts.map (·.1)) (by decide)
  refine L.rise_unique h2 (js := [1, 0]) ?_ (h1.trans ?_)
  · unfold L.Rise
    simp only [List.pairwise_cons, List.mem_cons, List.not_mem_nil, or_false, forall_eq, List.Pairwise.nil, and_true, false_implies, implies_true]
    decide
  · show (List.range 2).Perm [1, 0]
    exact (List.Perm.swap 0 1 []).symm

def liveTr : T.Tr := (⟨5, ⟨#[]⟩, 0⟩, .cons ⟨0, ⟨#[]⟩, 1⟩ .nil (.cons ⟨6, ⟨#[]⟩, 2⟩ (.cons ⟨1, ⟨#[97]⟩, 0⟩ .nil (.cons ⟨0, ⟨#[98]⟩, 2⟩ .nil .nil)) .nil))
theorem live_tree : T.arrT (T.leafT 0 1) (T.rowT 6 liveIts) = liveTr := by
  unfold T.rowT
  rw [live_order]
  rfl

theorem readF_of {l : List T.Tk} {p site lv : Int} {q d : Nat} {t : T.Tr} {s : T.S} (h0 : ¬ (p < 0 ∨ site < 1 ∨ lv < 1)) (hq : min p.toNat l.length = q) (hd : 100 - lv.toNat = d) (h : T.typeF l d ⟨q, site, []⟩ = .ok t s) (hf : Fits t) : T.readF l p site lv = .ok t s.pl s.sites := by
  unfold T.readF
  rw [if_neg h0, hq, hd]
  dsimp only
  rw [h]
  dsimp only
  rw [if_neg (by have := hf.1; omega), if_neg (by have := hf.2; omega)]

theorem live_of : ofF liveK = .ok liveTr [⟨0, 1⟩, ⟨9, 10⟩] := by
  have h : T.readF liveK 0 1 1 = .ok liveTr 11 [⟨0, 1⟩, ⟨9, 10⟩] := by
    have h1 := live_type
    rw [live_tree] at h1
    exact readF_of (by decide) (by decide) (by decide) h1 (by decide)
  unfold ofF
  rw [h]
  simp only
  rw [if_pos ⟨by decide, by decide⟩]

theorem live_print : (⟨(L.prT false liveTr.1 liveTr.2).toArray⟩ : ByteArray) = ⟨#[63, 32, 45, 62, 32, 123, 97, 58, 32, 105, 110, 116, 44, 32, 98, 58, 32, 63, 125]⟩ := by rfl

theorem live_text : ∀ p, (tokAt liveK p).text.size ≤ 2000000 := by
  intro p
  unfold tokAt
  by_cases h : p < liveK.length
  · have h2 : p < 12 := h
    match p, h2 with
    | 0, _ | 1, _ | 2, _ | 3, _ | 4, _ | 5, _ | 6, _ | 7, _ | 8, _ | 9, _ | 10, _ | 11, _ => decide
  · rw [show liveK.getD p ⟨0, ⟨#[]⟩, 0, 0⟩ = ⟨0, ⟨#[]⟩, 0, 0⟩ by simp [List.getD, List.getElem?_eq_none (Nat.le_of_not_lt h)]]
    decide

set_option maxHeartbeats 4000000 in
set_option maxRecDepth 100000 in
theorem alive_any (w : World) : Calls Try.prog 9 #[] w fun e w' => e = .returned (.bool true) ∧ Below w.heap.size w w' := by
  have HT := hid (X.refTokens_any liveS (by decide) w)
  rw [live_toks] at HT
  have HLO := hid live_of
  have HLD := hid live_deep
  have HLX := hid live_text
  have HTP := hid live_print
  go_enter Try.func9, Try.ntmps9
  go_wp2_with (go_at_call 11; refine (HT.out).mono ?_; rintro e w1 ⟨⟨v, rfl, hO⟩, hb1⟩)
  have HK1 := hid ((own_tk hO).rd (by decide))
  have HOF := hid (of_any liveK HLX.out v w1 HK1.out)
  rw [HLO.out] at HOF
  have HB1 := hid hb1
  clear hO hb1 HT
  go_wp2_with fail
  refine (HOF.out).mono ?_
  rintro e w2 ⟨hb2, h2⟩
  obtain ⟨vt, vs, rfl, ht, hs⟩ := h2
  have HB2 := hid hb2
  have HK2 : Hid (RdK w2 w2.heap.size v liveK) := hid ((HK1.out.low hb2).mono hb2.size)
  have HRD := hid (read_any liveK HLX.out v 2 1 100 (by decide) w2 HK2.out)
  rw [HLD.out] at HRD
  have HTR := hid ht
  have HSI := hid hs
  clear ht hs hb2 HOF
  go_wp2_with fail
  refine (HRD.out).mono ?_
  rintro e w3 ⟨hb3, rfl⟩
  have HB3 := hid hb3
  have HTR3 := hid (HTR.out.below hb3)
  have hrs := (HSI.out.below hb3).rd
  obtain ⟨A, cap, hv, -⟩ := id hrs
  subst hv
  obtain ⟨b, o, rfl, hb, s0, s1, s2⟩ := hrs.at (i := 1) (by decide)
  have HPR := hid (refPrint_any liveTr.1 liveTr.2 (by kernel_rfl) (by unfold Short; decide) (by kernel_rfl) (by decide) vt w3 HTR3.out.rd)
  rw [HTP.out] at HPR
  clear hb3 hrs s1 s2 HRD
  go_wp2_with fail
  refine (HPR.out).mono ?_
  rintro e w4 ⟨rfl, hb4⟩
  have t0 := (hb4.cell (p := ⟨b, o + 1 * 3, none⟩) hb).trans s0
  have HB4 := hid hb4
  clear s0 hb4
  go_wp2
  go_ret
  exact ⟨ret_bool (by simp), HB1.out.trans ((HB2.out.trans ((HB3.out.trans (HB4.out.mono HB3.out.size)).mono HB2.out.size)).mono HB1.out.size)⟩

end Go.Proofs.Ytgghmhgbdknkaaa
end

section
/-
  What the tokens of a text are like: the last one alone is an End, they are no more than its bytes and one, their texts are short; the cells of a row of tokens that is read. No conditions but those that each lemma names.
-/
namespace Go.Proofs.Ytgghmhgbdknkaaa
open Go.RowKit

theorem tk_last {p : Nat} {l : List UInt8} {r : List X.L.Tok} (h : X.L.Tk p l r) : ∃ r0 x, r = r0 ++ [x] ∧ x.kind = 0 ∧ ∀ t ∈ r0, t.kind ≠ 0 := by
  induction h with
  | done p => exact ⟨[], _, rfl, rfl, by simp⟩
  | step p l k x n r hl ho hr ih =>
    obtain ⟨r0, y, h1, h2, h3⟩ := ih
    refine ⟨⟨k, x, p, p + n⟩ :: r0, y, by rw [h1]; rfl, h2, fun t ht => ?_⟩
    rcases List.mem_cons.1 ht with rfl | ht
    · have := (X.L.oneL_facts ho).1
      simp only
      omega
    · exact h3 t ht

/-- What is known of a text's tokens. -/
structure TokFacts (n : Nat) (l : List T.Tk) : Prop where
  len : l.length ≤ n + 1
  pos : 0 < l.length
  text : ∀ p, (tokAt l p).text.size ≤ n
  last : (tokAt l (l.length - 1)).kind = 0
  mid : ∀ i, i + 1 < l.length → (tokAt l i).kind ≠ 0

theorem tok_facts {s : ByteArray} {r : List X.L.Tok} (h : X.L.toksL s.data.toList = .ok r) : TokFacts s.size (r.map tkOf) := by
  have hA := X.L.all_of h
  have hlen : s.data.toList.length = s.size := by simp
  obtain ⟨r0, x, h1, h2, h3⟩ := tk_last hA
  have hl := X.L.all_len hA
  have hj := (X.L.join_all hA).2
  rw [hlen] at hl
  have hrl : r.length = r0.length + 1 := by rw [h1]; simp
  refine ⟨by simpa using hl, by rw [List.length_map]; omega, fun p => ?_, ?_, fun i hi => ?_⟩
  · unfold tokAt
    by_cases hp : p < (r.map tkOf).length
    · have e : (r.map tkOf).getD p ⟨0, ⟨#[]⟩, 0, 0⟩ = tkOf (r[p]'(by simpa using hp)) := by simp [List.getD, (by simpa using hp : p < r.length)]
      rw [e]
      have hm := hj (X.L.kt (r[p]'(by simpa using hp))) (List.mem_map.2 ⟨_, List.getElem_mem _, rfl⟩)
      rw [hlen] at hm
      show (⟨(r[p]'(by simpa using hp)).text.toArray⟩ : ByteArray).size ≤ s.size
      show (r[p]'(by simpa using hp)).text.toArray.size ≤ s.size
      simpa [X.L.kt] using hm
    · rw [show (r.map tkOf).getD p ⟨0, ⟨#[]⟩, 0, 0⟩ = ⟨0, ⟨#[]⟩, 0, 0⟩ by simp [List.getD, List.getElem?_eq_none (Nat.le_of_not_lt (by simpa using hp))]]
      exact Nat.zero_le _
  · have e : tokAt (r.map tkOf) ((r.map tkOf).length - 1) = tkOf x := by
      unfold tokAt
      rw [List.length_map, hrl, h1]
      simp [List.getD]
    rw [e]
    show (x.kind : Int) = 0
    rw [h2]
    rfl
  · rw [List.length_map] at hi
    have hi0 : i < r0.length := by omega
    have e : tokAt (r.map tkOf) i = tkOf r0[i] := by
      unfold tokAt
      rw [h1, List.map_append]
      have hi1 : i < (r0.map tkOf).length := by rw [List.length_map]; exact hi0
      simp only [List.getD]
      rw [List.getElem?_append_left hi1, List.getElem?_eq_getElem hi1, List.getElem_map]
      rfl
    rw [e]
    show ((r0[i]).kind : Int) ≠ 0
    have := h3 _ (List.getElem_mem hi0)
    omega

theorem tokAt_app_left {k m : List T.Tk} {i : Nat} (h : i < k.length) : tokAt (k ++ m) i = tokAt k i := by
  unfold tokAt
  simp [List.getD, List.getElem?_append_left h]
theorem tokAt_app_right {k m : List T.Tk} {i : Nat} (h : k.length ≤ i) : tokAt (k ++ m) i = tokAt m (i - k.length) := by
  unfold tokAt
  simp [List.getD, List.getElem?_append_right h]

theorem addr_at (b o j : Nat) : ((⟨b, o, none⟩ : Addr).add j) = ⟨b, o + j, none⟩ := by
  unfold Addr.add
  split <;> simp_all

/-- The cells of a slice of tokens that is read, as an append asks for them. -/
theorem RdK.src {w : World} {B : Nat} {v : Value} {l : List T.Tk} (h : RdK w B v l) (h0 : l ≠ []) : ∃ b o cap, v = .slice (some ⟨b, o, none⟩) l.length cap ∧ b < B ∧ ∀ j u, (cellsTk l)[j]? = some u → w.cell? ((⟨b, o, none⟩ : Addr).add j) = some u := by
  obtain ⟨A, cap, rfl, -, hc⟩ := h
  obtain ⟨b, o, rfl, hb, hx⟩ := hc h0
  refine ⟨b, o, cap, rfl, hb, fun j u hu => ?_⟩
  have hj : j < (cellsTk l).length := (List.getElem?_eq_some_iff.1 hu).1
  rw [cellsTk_len] at hj
  have hi : j / 4 < l.length := by omega
  obtain ⟨x0, x1, x2, x3⟩ := hx (j / 4) hi
  obtain ⟨c0, c1, c2, c3⟩ := cellsTk_at hi
  rw [addr_at]
  rcases (by omega : j % 4 = 0 ∨ j % 4 = 1 ∨ j % 4 = 2 ∨ j % 4 = 3) with hr | hr | hr | hr
  · have e : j = j / 4 * 4 := by omega
    rw [e, c0] at hu
    rw [e, ← hu]
    exact x0
  · have e : j = j / 4 * 4 + 1 := by omega
    rw [e, c1] at hu
    rw [e, ← hu]
    exact x1
  · have e : j = j / 4 * 4 + 2 := by omega
    rw [e, c2] at hu
    rw [e, ← hu]
    exact x2
  · have e : j = j / 4 * 4 + 3 := by omega
    rw [e, c3] at hu
    rw [e, ← hu]
    exact x3

theorem cellsTk_one (l : List T.Tk) : ∀ u ∈ cellsTk l, u.oneCell' = true := by
  intro u hu
  obtain ⟨t, -, ht⟩ := List.mem_flatMap.1 hu
  simp only [tkC, List.mem_cons, List.not_mem_nil, or_false] at ht
  rcases ht with rfl | rfl | rfl | rfl <;> rfl
theorem cellsTk_app (a b : List T.Tk) : cellsTk (a ++ b) = cellsTk a ++ cellsTk b := by simp [cellsTk]
theorem OwnTk.app {B : Nat} {v : Value} {a b : List T.Tk} {w : World} (h : w.ownsRow B 44 4 v (a.length + b.length) (cellsTk a ++ cellsTk b)) : OwnTk B v (a ++ b) w := by
  unfold OwnTk
  rw [cellsTk_app, List.length_append]
  exact h

theorem infoTokD : (Try.prog.info? 44).map (fun i => (i.zero, i.size, i.bytes)) = some (some (.agg #[.int .i64 0, .string ⟨#[]⟩, .int .i64 0, .int .i64 0]), 4, 40) := by kernel_rfl

theorem up {B : Nat} {w w1 w2 : World} (h : Below B w w1) (h2 : Below w1.heap.size w1 w2) (hB : B ≤ w.heap.size) : Below B w w2 := h.trans (h2.mono (Nat.le_trans hB h.size))

/-- What Read tells of tokens that stand behind others, ahead of a sign that goes on with no type. -/
def shOut (off : Nat) : T.Out → T.Out
  | .bad p e => .bad (p + off) e
  | .ok t n ss => .ok t (n + off) ss

theorem readF_behind {k l m : List T.Tk} {x : T.Tk} {n : Nat} (hl : TokFacts n l) (hm : m = k ++ l ++ [x]) (site : Int) (h1 : 1 ≤ site) : T.readF m (k.length : Int) site 1 = shOut k.length (T.readF l 0 site 1) := by
  have hal : T.Al l m (l.length - 1) k.length := by
    have hp := hl.pos
    refine ⟨fun i hi => ?_, ⟨l[l.length - 1], List.getElem?_eq_getElem (by omega), ?_⟩⟩
    · rw [hm, List.append_assoc, List.getElem?_append_right (by omega), Nat.add_sub_cancel, List.getElem?_append_left (by omega)]
    · have := hl.last
      unfold tokAt at this
      simpa [List.getD, (by omega : l.length - 1 < l.length)] using this
  have hml : k.length ≤ m.length := by rw [hm]; simp only [List.length_append]; omega
  have h := (T.typeF_al hal 99 ⟨0, site, []⟩ (Nat.zero_le _)).1
  have e1 : min (k.length : Int).toNat m.length = k.length := by rw [Int.toNat_natCast]; omega
  have e2 : min (0 : Int).toNat l.length = 0 := by simp
  unfold T.readF
  rw [if_neg (by omega), if_neg (by omega), e1, e2]
  dsimp only
  rw [show 100 - (1 : Int).toNat = 99 by rfl]
  rw [show (T.sh k.length ⟨0, site, []⟩ : T.S) = ⟨k.length, site, []⟩ by simp [T.sh]] at h
  rw [h]
  cases T.typeF l 99 ⟨0, site, []⟩ with
  | bad p e => rfl
  | ok t s =>
    simp only [T.shR]
    by_cases g1 : 10000 < t.nodes
    · rw [if_pos g1, if_pos g1]; simp [shOut]
    · rw [if_neg g1, if_neg g1]
      by_cases g2 : 100 < t.deep
      · rw [if_pos g2, if_pos g2]; simp [shOut]
      · rw [if_neg g2, if_neg g2]; rfl

end Go.Proofs.Ytgghmhgbdknkaaa
end
