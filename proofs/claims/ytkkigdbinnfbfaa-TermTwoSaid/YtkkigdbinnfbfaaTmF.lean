/-
  The walk of term.fold, whatever is made of a node and of what was made of its children. Conditions: a slice of at most 20000 nodes that reads as a row of trees; what is made leaves all that is not its own as it was.
-/
import Derived.Test.YtkkigdbinnfbfaaTmC
namespace Go.Proofs.Ytkkigdbinnfbfaa.L
open Go
/-- What is made of a row of trees, from the leaves up. -/
def foldF {σ : Type} (J : σ → Nd → List (List Nd) → σ × List Nd) : σ → Fo → σ × List (List Nd)
  | s, .nil => (s, [])
  | s, .cons x ks r => ((foldF J (J (foldF J s ks).1 x (foldF J s ks).2).1 r).1, (J (foldF J s ks).1 x (foldF J s ks).2).2 :: (foldF J (J (foldF J s ks).1 x (foldF J s ks).2).1 r).2)
/-- Each tree of a row, however deep. -/
def Fo.all (Z : Nd → Fo → Prop) : Fo → Prop
  | .nil => True
  | .cons x ks r => Z x ks ∧ Fo.all Z ks ∧ Fo.all Z r
/-- Two rows, one behind the other. -/
def Fo.cat : Fo → Fo → Fo
  | .nil, g => g
  | .cons x ks r, g => .cons x ks (Fo.cat r g)
theorem cat_flat : ∀ f g : Fo, (f.cat g).flat = f.flat ++ g.flat
  | .nil, g => rfl
  | .cons x ks r, g => by simp [Fo.cat, Fo.flat, cat_flat r g]
theorem flat_pos {x : Nd} {ks r : Fo} : 0 < (Fo.cons x ks r).flat.length := by simp [Fo.flat]
theorem drop_row {l : List Nd} {q : Nat} {y : Nd} {ys p : Fo} {z : List Nd} (h : l.drop q = (Fo.cons y ys p).flat ++ z) : ∃ hq : q < l.length, l[q] = y ∧ l.drop (q + 1) = ys.flat ++ (p.flat ++ z) ∧ l.drop (q + 1 + ys.flat.length) = p.flat ++ z := by
  have hq : q < l.length := by
    have := congrArg List.length h
    simp [Fo.flat] at this
    omega
  rw [List.drop_eq_getElem_cons hq] at h
  simp only [Fo.flat, List.cons_append, List.append_assoc] at h
  injection h with h1 h2
  refine ⟨hq, h1, h2, ?_⟩
  rw [← List.drop_drop, h2]
  simp
end Go.Proofs.Ytkkigdbinnfbfaa.L
namespace Go.Proofs.Ytkkigdbinnfbfaa
open Go.RowKit

/-- The boxes on which the closure stands. -/
structure FoldS (l : List L.Nd) (vl : Value) (jid : Nat) (jc : Array Value) (B0 p : Nat) (w : World) : Prop where
  t : w.heap[B0]? = some (.cells #[vl] 23 (0, 0))
  j : w.heap[B0 + 1]? = some (.cells #[.func (.func jid) #[] jc] 52 (0, 0))
  a : w.heap[B0 + 2]? = some (.cells #[.int .i64 p] 3 (0, 0))
  f : w.heap[B0 + 3]? = some (.cells #[.func (.func 44) #[] #[.pointer (some ⟨B0, 0, none⟩), .pointer (some ⟨B0 + 2, 0, none⟩), .pointer (some ⟨B0 + 3, 0, none⟩), .pointer (some ⟨B0 + 1, 0, none⟩)]] 66 (0, 0))
  rd : Rd w B0 vl l
theorem FoldS.keep {l : List L.Nd} {vl : Value} {jid B0 p q : Nat} {jc : Array Value} {P : Nat → Prop} {w w' : World} (h : FoldS l vl jid jc B0 p w) (hf : Fr P w w') (hp : ∀ i, P i → i = B0 + 2 ∨ i < B0 ∨ B0 + 4 ≤ i) (hu : ∀ b, Blk vl l b → ¬ P b) (ha : w'.heap[B0 + 2]? = some (.cells #[.int .i64 q] 3 (0, 0))) : FoldS l vl jid jc B0 q w' :=
  ⟨hf.heap h.t (fun g => by have := hp _ g; omega), hf.heap h.j (fun g => by have := hp _ g; omega), ha, hf.heap h.f (fun g => by have := hp _ g; omega), h.rd.fr hf hu⟩

def VisPost {σ : Type} (K : σ → World → Prop) (U : Nat → Prop) (B0 q : Nat) (w : World) (res : σ × List L.Nd) (e : Ending) (w' : World) : Prop :=
  ∃ v', e = .returned v' ∧ Rd w' w'.heap.size v' res.2 ∧ (∀ b, Blk v' res.2 b → w.heap.size ≤ b) ∧ K res.1 w' ∧ w'.heap[B0 + 2]? = some (.cells #[.int .i64 q] 3 (0, 0)) ∧ Fr (fun i => U i ∨ i = B0 + 2) w w'

/-- What is asked of what is called at each node. -/
def JoinOk {σ : Type} (J : σ → L.Nd → List (List L.Nd) → σ × List L.Nd) (K : σ → World → Prop) (U : Nat → Prop) (Z : L.Nd → L.Fo → Prop) (B1 jid : Nat) (jc : Array Value) : Prop :=
  ∀ (s0 s : σ) (x : L.Nd) (kf : L.Fo) (kv : Value) (ks : List VT) (W : World), Z x kf → L.foldF J s0 kf = (s, ks.map (·.2)) → B1 ≤ W.heap.size → K s W → RowT B1 kv ks W →
    Calls Try.prog jid (#[.agg #[.int .i64 x.kind, .string x.name, .int .i64 x.n], kv] ++ jc) W fun e W' =>
      ∃ v', e = .returned v' ∧ Rd W' W'.heap.size v' (J s x (ks.map (·.2))).2 ∧ (∀ b, Blk v' (J s x (ks.map (·.2))).2 b → W.heap.size ≤ b) ∧ K (J s x (ks.map (·.2))).1 W' ∧ Fr (fun i => U i ∨ kv.ownBlock = some i) W W'

/-- Where the loop over a node's children stands. -/
structure VL {σ : Type} (K : σ → World → Prop) (U : Nat → Prop) (B0 : Nat) (l : List L.Nd) (vl : Value) (jid : Nat) (jc : Array Value) (x : L.Nd) (w : World) (q : Nat) (v6 : Value) (ks : List VT) (s : σ) (wr : World) : Prop where
  fs : FoldS l vl jid jc B0 q wr
  row : RowT (w.heap.size + 1) v6 ks wr
  k : K s wr
  fr : Fr (fun i => U i ∨ i = B0 + 2) w wr
  nd : wr.heap[w.heap.size]? = some (.cells #[.int .i64 x.kind, .string x.name, .int .i64 x.n] 39 (0, 0))
theorem VL.step {σ : Type} {K : σ → World → Prop} {U : Nat → Prop} {B0 : Nat} {l : List L.Nd} {vl : Value} {jid : Nat} {jc : Array Value} {x : L.Nd} {w : World} {q : Nat} {v6 : Value} {ks : List VT} {s s2 : σ} {wr w1 : World} {q1 : Nat}
    (h : VL K U B0 l vl jid jc x w q v6 ks s wr) (hU : ∀ i, U i → i < B0) (hUl : ∀ b, Blk vl l b → ¬ U b) (hB : B0 + 4 ≤ w.heap.size) (hf : Fr (fun i => U i ∨ i = B0 + 2) wr w1) (hk : K s2 w1) (ha : w1.heap[B0 + 2]? = some (.cells #[.int .i64 q1] 3 (0, 0))) : VL K U B0 l vl jid jc x w q1 v6 ks s2 w1 where
  fs := h.fs.keep hf (fun i g => by rcases g with g | g; exact Or.inr (Or.inl (hU i g)); exact Or.inl g) (fun b hb g => by
    rcases g with g | g
    · exact hUl b hb g
    · have := Blk.lt h.fs.rd hb; omega) ha
  row := h.row.fr hf fun i g => by
    rcases g with g | g
    · have := hU i g; omega
    · omega
  k := hk
  fr := h.fr.trans hf
  nd := hf.heap h.nd fun g => by
    rcases g with g | g
    · have := hU _ g; omega
    · omega
theorem VL.below {σ : Type} {K : σ → World → Prop} {U : Nat → Prop} {B0 : Nat} {l : List L.Nd} {vl : Value} {jid : Nat} {jc : Array Value} {x : L.Nd} {w : World} {q : Nat} {v6 : Value} {ks : List VT} {s : σ} {wr w1 : World}
    (h : VL K U B0 l vl jid jc x w q v6 ks s wr) (hU : ∀ i, U i → i < B0) (hUl : ∀ b, Blk vl l b → ¬ U b) (hB : B0 + 4 ≤ w.heap.size) (hK : ∀ s W W', K s W → Fr (fun i => B0 ≤ i) W W' → K s W') (hb : Below wr.heap.size wr w1) : VL K U B0 l vl jid jc x w q v6 ks s w1 :=
  h.step hU hUl hB (Fr.of_below hb) (hK _ _ _ h.k (Fr.of_below hb)) ((hb.block _ (heap_lt h.fs.a)).trans h.fs.a)
theorem VL.app {σ : Type} {K : σ → World → Prop} {U : Nat → Prop} {B0 : Nat} {l : List L.Nd} {vl : Value} {jid : Nat} {jc : Array Value} {x : L.Nd} {w : World} {q : Nat} {v6 v7 : Value} {ks ks' : List VT} {s : σ} {wr w1 : World}
    (h : VL K U B0 l vl jid jc x w q v6 ks s wr) (hB : B0 + 4 ≤ w.heap.size) (hK : ∀ s W W', K s W → Fr (fun i => B0 ≤ i) W W' → K s W') (hf : Fr (fun i => v6.ownBlock = some i) wr w1) (hr : RowT (w.heap.size + 1) v7 ks' w1) : VL K U B0 l vl jid jc x w q v7 ks' s w1 := by
  have hlo : ∀ i, v6.ownBlock = some i → w.heap.size + 1 ≤ i := fun i g => (World.ownsRow.lt h.row.own i g).1
  exact ⟨h.fs.keep hf (fun i g => by have := hlo i g; omega) (fun b hb g => by have := Blk.lt h.fs.rd hb; have := hlo b g; omega) (hf.heap h.fs.a (fun g => by have := hlo _ g; omega)), hr,
    hK _ _ _ h.k (hf.mono fun i _ g => by have := hlo i g; omega), h.fr.then hf (fun i hi g => by have := hlo i g; omega), hf.heap h.nd (fun g => by have := hlo _ g; omega)⟩

set_option maxHeartbeats 4000000 in
set_option maxRecDepth 100000 in
theorem fvisit_any {σ : Type} (J : σ → L.Nd → List (List L.Nd) → σ × List L.Nd) (K : σ → World → Prop) (U : Nat → Prop) (Z : L.Nd → L.Fo → Prop) (B0 jid : Nat) (jc : Array Value)
    (hent : ∀ (args : Array Value) (W : World), (callFunc jid args).run Try.prog W = .ok (.enter jid args) W)
    (hU : ∀ i, U i → i < B0) (hK : ∀ s W W', K s W → Fr (fun i => B0 ≤ i) W W' → K s W') (hJ : JoinOk J K U Z (B0 + 4) jid jc)
    (l : List L.Nd) (hl : l.length ≤ 20000) (vl : Value) (hUl : ∀ b, Blk vl l b → ¬ U b) (m : Nat) :
    ∀ (x : L.Nd) (kf r : L.Fo) (p : Nat) (s : σ) (w : World), (L.Fo.cons x kf .nil).flat.length ≤ m → L.Fo.all Z (.cons x kf .nil) → (L.Fo.cons x kf .nil).ok = true → l.drop p = (L.Fo.cons x kf r).flat → FoldS l vl jid jc B0 p w → B0 + 4 ≤ w.heap.size → K s w →
      Calls Try.prog 44 #[.pointer (some ⟨B0, 0, none⟩), .pointer (some ⟨B0 + 2, 0, none⟩), .pointer (some ⟨B0 + 3, 0, none⟩), .pointer (some ⟨B0 + 1, 0, none⟩)] w (VisPost K U B0 (p + 1 + kf.flat.length) w (J (L.foldF J s kf).1 x (L.foldF J s kf).2)) := by
  induction m with
  | zero =>
    intro x kf r p s w hm
    have := L.flat_pos (x := x) (ks := kf) (r := .nil)
    omega
  | succ m ih =>
    intro x kf r p s w hm hz hok hdr hS hB hk0
    have IH := hid ih
    have HS := hid hS
    have HK := hid hK
    have HJ := hid hJ
    have HUL := hid hUl
    have HU := hid hU
    have hok2 := hok
    simp only [L.Fo.ok, Bool.and_eq_true, decide_eq_true_eq] at hok2
    obtain ⟨⟨⟨⟨hnum, hmany⟩, -⟩, hkok⟩, -⟩ := hok2
    have hb50 := L.many_of_numbered hnum
    obtain ⟨hzx, hzk, -⟩ := hz
    have HZX := hid hzx
    have HZK := hid hzk
    have HKOK := hid hkok
    obtain ⟨hp, hpx, hd1, -⟩ := L.drop_row (z := []) (show l.drop p = (L.Fo.cons x kf r).flat ++ [] by rw [List.append_nil]; exact hdr)
    rw [List.append_nil] at hd1
    have HD1 := hid hd1
    have HMS := hid (show kf.flat.length ≤ m by simp only [L.Fo.flat, List.length_cons, List.length_append, List.length_nil] at hm; omega)
    obtain ⟨A0, cap, rfl, hl1, hl2, _, hcx⟩ := hS.rd
    obtain ⟨b, o, rfl, hb, hcx⟩ := hcx (by rintro rfl; simp at hp)
    obtain ⟨x0, x1, x2⟩ := hcx p hp
    rw [hpx] at x0 x1 x2
    have cT := Lib.cell_of_heap hS.t 0
    have cA := Lib.cell_of_heap hS.a 0
    have fA : w.frozen? ⟨B0 + 2, 0, none⟩ = false := Lib.frozen_of_heap hS.a 0
    unfold maxLen at hl2
    have HK0 := hid hk0
    obtain ⟨c, hc⟩ : ∃ c : Nat, c = kf.count := ⟨_, rfl⟩
    rw [← hc] at hmany
    have HC := hid hc
    have hc50 : c ≤ 50 := by omega
    obtain ⟨k1, s1, n1⟩ := x
    have hmn := fun W => tmany_any k1 n1 s1 W
    rw [hmany] at hmn
    have HM := hid hmn
    clear hS hcx ih hK hJ hUl hU hok hzx hzk hkok hdr hpx hd1 hm hk0 hc hmany hb50 hnum hmn
    simp only at x0 x1 x2
    have hn2 : w.heap.size ≠ B0 + 2 := by omega
    have hn3 : B0 + 2 ≠ w.heap.size := by omega
    have hn4 : B0 < w.heap.size := by omega
    have hn5 : B0 + 2 < w.heap.size := by omega
    go_enter Try.func44, Try.ntmps44
    go_wp2_with fail
    have hfr : Fr (fun i => i = B0 + 2) w ((w.setCell ⟨B0 + 2, 0, none⟩ (.int .i64 (p + 1))).alloc (.cells #[.int .i64 k1, .string s1, .int .i64 n1] 39)) :=
      ⟨rfl, rfl, rfl, by simp, fun i hi g => (heap_alloc_old _ _ (by simpa using hi)).trans (heap_setCell_other w ⟨B0 + 2, 0, none⟩ i _ g)⟩
    have hA1 : ((w.setCell ⟨B0 + 2, 0, none⟩ (.int .i64 (p + 1))).alloc (.cells #[.int .i64 k1, .string s1, .int .i64 n1] 39)).heap[B0 + 2]? = some (.cells #[.int .i64 ((p + 1 : Nat) : Int)] 3 (0, 0)) := (heap_alloc_old _ _ (by simp; omega)).trans (heap_setCell_same w (B0 + 2) 0 _ _ _ HS.out.a)
    have hN1 : ((w.setCell ⟨B0 + 2, 0, none⟩ (.int .i64 (p + 1))).alloc (.cells #[.int .i64 k1, .string s1, .int .i64 n1] 39)).heap[w.heap.size]? = some (.cells #[.int .i64 k1, .string s1, .int .i64 n1] 39 (0, 0)) := by
      have := heap_alloc_new (w.setCell ⟨B0 + 2, 0, none⟩ (.int .i64 (p + 1))) (.cells #[.int .i64 k1, .string s1, .int .i64 n1] 39)
      simpa using this
    have HVL := hid (show VL K U B0 l (.slice (some ⟨b, o, none⟩) l.length cap) jid jc ⟨k1, s1, n1⟩ w (p + 1) (.slice none 0 0) [] s ((w.setCell ⟨B0 + 2, 0, none⟩ (.int .i64 (p + 1))).alloc (.cells #[.int .i64 k1, .string s1, .int .i64 n1] 39)) from
      ⟨HS.out.keep hfr (fun i g => Or.inl g) (fun b' hb' g => by have := Blk.lt HS.out.rd hb'; omega) hA1, RowT.nil _ _, HK.out _ _ _ HK0.out (hfr.mono fun i _ g => by omega), hfr.mono fun i _ g => Or.inr g, hN1⟩)
    clear hfr hA1 hN1 hcx cT cA fA x0 x1 x2 hn2 hn3 hn4 hn5
    go_loopw [6, 7] (fun v6 v7 wr => ∃ (k q : Nat) (ks : List VT) (s' : σ) (po : L.Fo), v7 = .int .i64 k ∧ Hid (k + po.count = c) ∧ k ≤ c ∧ Hid (l.drop q = po.flat ++ r.flat) ∧ q ≤ l.length ∧ Hid (VL K U B0 l (.slice (some ⟨b, o, none⟩) l.length cap) jid jc ⟨k1, s1, n1⟩ w q v6 ks s' wr) ∧
        Hid (ks.length = k) ∧ Hid (L.foldF J s kf = ((L.foldF J s' po).1, ks.map (·.2) ++ (L.foldF J s' po).2)) ∧ Hid (po.ok = true ∧ L.Fo.all Z po ∧ po.flat.length ≤ m)) (fun _ v7 _ => c - (intOf v7).toNat)
    case atStart => exact ⟨0, p + 1, [], s, kf, rfl, hid (by rw [HC.out]; omega), by omega, HD1, by omega, HVL, hid rfl, hid rfl, hid ⟨HKOK.out, HZK.out, HMS.out⟩⟩
    case round =>
      clear HVL
      obtain ⟨k, q, ks, s', po, rfl, hkc, hk, hD, hq, hV, hkl, hF, hP⟩ := hrel
      have cT := Lib.cell_of_heap hV.out.fs.t 0
      have cA := Lib.cell_of_heap hV.out.fs.a 0
      have hN := hV.out.nd
      have cN0 := Lib.cell_of_heap hN 0
      have cN1 := Lib.cell_of_heap hN 1
      have cN2 := Lib.cell_of_heap hN 2
      simp only [List.getElem?_toArray] at cN0 cN1 cN2
      have HB := hid (fun (W : World) (hW : Below wr.heap.size wr W) => hV.out.below HU.out HUL.out hB HK.out hW)
      clear hN
      cases po with
      | cons y ys po =>
        have hkc2 : (k : Int) < (c : Int) := by have := hkc.out; simp only [L.Fo.count] at this; omega
        obtain ⟨hq2, -, hD1, hD2⟩ := L.drop_row hD.out
        have hq3 : (q : Int) < (l.length : Int) := by omega
        have hl1' := congrArg List.length hD.out
        have hP2 := hP.out
        simp only [L.Fo.ok, L.Fo.all, L.Fo.flat, Bool.and_eq_true, List.length_cons, List.length_append] at hP2
        have HIH := hid (fun (W : World) (hW : Below wr.heap.size wr W) => IH.out y ys (po.cat r) q s' W (by simp only [L.Fo.flat, List.length_cons, List.length_append, List.length_nil]; omega) ⟨hP2.2.1.1, hP2.2.1.2.1, trivial⟩ (by simp only [L.Fo.ok, Bool.and_eq_true]; exact ⟨hP2.1.1, trivial⟩) (by rw [hD.out]; simp [L.Fo.flat, L.cat_flat]) (HB.out W hW).fs (by have := (HB.out W hW).fr.size; omega) (HB.out W hW).k)
        have HP2 := hid (show po.ok = true ∧ L.Fo.all Z po ∧ po.flat.length ≤ m from ⟨hP2.1.2, hP2.2.1.2.2, by omega⟩)
        have HD2 := hid hD2
        have HQ := hid (show q + 1 + ys.flat.length ≤ l.length by have := congrArg List.length hD1; simp at this; omega)
        clear hD1 hD2 hl1' hP2 hq2
        go_wp2_with fail
        refine (HM.out _).mono ?_
        rintro e w1 ⟨rfl, hb1⟩
        have V1 := hid (HB.out w1 hb1)
        have I1 := hid (HIH.out w1 hb1)
        clear hb1 HB HIH cT cA cN0 cN1 cN2 hV
        have cT := Lib.cell_of_heap V1.out.fs.t 0
        have cA := Lib.cell_of_heap V1.out.fs.a 0
        have cF := Lib.cell_of_heap V1.out.fs.f 0
        go_wp2_with fail
        refine (I1.out).mono ?_
        rintro e w2 ⟨v', rfl, hr2, hfr2, hk2, ha2, hf2⟩
        have V2 := hid (V1.out.step HU.out HUL.out hB hf2 hk2 ha2)
        have F2 := hid hfr2
        have R2 := hid hr2
        have S2 := hf2.size
        have S1 := V1.out.fr.size
        obtain ⟨A2, c2, rfl, -⟩ := hr2.len
        clear hr2 hfr2 hk2 ha2 hf2 I1 cT cA cF
        have hsz : w.heap.size + 1 ≤ w1.heap.size := heap_lt V1.out.nd
        go_wp2_with (at_builtin; refine wpList_app_typ rfl (.tmp 26) (.tmp 29) rfl (B := w.heap.size + 1) (ts := ks) (l := (J (L.foldF J s' ys).1 y (L.foldF J s' ys).2).2) rfl V2.out.row (by have := hkl.out; omega) (by omega) rfl R2.out ?c1 ?c2 ?_)
        case c1 =>
          intro b' hb' g
          have h1 := (World.ownsRow.lt V1.out.row.own b' g).2
          have h2 := F2.out b' hb'
          omega
        case c2 =>
          intro b' hb'
          have h2 := F2.out b' hb'
          omega
        intro v7 w3 hr3 hf3
        have V3 := hid (V2.out.app hB HK.out hf3 hr3)
        clear hr3 hf3
        go_wp2
        go_roundw
        case rel =>
          refine ⟨k + 1, q + 1 + ys.flat.length, _, _, po, by go_num, hid ?_, by omega, HD2, HQ.out, V3, hid ?_, hid ?_, HP2⟩
          · have := hkc.out; simp only [L.Fo.count] at this; omega
          · have := hkl.out; simp; omega
          · rw [hF.out]
            simp [L.foldF]
        case measure => simp [intOf]; omega
      | nil =>
        have hkc2 : ¬ (k : Int) < (c : Int) := by have := hkc.out; simp only [L.Fo.count] at this; omega
        have hFF : Hid (L.foldF J s kf = (s', ks.map (·.2))) := hid (by rw [hF.out]; simp [L.foldF])
        have HQ : Hid (q = p + 1 + kf.flat.length) := hid (by
          have h1 := congrArg List.length hD.out
          have h2 := congrArg List.length HD1.out
          simp only [L.Fo.flat, List.nil_append, List.length_drop, List.length_append] at h1 h2
          omega)
        clear hkc
        go_wp2_with fail
        refine (HM.out _).mono ?_
        rintro e w1 ⟨rfl, hb1⟩
        have V1 := hid (HB.out w1 hb1)
        clear hb1 HB cT cA cN0 cN1 cN2 hV hF
        have cJ := Lib.cell_of_heap V1.out.fs.j 0
        have hN := V1.out.nd
        have cN0 := Lib.cell_of_heap hN 0
        have cN1 := Lib.cell_of_heap hN 1
        have cN2 := Lib.cell_of_heap hN 2
        simp only [List.getElem?_toArray] at cN0 cN1 cN2
        have S1 := V1.out.fr.size
        have hsz : w.heap.size + 1 ≤ w1.heap.size := heap_lt hN
        have J1 := hid (HJ.out s s' ⟨k1, s1, n1⟩ kf _ ks w1 HZX.out hFF.out (by omega) V1.out.k (V1.out.row.more (by omega)))
        clear hN
        go_wp2_with fail
        refine (J1.out).mono ?_
        rintro e w2 ⟨v', rfl, hr2, hfr2, hk2, hf2⟩
        have hlo : ∀ i, u6.ownBlock = some i → w.heap.size + 1 ≤ i := fun i g => (World.ownsRow.lt V1.out.row.own i g).1
        have EX : Hid (VisPost K U B0 (p + 1 + kf.flat.length) w (J (L.foldF J s kf).1 ⟨k1, s1, n1⟩ (L.foldF J s kf).2) (.returned v') w2) := hid (by
          rw [hFF.out]
          refine ⟨v', rfl, hr2, fun b hb => by have := hfr2 b hb; omega, hk2, ?_, V1.out.fr.then hf2 fun i hi g => ?_⟩
          · rw [← HQ.out]
            exact hf2.heap V1.out.fs.a fun g => by
              rcases g with g | g
              · have := HU.out _ g; omega
              · have := hlo _ g; omega
          · rcases g with g | g
            · exact Or.inl g
            · have := hlo _ g; omega)
        clear hr2 hfr2 hk2 hf2 J1 hlo
        go_wp2_with fail
        go_ret
        exact EX.out

theorem four_new (w : World) (o1 o2 o3 o4 : Obj) : ((((w.alloc o1).alloc o2).alloc o3).alloc o4).heap[w.heap.size]? = some o1 ∧ ((((w.alloc o1).alloc o2).alloc o3).alloc o4).heap[w.heap.size + 1]? = some o2 ∧ ((((w.alloc o1).alloc o2).alloc o3).alloc o4).heap[w.heap.size + 2]? = some o3 ∧
    ((((w.alloc o1).alloc o2).alloc o3).alloc o4).heap[w.heap.size + 3]? = some o4 ∧ Below w.heap.size w ((((w.alloc o1).alloc o2).alloc o3).alloc o4) ∧ ((((w.alloc o1).alloc o2).alloc o3).alloc o4).heap.size = w.heap.size + 4 := by
  have s1 : (w.alloc o1).heap.size = w.heap.size + 1 := by simp
  have s2 : ((w.alloc o1).alloc o2).heap.size = w.heap.size + 2 := by simp
  have s3 : (((w.alloc o1).alloc o2).alloc o3).heap.size = w.heap.size + 3 := by simp
  have n1 := heap_alloc_new w o1
  have n2 := heap_alloc_new (w.alloc o1) o2
  have n3 := heap_alloc_new ((w.alloc o1).alloc o2) o3
  have n4 := heap_alloc_new (((w.alloc o1).alloc o2).alloc o3) o4
  rw [s1] at n2
  rw [s2] at n3
  rw [s3] at n4
  refine ⟨?_, ?_, ?_, n4, ?_, by simp⟩
  · exact (heap_alloc_old _ _ (by omega)).trans ((heap_alloc_old _ _ (by omega)).trans ((heap_alloc_old _ _ (by omega)).trans n1))
  · exact (heap_alloc_old _ _ (by omega)).trans ((heap_alloc_old _ _ (by omega)).trans n2)
  · exact (heap_alloc_old _ _ (by omega)).trans n3
  · exact (below_new _).trans (((below_new _).mono (by omega)).trans (((below_new _).mono (by omega)).trans ((below_new _).mono (by omega))))
def lenRow : Value → Nat
  | .slice _ n _ => n
  | _ => 0
def FoldPost {σ : Type} (J : σ → L.Nd → List (List L.Nd) → σ × List L.Nd) (K : σ → World → Prop) (U : Nat → Prop) (s : σ) (f : L.Fo) (w : World) (e : Ending) (w' : World) : Prop :=
  ∃ v ts, e = .returned v ∧ L.foldF J s f = ((L.foldF J s f).1, ts.map (·.2)) ∧ RowT w.heap.size v ts w' ∧ K (L.foldF J s f).1 w' ∧ Fr U w w'

structure FL {σ : Type} (K : σ → World → Prop) (U : Nat → Prop) (l : List L.Nd) (vl : Value) (jid : Nat) (jc : Array Value) (w : World) (q : Nat) (v6 : Value) (ks : List VT) (s : σ) (wr : World) : Prop where
  fs : FoldS l vl jid jc w.heap.size q wr
  row : RowT (w.heap.size + 4) v6 ks wr
  k : K s wr
  fr : Fr U w wr
  sz : w.heap.size + 4 ≤ wr.heap.size

set_option maxHeartbeats 4000000 in
set_option maxRecDepth 100000 in
theorem fold_any {σ : Type} (J : σ → L.Nd → List (List L.Nd) → σ × List L.Nd) (K : σ → World → Prop) (U : Nat → Prop) (Z : L.Nd → L.Fo → Prop) (jid : Nat) (jc : Array Value)
    (hent : ∀ (args : Array Value) (W : World), (callFunc jid args).run Try.prog W = .ok (.enter jid args) W) (w : World)
    (hU : ∀ i, U i → i < w.heap.size) (hK : ∀ s W W', K s W → Fr (fun i => w.heap.size ≤ i) W W' → K s W') (hJ : JoinOk J K U Z (w.heap.size + 4) jid jc)
    (f : L.Fo) (hok : f.ok = true) (hz : L.Fo.all Z f) (hl : f.flat.length ≤ 20000) (vl : Value) (hx : Rd w w.heap.size vl f.flat) (hUl : ∀ b, Blk vl f.flat b → ¬ U b) (s : σ) (hk0 : K s w) :
    Calls Try.prog 20 #[vl, .func (.func jid) #[] jc] w (FoldPost J K U s f w) := by
  have HX := hid hx
  have HU := hid hU
  have HUL := hid hUl
  have HK := hid hK
  have HK0 := hid hk0
  have HOK := hid hok
  have HZ := hid hz
  have HVIS := hid (fun x kf r p s' W => fvisit_any J K U Z w.heap.size jid jc hent hU hK hJ f.flat hl vl hUl 20000 x kf r p s' W)
  obtain ⟨A0, cap, rfl, hl1, hl2⟩ := hx.len
  unfold maxLen at hl2
  obtain ⟨l, hlf⟩ : ∃ l, f.flat = l := ⟨_, rfl⟩
  have HLF := hid hlf
  rw [hlf] at HX HUL HVIS hl hl1
  rw [hlf]
  clear hx hU hUl hK hk0 hok hz hJ hlf
  go_enter Try.func20, Try.ntmps20
  go_wp2_with fail
  obtain ⟨q1, q2, q3, q4, qb, qs⟩ := four_new w (.cells #[.slice A0 l.length cap] 23) (.cells #[.func (.func jid) #[] jc] 52) (.cells #[.int .i64 0] 3) (.cells #[.func (.func 44) #[] #[.pointer (some ⟨w.heap.size, 0, none⟩), .pointer (some ⟨w.heap.size + 1 + 1, 0, none⟩), .pointer (some ⟨w.heap.size + 1 + 1 + 1, 0, none⟩), .pointer (some ⟨w.heap.size + 1, 0, none⟩)]] 66)
  have HFL := hid (show FL K U l (.slice A0 l.length cap) jid jc w 0 (.slice none 0 0) [] s _ from ⟨⟨q1, q2, q3, q4, HX.out.below qb⟩, RowT.nil _ _, HK.out _ _ _ HK0.out (Fr.of_below qb), Fr.of_below qb, by omega⟩)
  clear q1 q2 q3 q4 qb qs
  go_loopw [7] (fun v7 wr => ∃ (q : Nat) (ks : List VT) (s' : σ) (po : L.Fo), Hid (l.drop q = po.flat) ∧ q ≤ l.length ∧ Hid (FL K U l (.slice A0 l.length cap) jid jc w q v7 ks s' wr) ∧ Hid (ks.length + po.flat.length ≤ l.length) ∧
      Hid (L.foldF J s f = ((L.foldF J s' po).1, ks.map (·.2) ++ (L.foldF J s' po).2)) ∧ Hid (po.ok = true ∧ L.Fo.all Z po)) (fun v7 _ => l.length - lenRow v7)
  case atStart => exact ⟨0, [], s, f, hid (by rw [HLF.out]; rfl), by omega, HFL, hid (by rw [← HLF.out]; simp), hid rfl, hid ⟨HOK.out, HZ.out⟩⟩
  case round =>
    clear HFL
    obtain ⟨q, ks, s', po, hD, hq, hV, hkl, hF, hP⟩ := hrel
    have cT : wr.cell? ⟨w.heap.size, 0, none⟩ = some (.slice A0 l.length cap) := Lib.cell_of_heap hV.out.fs.t 0
    have cA : wr.cell? ⟨w.heap.size + 1 + 1, 0, none⟩ = some (.int .i64 q) := Lib.cell_of_heap hV.out.fs.a 0
    have cF : wr.cell? ⟨w.heap.size + 1 + 1 + 1, 0, none⟩ = some _ := Lib.cell_of_heap hV.out.fs.f 0
    cases po with
    | cons y ys po =>
      obtain ⟨hq2, -, hD1, hD2⟩ := L.drop_row (z := []) (show l.drop q = (L.Fo.cons y ys po).flat ++ [] by rw [List.append_nil]; exact hD.out)
      rw [List.append_nil] at hD2
      have hq3 : (q : Int) < (l.length : Int) := by omega
      have hP2 := hP.out
      simp only [L.Fo.ok, L.Fo.all, Bool.and_eq_true] at hP2
      have hkl2 := hkl.out
      simp only [L.Fo.flat, List.length_cons, List.length_append] at hkl2
      have HIH := hid (HVIS.out y ys po q s' wr (by simp only [L.Fo.flat, List.length_cons, List.length_append, List.length_nil]; omega) ⟨hP2.2.1, hP2.2.2.1, trivial⟩ (by simp only [L.Fo.ok, Bool.and_eq_true]; exact ⟨hP2.1.1, trivial⟩) hD.out hV.out.fs hV.out.sz hV.out.k)
      have HP2 := hid (show po.ok = true ∧ L.Fo.all Z po from ⟨hP2.1.2, hP2.2.2.2⟩)
      have HD2 := hid hD2
      have HQ := hid (show q + 1 + ys.flat.length ≤ l.length by have := congrArg List.length hD1; simp at this; omega)
      have HKL := hid hkl2
      clear hD1 hD2 hP2 hq2 hkl2
      go_wp2_with fail
      refine (HIH.out).mono ?_
      rintro e w2 ⟨v', rfl, hr2, hfr2, hk2, ha2, hf2⟩
      have hrow := hV.out.row.fr hf2 fun i g => by
        rcases g with g | g
        · have := HU.out i g; omega
        · omega
      have hfs := hV.out.fs.keep hf2 (fun i g => by rcases g with g | g; exact Or.inr (Or.inl (HU.out i g)); exact Or.inl g) (fun b hb g => by
        rcases g with g | g
        · exact HUL.out b hb g
        · have := Blk.lt hV.out.fs.rd hb; omega) ha2
      have S2 := hf2.size
      have S1 := hV.out.sz
      have V2 := hid (show FL K U l (.slice A0 l.length cap) jid jc w (q + 1 + ys.flat.length) u7 ks (J (L.foldF J s' ys).1 y (L.foldF J s' ys).2).1 w2 from ⟨hfs, hrow, hk2, hV.out.fr.then hf2 (fun i hi g => by
        rcases g with g | g
        · exact g
        · omega), by omega⟩)
      have F2 := hid hfr2
      have R2 := hid hr2
      obtain ⟨A2, c2, rfl, -⟩ := hr2.len
      clear hr2 hfr2 hk2 ha2 hf2 HIH cT cA cF hrow hfs
      go_wp2_with (at_builtin; refine wpList_app_typ rfl (.tmp 13) (.tmp 16) rfl (B := w.heap.size + 4) (ts := ks) (l := (J (L.foldF J s' ys).1 y (L.foldF J s' ys).2).2) rfl V2.out.row (by have := HKL.out; omega) (by omega) rfl R2.out ?c1 ?c2 ?_)
      case c1 =>
        intro b' hb' g
        have h1 := (World.ownsRow.lt hV.out.row.own b' g).2
        have h2 := F2.out b' hb'
        omega
      case c2 =>
        intro b' hb'
        have h2 := F2.out b' hb'
        omega
      intro v7 w3 hr3 hf3
      have hlo : ∀ i, u7.ownBlock = some i → w.heap.size + 4 ≤ i := fun i g => (World.ownsRow.lt V2.out.row.own i g).1
      have hlv : lenRow u7 = ks.length ∧ lenRow v7 = ks.length + 1 := by
        obtain ⟨_, _, e1, -⟩ := V2.out.row.val
        obtain ⟨_, _, e2, -⟩ := hr3.val
        rw [e1, e2]
        simp [lenRow]
      have HLV := hid hlv
      have V3 := hid (show FL K U l (.slice A0 l.length cap) jid jc w (q + 1 + ys.flat.length) v7 (ks ++ [(.slice A2 (J (L.foldF J s' ys).1 y (L.foldF J s' ys).2).2.length c2, (J (L.foldF J s' ys).1 y (L.foldF J s' ys).2).2)]) (J (L.foldF J s' ys).1 y (L.foldF J s' ys).2).1 w3 from
        ⟨V2.out.fs.keep hf3 (fun i g => by have := hlo i g; omega) (fun b hb g => by have := Blk.lt V2.out.fs.rd hb; have := hlo b g; omega) (hf3.heap V2.out.fs.a (fun g => by have := hlo _ g; omega)), hr3,
          HK.out _ _ _ V2.out.k (hf3.mono fun i _ g => by have := hlo i g; omega), V2.out.fr.then hf3 (fun i hi g => by have := hlo i g; omega), by have := hf3.size; have := V2.out.sz; omega⟩)
      clear hr3 hf3 hlo hlv
      go_wp2
      go_roundw
      case rel =>
        refine ⟨q + 1 + ys.flat.length, _, _, po, HD2, HQ.out, V3, hid ?_, hid ?_, HP2⟩
        · have := HKL.out; simp; omega
        · rw [hF.out]
          simp [L.foldF]
      case measure =>
        have h1 := HLV.out
        have h2 := HKL.out
        rw [h1.1, h1.2]
        omega
    | nil =>
      have hq3 : ¬ (q : Int) < (l.length : Int) := by
        have := congrArg List.length hD.out
        simp only [L.Fo.flat, List.length_drop, List.length_nil] at this
        omega
      have EX : Hid (FoldPost J K U s f w (.returned u7) wr) := hid (by
        have e := hF.out
        simp only [L.foldF, List.append_nil] at e
        refine ⟨u7, ks, rfl, ?_, hV.out.row.more (by omega), ?_, hV.out.fr⟩
        · rw [e]
        · rw [e]; exact hV.out.k)
      clear hF hD
      go_wp2_with fail
      go_ret
      exact EX.out
end Go.Proofs.Ytkkigdbinnfbfaa
