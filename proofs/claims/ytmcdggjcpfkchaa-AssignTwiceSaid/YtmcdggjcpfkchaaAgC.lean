/-
  How a type is filled, as plain lists; the map of choices; the walk of assign's filler. Conditions: at most 60 choices, whose sites rise.
-/
import Derived.Test.YtmcdggjcpfkchaaAgB
import Derived.Test.YtmcdggjcpfkchaaM7
import Derived.Maps.OwnOps
import Derived.Maps.Views
namespace Go.Proofs.Ytmcdggjcpfkchaa.L
open Go
/-- The type that is chosen for a site. -/
def fnd (cs : List Ch) (n : Int) : Option (List Nd) := (cs.find? fun c => decide (c.site = n)).map (·.t)
/-- A node, filled. -/
def fillN (cs : List Ch) (x : Nd) : List Nd :=
  match (if x.kind = 0 then fnd cs x.n else none) with
  | some u => setName u x.name
  | none => [x]
/-- A type, filled. -/
def fillL (cs : List Ch) (t : List Nd) : List Nd := t.flatMap (fillN cs)
/-- Sites that rise from a number on. -/
def Up (b : Int) (cs : List Ch) : Prop := (∀ c ∈ cs, b < c.site) ∧ ∀ (i j : Nat) (hi : i < cs.length) (hj : j < cs.length), i < j → cs[i].site < cs[j].site
theorem asg_parts : ∀ {cs : List Ch} {b : Int}, asgF b cs = true → (∀ c ∈ cs, b < c.site ∧ fillB c.t = true) ∧ ∀ (i j : Nat) (hi : i < cs.length) (hj : j < cs.length), i < j → cs[i].site < cs[j].site
  | [], b, _ => ⟨by simp, by simp⟩
  | c :: r, b, h => by
    simp only [asgF, Bool.and_eq_true, decide_eq_true_eq] at h
    obtain ⟨h1, h2, h3⟩ := h
    obtain ⟨g1, g2⟩ := asg_parts h3
    constructor
    · intro d hd
      rcases List.mem_cons.1 hd with rfl | hd
      · exact ⟨h1, h2⟩
      · exact ⟨by have := (g1 d hd).1; omega, (g1 d hd).2⟩
    · intro i j hi hj hij
      cases j with
      | zero => omega
      | succ j =>
        cases i with
        | zero => exact (g1 _ (List.getElem_mem (by simpa using hj))).1
        | succ i => exact g2 i j (by simpa using hi) (by simpa using hj) (by omega)
theorem asg_up {cs : List Ch} {b : Int} (h : asgF b cs = true) : Up b cs := ⟨fun c hc => ((asg_parts h).1 c hc).1, (asg_parts h).2⟩
theorem fnd_take {cs : List Ch} {b : Int} (h : Up b cs) {k : Nat} (hk : k < cs.length) (n : Int) : fnd (cs.take (k + 1)) n = if cs[k].site = n then some cs[k].t else fnd (cs.take k) n := by
  unfold fnd
  rw [List.take_succ_eq_append_getElem hk, List.find?_append]
  by_cases e : cs[k].site = n
  · rw [if_pos e]
    have : (cs.take k).find? (fun c => decide (c.site = n)) = none := by
      rw [List.find?_eq_none]
      intro c hc
      obtain ⟨i, hi, rfl⟩ := List.mem_iff_getElem.1 hc
      have hi2 : i < k := by simp at hi; omega
      rw [List.getElem_take]
      have := h.2 i k (by omega) hk hi2
      simp only [decide_eq_true_eq]
      omega
    rw [this]
    simp [e]
  · rw [if_neg e]
    cases h2 : (cs.take k).find? (fun c => decide (c.site = n)) with
    | none => simp [e]
    | some c => simp
theorem fnd_mem {cs : List Ch} {n : Int} {u : List Nd} (h : fnd cs n = some u) : ∃ c ∈ cs, c.site = n ∧ c.t = u := by
  unfold fnd at h
  obtain ⟨c, hc, rfl⟩ := Option.map_eq_some_iff.1 h
  exact ⟨c, List.mem_of_find?_eq_some hc, by simpa using List.find?_some hc, rfl⟩
theorem fnd_at {cs : List Ch} {b : Int} (h : Up b cs) {k : Nat} (hk : k < cs.length) : fnd cs cs[k].site = some cs[k].t := by
  have key : ∀ m, k < m → m ≤ cs.length → fnd (cs.take m) cs[k].site = some cs[k].t := by
    intro m
    induction m with
    | zero => intro h; omega
    | succ m ih =>
      intro h1 h2
      rw [fnd_take h (by omega)]
      by_cases e : m = k
      · subst e; rw [if_pos rfl]
      · have := h.2 k m hk (by omega) (by omega)
        rw [if_neg (by omega)]
        exact ih (by omega) (by omega)
  have := key cs.length hk (Nat.le_refl _)
  rwa [List.take_length] at this
theorem fillL_take (cs : List Ch) {t : List Nd} {k : Nat} (hk : k < t.length) : fillL cs (t.take (k + 1)) = fillL cs (t.take k) ++ fillN cs t[k] := by
  unfold fillL
  rw [List.take_succ_eq_append_getElem hk, List.flatMap_append]
  simp
theorem fillN_ne {cs : List Ch} (h : ∀ c ∈ cs, c.t ≠ []) (x : Nd) : fillN cs x ≠ [] := by
  unfold fillN
  split
  · rename_i u hu
    split at hu
    · obtain ⟨c, hc, -, rfl⟩ := fnd_mem hu
      intro e
      have := congrArg List.length e
      rw [setName_length] at this
      exact h c hc (List.eq_nil_of_length_eq_zero (by simpa using this))
    · cases hu
  · simp
theorem fillN_len {cs : List Ch} (h : ∀ c ∈ cs, c.t.length ≤ 60) (x : Nd) : (fillN cs x).length ≤ 60 := by
  unfold fillN
  split
  · rename_i u hu
    split at hu
    · obtain ⟨c, hc, -, rfl⟩ := fnd_mem hu
      rw [setName_length]; exact h c hc
    · cases hu
  · simp
theorem fillL_len {cs : List Ch} (h : ∀ c ∈ cs, c.t.length ≤ 60) : ∀ t : List Nd, (fillL cs t).length ≤ t.length * 60
  | [] => by simp [fillL]
  | x :: t => by
    have h1 := fillN_len h x
    have h2 := fillL_len h t
    unfold fillL at *
    rw [List.flatMap_cons, List.length_append, List.length_cons]
    omega
end Go.Proofs.Ytmcdggjcpfkchaa.L
namespace Go.Proofs.Ytmcdggjcpfkchaa
open Go.RowKit Go.Maps

/-! ### The map of choices -/
/-- What a slice of nodes reads as, in the words of the kit's maps. -/
def encS : Value → Option (DataW Unit × List MemPlace)
  | .slice none n c => some (.agg [.lit (.int .i64 n), .lit (.int .i64 c)], [])
  | .slice (some ⟨b, o, none⟩) n c => some (.agg [.lit (.int .i64 b), .lit (.int .i64 o), .lit (.int .i64 n), .lit (.int .i64 c)], [])
  | _ => none
def encNil : DataW Unit := .agg [.lit (.int .i64 0), .lit (.int .i64 0)]
theorem encS_nil : encS (.slice none 0 0) = some (encNil, []) := rfl
theorem encS_inj {v v' : Value} {d : DataW Unit} {p p' : List MemPlace} (h : encS v = some (d, p)) (h' : encS v' = some (d, p')) : v = v' := by
  unfold encS at h h'
  split at h <;> split at h' <;> simp only [Option.some.injEq, Prod.mk.injEq, reduceCtorEq] at h h'
  all_goals obtain ⟨rfl, rfl⟩ := h
  all_goals obtain ⟨h', rfl⟩ := h'
  all_goals simp only [DataW.agg.injEq, List.cons.injEq, DataW.lit.injEq, Lit.int.injEq, and_true, true_and, reduceCtorEq, and_false] at h'
  · obtain ⟨h1, h2⟩ := h'
    congr 1 <;> omega
  · obtain ⟨h1, h2, h3, h4⟩ := h'
    have e1 := Int.ofNat.inj h1.symm
    have e2 := Int.ofNat.inj h2.symm
    have e3 := Int.ofNat.inj h3.symm
    have e4 := Int.ofNat.inj h4.symm
    subst e1; subst e2; subst e3; subst e4
    rfl
theorem encS_rd {w : World} {B : Nat} {v : Value} {l : List L.Nd} (h : Rd w B v l) : l ≠ [] → ∃ d, encS v = some (d, []) := by
  intro hne
  obtain ⟨A, cap, rfl, -, -, -, hc⟩ := h
  obtain ⟨b, o, rfl, -⟩ := hc hne
  exact ⟨_, rfl⟩
theorem law_int : Keyed Try.prog 3 := int_keyed Try.underlying3
theorem zero_type (w : World) : (zeroValue 25).run Try.prog w = .ok (.slice none 0 0) w := by kernel_rfl
theorem run_makeHint (n : Int) (w : World) : (Instr.makeMap 62 (some (.int .i64 n))).run Try.prog w = .ok (.map (some w.heap.size)) (w.alloc (.map #[] 0)) := by
  simp [Instr.makeMap, run_underlying Try.underlying62, asInt, asIntOf, Result.andThen]

theorem wpList_lookupS {ops : Array Oper} {rest : List Oper} {o : Oper} {a : Act} {Q : Exit → Act → World → Prop} (w : World) (hg : o.guard = none) (m x : Operand) (hop : o.op = Op.lookup 62 m x false) (b n : Nat) (D : DataW Unit)
    (hm : a.eval m = .map (some b)) (hown : w.ownsMap Try.prog 3 encS b n D) (k : Int) (hx : a.eval x = .int .i64 k) (hw : (Lit.int .i64 k).wf = true)
    (hK : ∀ v ps, encS v = some (D.atKey (.int .i64 k) encNil, ps) → wpList Try.prog ops Q rest (a.put o.dst v) w) : wpList Try.prog ops Q (o :: rest) a w := by
  refine wpList_plain hg fun K' hK' => ?_
  obtain ⟨v, ps, hrun, hv⟩ := hown.lookup law_int Try.underlying62 (zero_type w) encS_nil (key := .int .i64 k) (keyOf_int_mk Try.underlying3 hw)
  unfold Oper.wp
  simp [execOp, hop, hm, hx, hrun, Result.andThen]
  exact hK' _ _ (hK v ps hv)

/-- D tells the values of the choices' types, as they lie in w below B. -/
def ToldM (D : DataW Unit) (f : Int → Option (List L.Nd)) (w : World) (B : Nat) : Prop :=
  ∀ n : Int, ∃ v p, encS v = some (D.atKey (.int .i64 n) encNil, p) ∧ (∀ u, f n = some u → Rd w B v u) ∧ (f n = none → v = .slice none 0 0)
theorem toldM_nil (w : World) (B : Nat) (cs : List L.Ch) : ToldM (.map []) (L.fnd (cs.take 0)) w B := fun n => ⟨.slice none 0 0, [], by rw [encS_nil]; rfl, fun u h => by simp [L.fnd] at h, fun _ => rfl⟩
theorem toldM_put {D : DataW Unit} {cs : List L.Ch} {b0 : Int} (hu : L.Up b0 cs) {k : Nat} (hk : k < cs.length) {w : World} {B : Nat} (hm : IsMap D) (h : ToldM D (L.fnd (cs.take k)) w B) {v : Value} (hr : Rd w B v cs[k].t) {d : DataW Unit} (hd : encS v = some (d, [])) :
    ToldM (D.put (.int .i64 cs[k].site) d) (L.fnd (cs.take (k + 1))) w B := by
  intro n
  rw [L.fnd_take hu hk n]
  by_cases e : cs[k].site = n
  · subst e
    rw [if_pos rfl, atKey_put_same hm (show WideAt.IsKeyLit (Lit.int .i64 cs[k].site) from trivial)]
    exact ⟨v, [], hd, fun u hu => by injection hu with hu; rw [← hu]; exact hr, fun h => by cases h⟩
  · rw [if_neg e, atKey_put_other (by intro h; injection h with h1 h2; exact e h2.symm)]
    exact h n
/-- Cell bp holds the map of these choices. -/
def FillC (w : World) (B bp : Nat) (cs : List L.Ch) : Prop := ∃ (bm : Nat) (D : DataW Unit), w.cell? ⟨bp, 0, none⟩ = some (.map (some bm)) ∧ bp < B ∧ bm < B ∧ w.ownsMap Try.prog 3 encS bm 60 D ∧ ToldM D (L.fnd cs) w B
theorem ownsMap_low {w w' : World} {B bm n : Nat} {D : DataW Unit} (h : w.ownsMap Try.prog 3 encS bm n D) (hb : Below B w w') (hlt : bm < B) : w'.ownsMap Try.prog 3 encS bm n D := by
  obtain ⟨es, clock, h1, r⟩ := h
  exact ⟨es, clock, (hb.block bm hlt).trans h1, r⟩
theorem ToldM.low {D : DataW Unit} {f : Int → Option (List L.Nd)} {w w' : World} {B : Nat} (h : ToldM D f w B) (hb : Below B w w') : ToldM D f w' B := fun n => by
  obtain ⟨v, p, h1, h2, h3⟩ := h n
  exact ⟨v, p, h1, fun u hu => (h2 u hu).low hb, h3⟩
theorem ToldM.mono {D : DataW Unit} {f : Int → Option (List L.Nd)} {w : World} {B B' : Nat} (h : ToldM D f w B) (hb : B ≤ B') : ToldM D f w B' := fun n => by
  obtain ⟨v, p, h1, h2, h3⟩ := h n
  exact ⟨v, p, h1, fun u hu => (h2 u hu).mono hb, h3⟩
theorem FillC.low {w w' : World} {B bp : Nat} {cs : List L.Ch} (h : FillC w B bp cs) (hb : Below B w w') : FillC w' B bp cs := by
  obtain ⟨bm, D, h1, h2, h3, h4, h5⟩ := h
  exact ⟨bm, D, (hb.cell (p := ⟨bp, 0, none⟩) h2).trans h1, h2, h3, ownsMap_low h4 hb h3, h5.low hb⟩
theorem FillC.mono {w : World} {B B' bp : Nat} {cs : List L.Ch} (h : FillC w B bp cs) (hb : B ≤ B') : FillC w B' bp cs := by
  obtain ⟨bm, D, h1, h2, h3, h4, h5⟩ := h
  exact ⟨bm, D, h1, by omega, by omega, h4, h5.mono hb⟩
def FillerPost (cs : List L.Ch) (w : World) (e : Ending) (w' : World) : Prop := ∃ bp, e = .returned (.func (.func 49) #[] #[.pointer (some ⟨bp, 0, none⟩)]) ∧ w.heap.size ≤ bp ∧ FillC w' w'.heap.size bp cs ∧ Below w.heap.size w w'

set_option maxHeartbeats 4000000 in
set_option maxRecDepth 100000 in
theorem filler_any (cs : List L.Ch) (hu : L.Up 0 cs) (hne : ∀ c ∈ cs, c.t ≠ []) (hn : cs.length ≤ 60) (hwf : ∀ c ∈ cs, c.site ≤ 9223372036854775807) (v : Value) (w : World) (hx : RdC w w.heap.size v cs) :
    Calls Try.prog 30 #[v] w (FillerPost cs w) := by
  have HX := hid hx
  have HU := hid hu
  have HNE := hid hne
  have HWF := hid hwf
  obtain ⟨A, cap, rfl, h1, h2, -⟩ := hx
  unfold maxLen at h2
  have hmm := run_makeHint
  clear hne hwf hu
  go_enter Try.func30, Try.ntmps30
  go_wp2_with fail
  go_loopw [11] (fun vi wr => ∃ (k : Nat) (D : DataW Unit), vi = .int .i64 k ∧ k ≤ cs.length ∧ wr.ownsMap Try.prog 3 encS w.heap.size k D ∧ wr.cell? ⟨w.heap.size + 1, 0, none⟩ = some (.map (some w.heap.size)) ∧ Hid (ToldM D (L.fnd (cs.take k)) w w.heap.size) ∧ Below w.heap.size w wr ∧ w.heap.size + 2 ≤ wr.heap.size) (fun vi _ => cs.length - (intOf vi).toNat)
  case atStart =>
    refine ⟨0, _, rfl, by omega, (World.ownsMap_made w Try.prog 3 encS).alloc _, ?_, hid (toldM_nil _ _ _), (below_new _).alloc (by simp) _, by simp⟩
    have := heap_cell (heap_alloc_new (w.alloc (.map #[] 0)) (.cells #[.map (some w.heap.size)] 62)) 0
    have e : (w.alloc (.map #[] 0)).heap.size = w.heap.size + 1 := by simp
    rw [e] at this
    exact this.trans rfl
  case round =>
    clear hmm
    obtain ⟨k, D, rfl, hk, hown, hbx, hD, hbel, hsz2⟩ := hrel
    obtain ⟨wo, hwo⟩ : ∃ wo : World, wo = wr := ⟨_, rfl⟩
    subst hwo
    have hsz := hbel.size
    by_cases hlt : k < cs.length
    · have hkz : (k : Int) < (cs.length : Int) := by omega
      obtain ⟨b, o, c', At, ct, hv, hbb, x0, x1, hr⟩ := HX.out.at_ hbel hlt
      simp only [Value.slice.injEq, true_and] at hv
      obtain ⟨rfl, rfl⟩ := hv
      obtain ⟨b', o', c', At', ct', hv, -, -, z1, hr0⟩ := HX.out.at_ (Below.refl _ _) hlt
      simp only [Value.slice.injEq, Option.some.injEq, Addr.mk.injEq, and_true, true_and] at hv
      obtain ⟨⟨rfl, rfl⟩, rfl⟩ := hv
      have e1 := ((hbel.cell (p := ⟨b, o + k * 2 + 1, none⟩) hbb).trans z1).symm.trans x1
      simp only [Option.some.injEq, Value.slice.injEq, true_and] at e1
      obtain ⟨rfl, rfl⟩ := e1
      have hne := HNE.out cs[k] (List.getElem_mem hlt)
      have hwf1 := HWF.out cs[k] (List.getElem_mem hlt)
      have hpos := HU.out.1 cs[k] (List.getElem_mem hlt)
      obtain ⟨d, hd⟩ := encS_rd hr0 hne
      have HP := hid (toldM_put HU.out hlt hown.isMap hD.out hr0 hd)
      have HD := hid hd
      obtain ⟨s, hs⟩ : ∃ s, cs[k].site = s := ⟨_, rfl⟩
      obtain ⟨nt, hnt⟩ : ∃ nt, cs[k].t.length = nt := ⟨_, rfl⟩
      rw [hs] at x0 HP hwf1 hpos
      rw [hnt] at x1 HD
      have hkey : keyOf Try.prog 3 (.int .i64 s) = some (.int .i64 s) := keyOf_int_mk Try.underlying3 (WalkArith.wf_i64 (by omega))
      have HB := hid hbel
      have hmax : k < maxLen := by unfold maxLen; omega
      have hl1 : w.heap.size + 1 < wo.heap.size := by omega
      have hne1 : ¬ w.heap.size + 1 = wo.heap.size := by omega
      clear hD hs hnt hr hr0 hne hd hbel z1 hwf1 hpos
      go_wp2_with (at_mapUpdate; refine wpList_mapUpdate_own _ rfl _ _ _ 62 rfl 3 25 law_int Try.underlying62 encS w.heap.size k D rfl (hown.alloc _) hmax _ _ _ rfl rfl hkey d [] HD.out ?_; intro w1 hown1 hgrow1)
      have hb1 : Below w.heap.size w w1 := (HB.out.alloc hsz _).grown hgrow1 (by simp; omega) (fun q hq => by injection hq with hq; omega)
      have hbx1 : w1.cell? ⟨w.heap.size + 1, 0, none⟩ = some (.map (some w.heap.size)) := by
        rw [World.cell?_of_block (a := ⟨w.heap.size + 1, 0, none⟩) (hgrow1.block (w.heap.size + 1) (by simp; omega) (by simp))]
        exact ((below_new _).cell (p := ⟨w.heap.size + 1, 0, none⟩) (show w.heap.size + 1 < wo.heap.size by omega)).trans hbx
      have hs1 : w.heap.size + 2 ≤ w1.heap.size := by have := hgrow1.size; simp at this; omega
      have HO := hid hown1
      have HB1 := hid hb1
      clear hown hown1 hgrow1 HB hb1 x0 x1 HD hbx
      go_wp2_with fail
      go_roundw
      case rel => exact ⟨k + 1, _, by go_num, by omega, HO.out, hbx1, HP, HB1.out, hs1⟩
      case measure => simp [intOf]; omega
    · have hkz : ¬ (k : Int) < (cs.length : Int) := by omega
      have e : k = cs.length := by omega
      subst e
      have HT := hid hD.out
      rw [List.take_length] at HT
      have HF := hid (show FillC wo wo.heap.size (w.heap.size + 1) cs from ⟨w.heap.size, D, hbx, by omega, by omega, hown.mono hn, (HT.out.low hbel).mono hsz⟩)
      have HB := hid hbel
      clear hown hbx hD hbel HT
      go_wp2_with fail
      go_ret
      exact ⟨w.heap.size + 1, rfl, by omega, HF.out, HB.out⟩

end Go.Proofs.Ytmcdggjcpfkchaa
