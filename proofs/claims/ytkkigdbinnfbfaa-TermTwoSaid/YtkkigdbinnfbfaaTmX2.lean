/-
  The walks of slices.Concat at rows of types, of term's merge and extended. Conditions: at most 1000 types, none of them empty.
-/
import Derived.Test.YtkkigdbinnfbfaaTmX1
import Derived.Test.YtkkigdbinnfbfaaTmG1
import Derived.Lib.QuietBelow
namespace Go.Proofs.Ytkkigdbinnfbfaa
open Go.RowKit

theorem catB_take_le {α : Type} (rows : List (Value × List α)) (k : Nat) : ((rows.take k).flatMap (·.2)).length ≤ (rows.flatMap (·.2)).length := by
  induction rows generalizing k with
  | nil => simp
  | cons a r ih =>
    cases k with
    | zero => simp
    | succ k =>
      have := ih k
      simp only [List.take_succ_cons, List.flatMap_cons, List.length_append]
      omega
/-- Rows of types, one behind the other. -/
def catR (rows : List (Value × List VT)) : List VT := rows.flatMap (·.2)
theorem catR_step {rows : List (Value × List VT)} {k : Nat} (h : k < rows.length) : catR (rows.take (k + 1)) = catR (rows.take k) ++ rows[k].2 := by
  unfold catR
  rw [List.take_succ_eq_append_getElem h, List.flatMap_append]
  simp
theorem catR_mem {rows : List (Value × List VT)} {t : Value × List VT} (h : t ∈ rows) : t.2.length ≤ (catR rows).length := by
  unfold catR
  induction rows with
  | nil => cases h
  | cons a r ih =>
    simp only [List.flatMap_cons, List.length_append]
    rcases List.mem_cons.1 h with rfl | h
    · omega
    · have := ih h; omega

/-- A row of values of the call's own, each a type's. -/
def OwnV (B : Nat) (v : Value) (ts : List VT) (w : World) : Prop := w.ownsRow B 23 1 v ts.length (ts.map (·.1))
theorem OwnV.rdr {B C : Nat} {v : Value} {ts : List VT} {w : World} (h : OwnV B v ts w) (hr : ∀ t ∈ ts, Rd w C t.1 t.2) (hC : C ≤ w.heap.size) : RdR w w.heap.size v ts := by
  refine ⟨?_, fun t ht => (hr t ht).mono hC⟩
  rcases h.2 with ⟨hv, h0⟩ | ⟨g, cap, cur, hv, _, hh, hc, hm, _⟩
  · exact ⟨none, 0, by rw [hv, h0], by omega, Nat.zero_le _, fun _ => rfl, fun hn => absurd (List.eq_nil_of_length_eq_zero h0) hn⟩
  · subst hv
    refine ⟨_, cap, rfl, hc, hm, by simp, fun _ => ⟨g, 0, rfl, heap_lt hh, fun i hi => ?_⟩⟩
    rw [Nat.zero_add, World.ownsRow.cellAt h i (by omega)]
    simp [hi]
theorem OwnV.below {B : Nat} {v : Value} {ts : List VT} {w w' : World} (h : OwnV B v ts w) (hb : Below w.heap.size w w') : OwnV B v ts w' := by
  unfold OwnV at h ⊢
  by_cases hv : v.ownBlock = none
  · exact h.kept (grown_of_below hb) (Or.inl hv)
  · exact h.kept (grown_of_below hb) (Or.inr hv)

theorem growR0_any (w : World) : Calls Try.prog 87 #[.slice none 0 0, .int .i64 0] w fun e w' => e = .returned (.slice none 0 0) ∧ w = w' := by
  go_enter Try.func87, Try.ntmps87
  go_wp2
  go_ret
  exact ⟨rfl, rfl⟩
set_option maxHeartbeats 1000000 in
set_option maxRecDepth 100000 in
theorem growR1_any (n : Nat) (h0 : 0 < n) (hn : n ≤ 1000000) (w : World) :
    Calls Try.prog 87 #[.slice none 0 0, .int .i64 n] w fun e w' => ∃ v', e = .returned v' ∧ OwnV w.heap.size v' [] w' ∧ Below w.heap.size w w' := by
  obtain ⟨i0, hi, hz0, hz1, hz2⟩ := info_parts infoTyp
  have hr : ∀ W : World, (Builtin.append_ #[27, 3] 27 #[.slice none 0 0, .int .i64 n]).run Try.prog W = .ok (.slice (some ⟨W.heap.size, 0, none⟩) n (grownCap W n 0 23)) (W.drew.alloc (.cells (Builtin.zeroCells (Value.slice none 0 0).cells n ++ Builtin.zeroCells (Value.slice none 0 0).cells (grownCap W n 0 23 - n)) 23)) := fun W =>
    Lib.run_append_nil_zeros W 27 3 27 23 i0 _ _ _ Try.underlying27 Try.underlying3 hi hz0 n h0 (by rw [hz1]; decide) (by omega) (by rw [hz2]; omega)
  have hge := grownCap_ge w n 0 23
  have hle := grownCap_le_maxLen w n 0 23 (by unfold maxLen; omega)
  have HR := hid (hr w)
  have HL := hid hle
  have HS : Hid ((Builtin.zeroCells (Value.slice none 0 0).cells n ++ Builtin.zeroCells (Value.slice none 0 0).cells (grownCap w n 0 23 - n)).size = grownCap w n 0 23 * 1) := hid (by
    rw [Array.size_append, size_zeroCells, size_zeroCells]
    show n * 1 + (grownCap w n 0 23 - n) * 1 = _
    omega)
  clear hr hle
  unfold maxLen at HL
  generalize grownCap w n 0 23 = C at *
  generalize (Builtin.zeroCells (Value.slice none 0 0).cells n ++ Builtin.zeroCells (Value.slice none 0 0).cells (C - n)) = Z at *
  have hl2 := HL.out
  go_enter Try.func87, Try.ntmps87
  go_wp2_with (at_builtin; refine Lib.wpList_append_run _ rfl _ _ _ _ rfl _ _ rfl rfl _ _ HR.out ?_)
  go_wp2
  go_ret
  refine ⟨_, rfl, ?_, (below_new _).drew⟩
  have h : (w.alloc (.cells Z 23)).ownsRow w.heap.size 23 1 (.slice (some ⟨w.heap.size, 0, none⟩) 0 C) 0 [] := World.ownsRow_made w Z C (Nat.le_refl _) (by unfold maxLen; exact HL.out) HS.out
  exact h
theorem growR_any (n : Nat) (hn : n ≤ 1000000) (w : World) :
    Calls Try.prog 87 #[.slice none 0 0, .int .i64 n] w fun e w' => ∃ v', e = .returned v' ∧ OwnV w.heap.size v' [] w' ∧ Below w.heap.size w w' := by
  rcases Nat.eq_zero_or_pos n with rfl | h
  · refine (growR0_any w).mono ?_
    rintro e w' ⟨rfl, rfl⟩
    exact ⟨_, rfl, World.ownsRow_nil _ _ _ 1, Below.refl _ _⟩
  · exact growR1_any n h hn w

set_option maxRecDepth 100000 in
/-- An append of a slice that reads as types, nil or not. -/
theorem wpList_appR {ops : Array Oper} {rest : List Oper} {w : World} {o : Oper} {a : Act} {Q : Exit → Act → World → Prop} (hgd : o.guard = none) (s x : Operand)
    (ho : o.op = .call { callee := .builtin .append, args := #[s, x], argTypes := #[27, 27] })
    (B : Nat) (v vx : Value) (l lx : List VT) (hs : a.eval s = v) (hown : OwnV B v l w) (hx : a.eval x = vx) (hr : RdR w w.heap.size vx lx)
    (hl : l.length + lx.length ≤ 100000) (hB : B ≤ w.heap.size)
    (h : ∀ v' w', OwnV B v' (l ++ lx) w' → w.grownBy w' v.ownBlock → wpList Try.prog ops Q rest (a.put o.dst v') w') : wpList Try.prog ops Q (o :: rest) a w := by
  obtain ⟨it, hit, hzt0, hzt1, hzt2⟩ := info_parts infoTyp
  obtain ⟨⟨A, cap, rfl, hc1, hc2, hc3, hcc⟩, hrd⟩ := hr
  cases A with
  | none =>
    have h0 := hc3 rfl
    subst h0
    have hl0 : lx = [] := List.eq_nil_of_length_eq_zero (by omega)
    subst hl0
    refine wpList_append_own_none hgd s x 27 ho B 23 it 1 Try.underlying27 hit v l.length _ hs hown hx ?_
    exact h v w (by simpa using hown) (grown_refl w _)
  | some ad =>
    refine wpList_append_own w hgd s x 27 ho B 23 it (.slice none 0 0) 1 24 Try.underlying27 hit hzt0 hzt1 hzt2 rfl (by decide) v l.length _ hs hown ad lx.length cap (lx.map (·.1)) hx (by simp) (fun j u hj => ?_) (fun u hu => ?_) (by unfold maxLen; omega) (by omega) hB ?_
    · obtain ⟨t, ht, rfl⟩ : ∃ t, lx[j]? = some t ∧ t.1 = u := by simpa using hj
      obtain ⟨hj2, rfl⟩ := List.getElem?_eq_some_iff.1 ht
      obtain ⟨b, o, e, hb, hx2⟩ := hcc (by rintro rfl; simp at hj2)
      injection e with e
      subst e
      have e2 : (⟨b, o, none⟩ : Addr).add j = ⟨b, o + j, none⟩ := by simp [Addr.add]
      rw [e2]
      exact hx2 j hj2
    · obtain ⟨t, ht, rfl⟩ := List.mem_map.1 hu
      obtain ⟨A2, c2, e, -⟩ := (hrd t ht).len
      rw [e]; rfl
    · intro v' w' h1 h2 _
      refine h v' w' ?_ h2
      unfold OwnV
      rw [List.map_append, List.length_append]
      exact h1

/-- A slice that reads as rows of types. -/
def RdRR (w : World) (v : Value) (rows : List (Value × List VT)) : Prop :=
  (∃ (b o cap : Nat), v = .slice (some ⟨b, o, none⟩) rows.length cap ∧ rows.length ≤ cap ∧ cap ≤ maxLen ∧ b < w.heap.size ∧ ∀ (i : Nat) (h : i < rows.length), w.cell? ⟨b, o + i, none⟩ = some rows[i].1) ∧ ∀ t ∈ rows, RdR w w.heap.size t.1 t.2

def RowPost (ts : List VT) (w : World) (e : Ending) (w' : World) : Prop := ∃ v', e = .returned v' ∧ OwnV w.heap.size v' ts w' ∧ Below w.heap.size w w'

theorem RdR.val {w : World} {B : Nat} {v : Value} {ts : List VT} (h : RdR w B v ts) : ∃ A cap, v = .slice A ts.length cap ∧ ts.length ≤ cap ∧ cap ≤ maxLen := by
  obtain ⟨⟨A, cap, rfl, h1, h2, -⟩, -⟩ := h
  exact ⟨A, cap, rfl, h1, h2⟩

set_option maxHeartbeats 4000000 in
set_option maxRecDepth 100000 in
theorem concatR_any (rows : List (Value × List VT)) (v : Value) (w : World) (hx : RdRR w v rows) (hn : rows.length ≤ 10) (hs : (catR rows).length ≤ 10000) :
    Calls Try.prog 75 #[v] w (RowPost (catR rows) w) := by
  obtain ⟨⟨b, o, cap, rfl, hl1, hl2, hb, hc⟩, hR⟩ := hx
  unfold maxLen at hl2
  have HR := hid hR
  have HC := hid hc
  have HM := hid (fun t ht => catR_mem (rows := rows) (t := t) ht)
  have HK := hid (fun k => show (catR (rows.take k)).length ≤ (catR rows).length from catB_take_le rows k)
  clear hR hc
  go_enter Try.func75, Try.ntmps75
  go_wp2
  go_loop [3, 11] (fun vs vi => ∃ k : Nat, vi = .int .i64 k ∧ k ≤ rows.length ∧ vs = .int .i64 (catR (rows.take k)).length) (fun _ vi => rows.length - (intOf vi).toNat)
  case atStart => exact ⟨0, rfl, by omega, by simp [catR]⟩
  case round =>
    obtain ⟨k, rfl, hk, rfl⟩ := hrel
    by_cases hlt : k < rows.length
    · have c0 := HC.out k hlt
      have hm := List.getElem_mem hlt
      have hst : (catR (rows.take (k + 1))).length = (catR (rows.take k)).length + rows[k].2.length := by rw [catR_step hlt, List.length_append]
      have hl1 := HK.out k
      have hl2 := HK.out (k + 1)
      obtain ⟨A2, cp, hv, -⟩ := (HR.out _ hm).val
      rw [hv] at c0
      have HST := hid hst
      clear hm hv hst
      generalize (catR (rows.take k)).length = z at *
      generalize rows[k].2.length = y at *
      have hxy : z + y ≤ 10000 := by have := HST.out; omega
      go_wp2
      go_round
      case rel => exact ⟨k + 1, by go_num, by omega, by rw [HST.out]; go_num⟩
      case measure => simp [intOf]; omega
    · obtain rfl : k = rows.length := by omega
      rw [List.take_length]
      have HGR := hid (growR_any (catR rows).length (by omega) w)
      go_wp2_with fail
      refine (HGR.out).mono ?_
      rintro e w1 ⟨v1, rfl, hO1, hB1⟩
      have O1 := hid hO1
      have B1 := hid hB1
      clear hO1 hB1 HGR
      go_wp2
      go_loopw [6, 27] (fun vs vi wr => ∃ k : Nat, vi = .int .i64 k ∧ k ≤ rows.length ∧ Hid (OwnV w.heap.size vs (catR (rows.take k)) wr) ∧ Hid (Below w.heap.size w wr)) (fun _ vi _ => rows.length - (intOf vi).toNat)
      case atStart => exact ⟨0, rfl, by omega, O1, B1⟩
      case round =>
        obtain ⟨k, rfl, hk, hO, hB⟩ := hrel
        by_cases hlt : k < rows.length
        · have c0 := (hB.out.cell (p := ⟨b, o + k, none⟩) hb).trans (HC.out k hlt)
          have hm := List.getElem_mem hlt
          have HST := hid (catR_step hlt)
          have hl1 := HK.out k
          have hl2 := HM.out _ hm
          have HX := hid ((HR.out _ hm).to hB.out)
          have hbw := hB.out.size
          obtain ⟨A2, cp, hv, -⟩ := HX.out.val
          rw [hv] at c0
          have HV := hid hv
          rw [HV.out] at HX
          clear hm hv HV
          generalize rows[k].2 = y at *
          generalize catR (rows.take k) = z at *
          go_wp2_with (at_builtin; refine wpList_appR rfl (.tmp 31) (.tmp 32) rfl w.heap.size _ _ z y rfl hO.out rfl HX.out (by omega) hbw ?_)
          intro v' w2 hown hgrow
          have O2 := hid (show OwnV w.heap.size v' (catR (rows.take (k + 1))) w2 from by rw [HST.out]; exact hown)
          have B2 := hid (hB.out.grown hgrow hbw (fun k hk => (World.ownsRow.lt hO.out k hk).1))
          clear hown hgrow
          go_wp2
          go_roundw
          case rel => exact ⟨k + 1, by go_num, by omega, O2, B2⟩
          case measure => simp [intOf]; omega
        · obtain rfl : k = rows.length := by omega
          rw [List.take_length] at hO
          have EX : Hid (RowPost (catR rows) w (.returned u6) wr) := hid ⟨_, rfl, hO.out, hB.out⟩
          clear hO hB
          go_wp2
          go_ret
          exact EX.out
end Go.Proofs.Ytkkigdbinnfbfaa
