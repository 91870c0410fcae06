/-
  The walks of leavenref12.Few and of leavenlaw12.few. Conditions: types whose texts are the machine's.
-/
import Derived.Test.YtkkigdbinnfbfaaTmC
import Derived.Test.YtkkigdbinnfbfaaTmLp
import Derived.Test.YtkkigdbinnfbfaaM4
namespace Go.Proofs.Ytkkigdbinnfbfaa
open Go.RowKit

theorem Rd.at {w : World} {B n cap : Nat} {A : Option Addr} {l : List L.Nd} (h : Rd w B (.slice A n cap) l) {k : Nat} (hk : k < l.length) :
    ∃ b o, A = some ⟨b, o, none⟩ ∧ b < B ∧ w.cell? ⟨b, o + k * 3, none⟩ = some (.int .i64 l[k].kind) ∧ w.cell? ⟨b, o + k * 3 + 1, none⟩ = some (.string l[k].name) ∧ w.cell? ⟨b, o + k * 3 + 2, none⟩ = some (.int .i64 l[k].n) := by
  obtain ⟨A', c', hv, -, -, -, hc⟩ := h
  simp only [Value.slice.injEq] at hv
  obtain ⟨rfl, rfl, rfl⟩ := hv
  obtain ⟨b, o, rfl, hb, hc⟩ := hc (by rintro rfl; simp at hk)
  obtain ⟨x0, x1, x2⟩ := hc k hk
  exact ⟨b, o, rfl, hb, x0, x1, x2⟩
theorem RdR.at {w : World} {B n cap : Nat} {A : Option Addr} {ts : List VT} (h : RdR w B (.slice A n cap) ts) {k : Nat} (hk : k < ts.length) :
    ∃ b o, A = some ⟨b, o, none⟩ ∧ b < B ∧ w.cell? ⟨b, o + k, none⟩ = some ts[k].1 := by
  obtain ⟨⟨A', c', hv, -, -, -, hc⟩, -⟩ := h
  simp only [Value.slice.injEq] at hv
  obtain ⟨rfl, rfl, rfl⟩ := hv
  obtain ⟨b, o, rfl, hb, hc⟩ := hc (by rintro rfl; simp at hk)
  exact ⟨b, o, rfl, hb, hc k hk⟩
theorem RdR.len {w : World} {B : Nat} {v : Value} {ts : List VT} (h : RdR w B v ts) : ∃ A cap, v = .slice A ts.length cap ∧ ts.length ≤ cap ∧ cap ≤ maxLen := by
  obtain ⟨⟨A, cap, rfl, h1, h2, -, -⟩, -⟩ := h
  exact ⟨A, cap, rfl, h1, h2⟩

/-- Few nodes, short names, a type. -/
def L.fewL (m : Nat) (t : List L.Nd) : Bool := decide (t.length ≤ m) && (t.all (fun x => decide (x.name.size ≤ 100)) && L.rightL t)

set_option maxHeartbeats 4000000 in
set_option maxRecDepth 100000 in
theorem few_any (m : Nat) (hm : m ≤ 1000) (t : List L.Nd) (hn : ∀ x ∈ t, x.name.size ≤ 9223372036854775807) (v : Value) (w : World) (hx : Rd w w.heap.size v t) :
    Calls Try.prog 10 #[v, .int .i64 m] w fun e w' => e = .returned (.bool (L.fewL m t)) ∧ Below w.heap.size w w' := by
  have HX := hid hx
  obtain ⟨A, cap, rfl, hl1, hl2⟩ := hx.len
  unfold maxLen at hl2
  have HN := hid hn
  have hnm : Hid (t.length ≤ 1000 → (t.all fun x => decide (x.name.size ≤ 100)) = true → Calls Try.prog 26 #[.slice A t.length cap] w fun e w' => e = .returned (.bool (L.rightL t)) ∧ Below w.heap.size w w') := hid fun _ ha => refRight_any t (fun x hx => by have := of_decide_eq_true (List.all_eq_true.1 ha x hx); omega) _ w HX.out
  clear hn hx
  go_enter Try.func10, Try.ntmps10
  by_cases hlm : t.length ≤ m
  · go_wp2
    go_loop [5] (fun v5 => ∃ k : Nat, v5 = .int .i64 k ∧ k ≤ t.length ∧ Hid ((t.take k).all (fun x => decide (x.name.size ≤ 100)) = true)) (fun v5 => t.length - (intOf v5).toNat)
    case atStart => exact ⟨0, rfl, by omega, hid (by simp)⟩
    case round =>
      obtain ⟨k, rfl, hk, hA⟩ := hrel
      by_cases hlt : k < t.length
      · obtain ⟨b, o, rfl, hb, -, c1, -⟩ := HX.out.at hlt
        have hst : t.take (k + 1) = t.take k ++ [t[k]] := List.take_succ_eq_append_getElem hlt
        have HS := hid (HN.out t[k] (List.getElem_mem hlt))
        have hs := HS.out
        by_cases hx : t[k].name.size ≤ 100
        · have HA2 := hid (show (t.take (k + 1)).all (fun x => decide (x.name.size ≤ 100)) = true from by rw [hst, List.all_append, hA.out]; simp [hx])
          clear hst hA
          generalize t[k] = x at *
          go_wp2
          go_round
          case rel => exact ⟨k + 1, by go_num, by omega, HA2⟩
          case measure => simp [intOf]; omega
        · have e1 : Hid (L.fewL m t = false) := hid (by
            unfold L.fewL
            have : (t.all fun x => decide (x.name.size ≤ 100)) = false := by
              rw [Bool.eq_false_iff]
              intro h
              exact hx (of_decide_eq_true (List.all_eq_true.1 h _ (List.getElem_mem hlt)))
            rw [this]; simp)
          clear hst hA
          generalize t[k] = x at *
          go_wp2
          go_ret
          exact ⟨ret_bool (by rw [e1.out]), Below.refl _ _⟩
      · have hall : (t.all fun x => decide (x.name.size ≤ 100)) = true := by
          have := hA.out
          rwa [List.take_of_length_le (by omega)] at this
        have HR := hid (hnm.out (by omega) hall)
        have e1 : Hid (L.fewL m t = L.rightL t) := hid (by unfold L.fewL; rw [hall]; simp [hlm])
        clear hall hA hnm
        go_wp2_with fail
        refine (HR.out).mono ?_
        rintro e w1 ⟨rfl, hb⟩
        have HB := hid hb
        clear hb HR
        go_wp2_with fail
        go_ret
        exact ⟨ret_bool (by rw [e1.out]), HB.out⟩
  · have e1 : Hid (L.fewL m t = false) := hid (by unfold L.fewL; simp [hlm])
    clear hnm
    go_wp2
    go_ret
    exact ⟨ret_bool (by rw [e1.out]), Below.refl _ _⟩
/-- At most ten types, each of few nodes. -/
def L.fewR (ts : List (List L.Nd)) : Bool := decide (ts.length ≤ 10) && ts.all (L.fewL 60)

set_option maxHeartbeats 4000000 in
set_option maxRecDepth 100000 in
theorem fews_any (ts : List VT) (hn : ∀ t ∈ ts, ∀ x ∈ t.2, x.name.size ≤ 9223372036854775807) (v : Value) (w : World) (hx : RdR w w.heap.size v ts) :
    Calls Try.prog 4 #[v] w fun e w' => e = .returned (.bool (L.fewR (ts.map (·.2)))) ∧ Below w.heap.size w w' := by
  have HX := hid hx
  obtain ⟨A, cap, rfl, hl1, hl2⟩ := hx.len
  unfold maxLen at hl2
  have HN := hid hn
  clear hn hx
  go_enter Try.func4, Try.ntmps4
  go_wp2
  go_loopw [3] (fun v3 wr => ∃ k : Nat, v3 = .int .i64 k ∧ k ≤ ts.length ∧ k ≤ 10 ∧ Hid ((ts.take k).all (fun t => L.fewL 60 t.2) = true) ∧ Hid (Below w.heap.size w wr)) (fun v3 _ => ts.length - (intOf v3).toNat)
  case atStart => exact ⟨0, rfl, by omega, by omega, hid (by simp), hid (Below.refl _ _)⟩
  case round =>
    obtain ⟨k, rfl, hk, hk10, hA, hB⟩ := hrel
    by_cases hlt : k < ts.length
    · by_cases h10 : k = 10
      · have e1 : Hid (L.fewR (ts.map (·.2)) = false) := hid (by
          unfold L.fewR
          rw [decide_eq_false (by rw [List.length_map]; omega)]; rfl)
        have hk2 : (k : Int) = 10 := by omega
        clear hA
        go_wp2
        go_ret
        exact ⟨ret_bool (by rw [e1.out]), hB.out⟩
      · have hk2 : ¬(k : Int) = 10 := by omega
        obtain ⟨b, o, rfl, hb, c1⟩ := ((HX.out.below hB.out).mono hB.out.size).at hlt
        have hst : ts.take (k + 1) = ts.take k ++ [ts[k]] := List.take_succ_eq_append_getElem hlt
        have HF := hid (few_any 60 (by omega) ts[k].2 (HN.out _ (List.getElem_mem hlt)) ts[k].1 wr (((HX.out.below hB.out).mono hB.out.size).2 _ (List.getElem_mem hlt)))
        have hm : Hid (ts[k] ∈ ts) := hid (List.getElem_mem hlt)
        have HST := hid hst
        clear hst
        generalize ts[k] = x at *
        cases hf : L.fewL 60 x.2 with
        | true =>
          rw [hf] at HF
          have HA2 := hid (show (ts.take (k + 1)).all (fun t => L.fewL 60 t.2) = true from by rw [HST.out, List.all_append, hA.out]; simp [hf])
          clear hf hA
          go_wp2_with fail
          refine (HF.out).mono ?_
          rintro e w1 ⟨rfl, hb1⟩
          have HB2 := hid (hB.out.trans (hb1.mono hB.out.size))
          clear hb1 HF hB
          go_wp2_with fail
          go_round
          case rel => exact ⟨k + 1, by go_num, by omega, by omega, HA2, HB2⟩
          case measure => simp [intOf]; omega
        | false =>
          rw [hf] at HF
          have e1 : Hid (L.fewR (ts.map (·.2)) = false) := hid (by
            unfold L.fewR
            have : (ts.map (·.2)).all (L.fewL 60) = false := by
              rw [Bool.eq_false_iff]
              intro h
              have := List.all_eq_true.1 h x.2 (List.mem_map_of_mem hm.out)
              rw [hf] at this
              cases this
            rw [this, Bool.and_false])
          clear hf hA
          go_wp2_with fail
          refine (HF.out).mono ?_
          rintro e w1 ⟨rfl, hb1⟩
          have HB2 := hid (hB.out.trans (hb1.mono hB.out.size))
          clear hb1 HF hB
          go_wp2_with fail
          go_ret
          exact ⟨ret_bool (by rw [e1.out]), HB2.out⟩
    · have e1 : Hid (L.fewR (ts.map (·.2)) = true) := hid (by
        have := hA.out
        rw [List.take_of_length_le (by omega)] at this
        unfold L.fewR
        rw [List.all_map, decide_eq_true (by rw [List.length_map]; omega)]
        exact this)
      clear hA
      go_wp2
      go_ret
      exact ⟨ret_bool (by rw [e1.out]), hB.out⟩
end Go.Proofs.Ytkkigdbinnfbfaa
