/-
  The walks of the reference's in and Strings; an append of texts that lie somewhere, or nowhere. Conditions: rows of at most 1000000 texts.
-/
import Derived.Test.YthbieinbpfjgkaaGreatDoorMA5
import Derived.BigQuiet
namespace Go.Proofs.YthbieinbpfjgkaaGreatDoor
open Go.RowKit Go.Sort

theorem run_appE (B : Nat) (v vx : Value) (l lx : List ByteArray) (w : World) (hown : OwnS B v l w) (hr : RdS w w.heap.size vx lx) (h0 : lx = [] → vx = .slice none 0 0 ∨ ∃ ad cap, vx = .slice (some ad) 0 cap) (hl : l.length + lx.length ≤ 4000000) (hB : B ≤ w.heap.size) :
    ∃ v' w', (Builtin.append_ #[34, 34] 34 #[v, vx]).run Tryz.prog w = .ok v' w' ∧ OwnS B v' (l ++ lx) w' ∧ w.grownBy w' v.ownBlock ∧ (v'.ownBlock = v.ownBlock ∨ v'.ownBlock = some w.heap.size) := by
  by_cases hn : lx = []
  · rcases h0 hn with h | ⟨ad, cap, rfl⟩
    · exact run_appS B v vx l lx w hown hr (fun _ => h) hl hB
    · subst hn
      obtain ⟨i0, hi, hz0, hz1, hz2⟩ := info_parts infoStr
      obtain ⟨v', w', hr, h2, h3, -, h5⟩ := run_append_own_at (P := Tryz.prog) w B 34 34 9 i0 (.string ⟨#[]⟩) 1 16 Tryz.underlying34 hi hz0 hz1 hz2 rfl (by decide) v l.length (l.map Value.string) hown ad 0 cap [] (by simp) (by intro j u hu; simp at hu) (by intro u hu; cases hu) (by unfold maxLen; simp at hl; omega) (by simp at hl; omega) hB
      refine ⟨v', w', hr, ?_, h3, h5⟩
      unfold OwnS
      simpa using h2
  · exact run_appS B v vx l lx w hown hr (fun h => absurd h hn) hl hB

theorem wpList_appE {ops : Array Oper} {rest : List Oper} {w : World} {o : Oper} {a : Act} {Q : Exit → Act → World → Prop} (hgd : o.guard = none) (s x : Operand)
    (ho : o.op = .call { callee := .builtin .append, args := #[s, x], argTypes := #[34, 34] }) (hty : o.type = 34)
    (B : Nat) (v vx : Value) (l lx : List ByteArray) (hs : a.eval s = v) (hown : OwnS B v l w) (hx : a.eval x = vx) (hr : RdS w w.heap.size vx lx) (h0 : lx = [] → vx = .slice none 0 0 ∨ ∃ ad cap, vx = .slice (some ad) 0 cap)
    (hl : l.length + lx.length ≤ 4000000) (hB : B ≤ w.heap.size)
    (h : ∀ v' w', OwnS B v' (l ++ lx) w' → w.grownBy w' v.ownBlock → (v'.ownBlock = v.ownBlock ∨ v'.ownBlock = some w.heap.size) → wpList Tryz.prog ops Q rest (a.put o.dst v') w') : wpList Tryz.prog ops Q (o :: rest) a w := by
  refine wpList_plain hgd fun K hK => ?_
  obtain ⟨v', w', hrn, h1, h2, h3⟩ := run_appE B v vx l lx w hown hr h0 hl hB
  unfold Oper.wp execOp
  simp only [ho, hty, resolve, invoke, builtin, Sem.run_bind, Sem.run_pure, Result.andThen_ok, List.map_toArray, List.map_cons, List.map_nil, hs, hx, hrn]
  exact hK _ _ (h v' w' h1 h2 h3)

/-- A row of the call's own is nil, or lies somewhere. -/
theorem OwnS.lies {B : Nat} {v : Value} {ss : List ByteArray} {w : World} (h : OwnS B v ss w) (h0 : ss = []) : v = .slice none 0 0 ∨ ∃ ad cap, v = .slice (some ad) 0 cap := by
  subst h0
  rcases h.2 with ⟨hv, _⟩ | ⟨g, cap, cur, hv, _⟩
  · exact Or.inl hv
  · exact Or.inr ⟨_, cap, hv⟩

theorem contains_step (s x : ByteArray) (r : List ByteArray) : Lib.containsS (s :: r) x = (decide (s = x) || Lib.containsS r x) := by
  rw [Bool.eq_iff_iff, Bool.or_eq_true, E.containsS_mem, E.containsS_mem, decide_eq_true_eq, List.mem_cons]
  constructor
  · rintro (h | h)
    · exact Or.inl h.symm
    · exact Or.inr h
  · rintro (h | h)
    · exact Or.inl h.symm
    · exact Or.inr h

set_option maxHeartbeats 1000000 in
set_option maxRecDepth 100000 in
theorem rin_any (ss : List ByteArray) (hs : ss.length ≤ 1000000) (x : ByteArray) (v : Value) (w : World) (h : RdS w w.heap.size v ss) :
    Calls Tryz.prog 81 #[v, .string x] w fun e w' => e = .returned (.bool (Lib.containsS ss x)) ∧ w = w' := by
  have HS := hid h
  obtain ⟨A, cap, rfl, -⟩ := h
  go_enter Tryz.func81, Tryz.ntmps81
  go_wp2
  go_loop [5] (fun vi => ∃ k : Nat, vi = .int .i64 k ∧ k ≤ ss.length ∧ Hid (Lib.containsS (ss.drop k) x = Lib.containsS ss x)) (fun vi => ss.length - (intOf vi).toNat)
  case atStart => exact ⟨0, rfl, by omega, hid rfl⟩
  case round =>
    obtain ⟨k, rfl, hk, hE⟩ := hrel
    by_cases hlt : k < ss.length
    · have hkz : (k : Int) < (ss.length : Int) := by omega
      obtain ⟨A', c', hv, hc⟩ := HS.out
      simp only [Value.slice.injEq, true_and] at hv
      obtain ⟨rfl, rfl⟩ := hv
      obtain ⟨b, o, rfl, hb, hc⟩ := hc (by rintro rfl; simp at hlt)
      have ck := hc k hlt
      have hst := hE.out
      rw [List.drop_eq_getElem_cons hlt, contains_step] at hst
      obtain ⟨s, hs'⟩ : ∃ s, s = ss[k] := ⟨_, rfl⟩
      rw [← hs'] at ck hst
      have e1 := eqS s x
      clear hc hs' hE
      by_cases g : s = x
      · rw [decide_eq_true g] at e1 hst
        have HV : Hid (Lib.containsS ss x = true) := hid (by rw [← hst]; rfl)
        clear hst g
        go_wp2
        go_ret
        exact ⟨ret_bool HV.out.symm, rfl⟩
      · rw [decide_eq_false g, Bool.false_or] at hst
        rw [decide_eq_false g] at e1
        have HV := hid hst
        clear hst g
        go_wp2
        go_round
        case rel => exact ⟨k + 1, by go_num, by omega, HV⟩
        case measure => simp [intOf]; omega
    · have hkz : ¬ (k : Int) < (ss.length : Int) := by omega
      have HV : Hid (Lib.containsS ss x = false) := hid (by rw [← hE.out, List.drop_eq_nil_of_le (by omega)]; rfl)
      clear hE
      go_wp2
      go_ret
      exact ⟨ret_bool HV.out.symm, rfl⟩

set_option maxHeartbeats 4000000 in
set_option maxRecDepth 100000 in
theorem rstrings_any (ss ts : List ByteArray) (hs : ss.length ≤ 1000000) (vs vt : Value) (w : World) (h : RdS w w.heap.size vs ss) (g : RdS w w.heap.size vt ts) :
    Calls Tryz.prog 23 #[vs, vt] w fun e w' => e = .returned (.bool (decide (ss = ts))) ∧ Below w.heap.size w w' := by
  have HS := hid h
  have HT := hid g
  obtain ⟨A, cap, rfl, -⟩ := h
  obtain ⟨A2, cap2, rfl, -⟩ := g
  by_cases hl : ss.length = ts.length
  case neg =>
    have hne : ((ss.length : Int) != (ts.length : Int)) = true := by simp; omega
    have HV : Hid (decide (ss = ts) = false) := hid (decide_eq_false fun h => hl (by rw [h]))
    clear hl
    go_enter Tryz.func23, Tryz.ntmps23
    go_wp2
    go_ret
    exact ⟨ret_bool HV.out.symm, Below.refl _ _⟩
  obtain ⟨n, hn⟩ : ∃ n, n = ss.length := ⟨_, rfl⟩
  rw [← hl, ← hn]
  have HL := hid hl
  have HN := hid hn
  rw [← hn] at hs
  clear hl hn
  go_enter Tryz.func23, Tryz.ntmps23
  go_wp2
  go_loopw [5] (fun vi wr => ∃ k : Nat, vi = .int .i64 k ∧ k ≤ n ∧ Hid (ss.take k = ts.take k) ∧ Hid (Below w.heap.size w wr)) (fun vi _ => n - (intOf vi).toNat)
  case atStart => exact ⟨0, rfl, by omega, hid rfl, hid (Below.refl _ _)⟩
  case round =>
    obtain ⟨k, rfl, hk, hE, hB⟩ := hrel
    by_cases hlt : k < n
    · have hkz : (k : Int) < (n : Int) := by omega
      have h1 : k < ss.length := by rw [← HN.out]; exact hlt
      have h2 : k < ts.length := by rw [← HL.out]; exact h1
      obtain ⟨A', c', hv, hc⟩ := HS.out
      simp only [Value.slice.injEq] at hv
      obtain ⟨rfl, -, -⟩ := hv
      obtain ⟨b, o, rfl, hb, hc⟩ := hc (by rintro rfl; simp at h1)
      obtain ⟨A', c', hv, hc2⟩ := HT.out
      simp only [Value.slice.injEq] at hv
      obtain ⟨rfl, -, -⟩ := hv
      obtain ⟨b2, o2, rfl, hb2, hc2⟩ := hc2 (by rintro rfl; simp at h2)
      have ck := (hB.out.cell (p := ⟨b, o + k, none⟩) hb).trans (hc k h1)
      have ck2 := (hB.out.cell (p := ⟨b2, o2 + k, none⟩) hb2).trans (hc2 k h2)
      obtain ⟨s, hs'⟩ : ∃ s, s = ss[k] := ⟨_, rfl⟩
      obtain ⟨t, ht'⟩ : ∃ t, t = ts[k] := ⟨_, rfl⟩
      rw [← hs'] at ck
      rw [← ht'] at ck2
      have e1 := eqS s t
      by_cases g : s = t
      · rw [decide_eq_true g] at e1
        have e2 : (s.toList != t.toList) = false := by rw [bne, e1]; rfl
        have HV : Hid (ss.take (k + 1) = ts.take (k + 1)) := hid (by rw [List.take_succ_eq_append_getElem h1, List.take_succ_eq_append_getElem h2, hE.out, ← hs', ← ht', g])
        clear hc hc2 hs' ht' hE g
        go_wp2
        go_quiet (fail)
        go_wp2
        go_roundw
        case rel => first | exact ⟨k + 1, by go_num, by omega, HV, hB⟩ | exact ⟨k + 1, by go_num, by omega, HV, hid (below_drewN hB.out _)⟩
        case measure => simp [intOf]; omega
      · rw [decide_eq_false g] at e1
        have e2 : (s.toList != t.toList) = true := by rw [bne, e1]; rfl
        have HV : Hid (decide (ss = ts) = false) := hid (decide_eq_false fun h => g (by subst h; rw [hs', ht']))
        clear hc hc2 hs' ht' hE g
        go_wp2
        go_quiet (fail)
        go_wp2
        go_ret
        first | exact ⟨ret_bool HV.out.symm, hB.out⟩ | exact ⟨ret_bool HV.out.symm, below_drewN hB.out _⟩
    · have hkz : ¬ (k : Int) < (n : Int) := by omega
      have HV : Hid (decide (ss = ts) = true) := hid (decide_eq_true (by
        have := hE.out
        rw [List.take_of_length_le (by have := HN.out; omega), List.take_of_length_le (by have := HN.out; have := HL.out; omega)] at this
        exact this))
      clear hE
      go_wp2
      go_ret
      exact ⟨ret_bool HV.out.symm, hB.out⟩

end Go.Proofs.YthbieinbpfjgkaaGreatDoor
