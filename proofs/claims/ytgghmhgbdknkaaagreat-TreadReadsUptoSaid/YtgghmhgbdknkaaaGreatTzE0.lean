/-
  An append of sites that are read to a row of the call's own; what stands for one level on. Condition: together at most 4000000 sites.
-/
import Derived.Test.YtgghmhgbdknkaaaGreatTzC2
import Derived.Test.YtgghmhgbdknkaaaGreatM6
namespace Go.Proofs.YtgghmhgbdknkaaaGreat
open Go.RowKit

theorem infoSite2 : (Tryz.prog.info? 41).map (fun i => (i.zero, i.size, i.bytes)) = some (some (.agg #[.int .i64 0, .int .i64 0, .bool false]), 3, 24) := by kernel_rfl

theorem run_append_noSites (w : World) (A A2 : Option Addr) (n cap cap2 : Nat) (hn : n ≤ cap) : (Builtin.append_ #[27, 27] 27 #[.slice A n cap, .slice A2 0 cap2]).run Tryz.prog w = .ok (.slice A n cap) w := by
  obtain ⟨i0, hi, hz0, hz1, hz2⟩ := info_parts infoSite2
  have hu := run_underlying (w := w) Tryz.underlying27
  cases A with
  | none => cases A2 <;> simp [Builtin.append_, hu, sizeOf, typeInfo, hi, Builtin.lenOf, hn, Builtin.firstCells, loadCells, loadCellsFrom]
  | some a => cases A2 <;> simp [Builtin.append_, hu, sizeOf, typeInfo, hi, Builtin.lenOf, hn, Builtin.firstCells, storeCells, loadCells, loadCellsFrom]

theorem RdSi.src {w : World} {v : Value} {l : List T.Si} (h : RdSi w v l) : (∃ A c, v = .slice A 0 c ∧ l = []) ∨ ∃ a c, v = .slice (some a) l.length c ∧ ∀ j u, (cellsSi l)[j]? = some u → w.cell? (a.add j) = some u := by
  obtain ⟨A, cap, rfl, hc⟩ := h
  by_cases hl : l = []
  · subst hl
    exact Or.inl ⟨A, cap, rfl, rfl⟩
  · obtain ⟨b, o, rfl, hb, hcell⟩ := hc hl
    refine Or.inr ⟨_, cap, rfl, fun j u hu => ?_⟩
    have hj : j < l.length * 3 := by
      have h1 : j < (cellsSi l).length := by
        rcases Nat.lt_or_ge j (cellsSi l).length with h | h
        · exact h
        · rw [List.getElem?_eq_none h] at hu; cases hu
      rw [cellsSi_len] at h1
      exact h1
    have hi : j / 3 < l.length := by omega
    have he : ((⟨b, o, none⟩ : Addr).add j) = ⟨b, o + j, none⟩ := by unfold Addr.add; split <;> simp_all
    rw [he]
    obtain ⟨q0, q1, q2⟩ := hcell (j / 3) hi
    obtain ⟨r0, r1, r2⟩ := cellsSi_at hi
    have hm : j % 3 = 0 ∨ j % 3 = 1 ∨ j % 3 = 2 := by omega
    rcases hm with hm | hm | hm
    · rw [show j / 3 * 3 = j by omega] at r0 q0
      rw [← hu, r0]; exact q0
    · rw [show j / 3 * 3 + 1 = j by omega] at r1
      rw [show o + j / 3 * 3 + 1 = o + j by omega] at q1
      rw [← hu, r1]; exact q1
    · rw [show j / 3 * 3 + 2 = j by omega] at r2
      rw [show o + j / 3 * 3 + 2 = o + j by omega] at q2
      rw [← hu, r2]; exact q2

theorem cellsSi_one (l : List T.Si) : ∀ u ∈ cellsSi l, u.oneCell' = true := by
  intro u hu
  obtain ⟨x, _, hx⟩ := List.mem_flatMap.1 hu
  simp [siC] at hx
  rcases hx with rfl | rfl | rfl <;> rfl

set_option maxRecDepth 100000 in
theorem wpList_appSi {ops : Array Oper} {rest : List Oper} {w : World} {o : Oper} {a : Act} {Q : Exit → Act → World → Prop} (hgd : o.guard = none) (s x : Operand)
    (ho : o.op = .call { callee := .builtin .append, args := #[s, x], argTypes := #[27, 27] }) (hty : o.type = 27)
    (B : Nat) (v vx : Value) (l lx : List T.Si) (hs : a.eval s = v) (hown : OwnSi B v l w) (hx : a.eval x = vx) (hr : RdSi w vx lx)
    (hl : l.length + lx.length ≤ 4000000) (hB : B ≤ w.heap.size)
    (h : ∀ v' w', OwnSi B v' (l ++ lx) w' → w.grownBy w' v.ownBlock → wpList Tryz.prog ops Q rest (a.put o.dst v') w') : wpList Tryz.prog ops Q (o :: rest) a w := by
  obtain ⟨i0, hi, hz0, hz1, hz2⟩ := info_parts infoSite2
  rcases hr.src with ⟨A2, c2, rfl, rfl⟩ | ⟨ad, cap, rfl, hsrc⟩
  · have hv : ∃ A c, v = .slice A l.length c ∧ l.length ≤ c := by
      rcases hown.2 with ⟨hv, h0⟩ | ⟨g, cap, cur, hv, hb, hh, hc, hm, hsz, htk⟩
      · exact ⟨none, 0, by rw [hv, h0], by omega⟩
      · exact ⟨_, cap, hv, hc⟩
    obtain ⟨A, c, hv, hn⟩ := hv
    refine wpList_plain hgd fun K hK => ?_
    unfold Oper.wp execOp
    have hrn := run_append_noSites w A A2 l.length c c2 hn
    rw [← hv] at hrn
    simp only [ho, hty, resolve, invoke, builtin, Sem.run_bind, Sem.run_pure, Result.andThen_ok, List.map_toArray, List.map_cons, List.map_nil, hs, hx, hrn]
    exact hK _ _ (h v w (by simpa using hown) (grown_refl w _))
  · refine wpList_append_own w hgd s x 27 ho B 41 i0 (.agg #[.int .i64 0, .int .i64 0, .bool false]) 3 24 Tryz.underlying27 hi hz0 hz1 hz2 rfl (by decide) v l.length (cellsSi l) hs hown ad lx.length cap (cellsSi lx) hx (cellsSi_len lx) hsrc (cellsSi_one lx) (by unfold maxLen; omega) (by omega) hB ?_
    intro v' w' h1 h2 _
    refine h v' w' ?_ h2
    have e : cellsSi (l ++ lx) = cellsSi l ++ cellsSi lx := by simp [cellsSi]
    unfold OwnSi
    rw [e, List.length_append]
    exact h1

/-- A step's end: a type and the state behind it, laid into the result's variable. -/
theorem zend {M : Nat} {r : T.R T.Tr} {w0 w : World} {p : Nat} {site : Int} {A1 : Option Addr} {n1 c1 : Nat} {er : Int} (hz : ZB w0 p site A1 n1 c1 er w) {B : Nat} {v : Value} {t : T.Tr} (ho : Own B v t.flat w) (hB : w0.heap.size ≤ B) {s' : T.S} {A : Option Addr} {n c : Nat}
    (hs : RdSt w (.slice A n c) s'.sites) (hr : r = .ok t s') (a b : Int) (ha : a = (s'.pl : Int)) (hb : b = s'.site) :
    WPost M r w0 (.returned (.tuple #[v, .agg #[.int .i64 a, .int .i64 b, .slice A n c, .int .i64 0]])) (put4 w (w0.heap.size + 1) (.int .i64 a) (.int .i64 b) (.slice A n c) (.int .i64 0)) := by
  subst ha
  subst hb
  have hg := put4_grown w (w0.heap.size + 1) (.int .i64 (s'.pl : Int)) (.int .i64 s'.site) (.slice A n c) (.int .i64 0)
  exact ⟨below4 (b := w0.heap.size + 1) hz.bel _ _ _ _, Or.inr ⟨t, s', v, A, n, c, hr, rfl, row_put (show w.ownsRow w0.heap.size 54 3 v t.flat.length (cellsN t.flat) from Own.more ho hB) hz.out (by decide) hg, hs.put hz.out (by decide) hg⟩⟩
theorem WPost.drew {M : Nat} {r : T.R T.Tr} {w0 w : World} {e : Ending} (h : WPost M r w0 e w) : WPost M r w0 e w.drew := by
  have hb := (Below.refl w.heap.size w).drew
  rcases h with ⟨h1, ⟨p, er, v, ns, site, A, n, c, h2, h3, h4, h5⟩ | ⟨t, s', v, A, n, c, h2, h3, h4, h5⟩⟩
  · exact ⟨h1.drew, Or.inl ⟨p, er, v, ns, site, A, n, c, h2, h3, h4.below hb, h5⟩⟩
  · exact ⟨h1.drew, Or.inr ⟨t, s', v, A, n, c, h2, h3, h4.below hb, h5.below hb⟩⟩
/-- A step's end where something is wrong. -/
theorem zbad {M : Nat} {r : T.R T.Tr} {w0 w : World} {p : Nat} {site : Int} {A1 : Option Addr} {n1 c1 : Nat} {er : Int} (hz : ZB w0 p site A1 n1 c1 er w) {v : Value} {ns : List L.Nd} (ho : Own w0.heap.size v ns w) (hn : ns.length ≤ M) {q : Nat} {site2 er2 : Int} {A : Option Addr} {n c : Nat}
    (hr : r = .bad q er2) : WPost M r w0 (.returned (.tuple #[v, .agg #[.int .i64 (q : Int), .int .i64 site2, .slice A n c, .int .i64 er2]])) (put4 w (w0.heap.size + 1) (.int .i64 (q : Int)) (.int .i64 site2) (.slice A n c) (.int .i64 er2)) := by
  have hg := put4_grown w (w0.heap.size + 1) (.int .i64 (q : Int)) (.int .i64 site2) (.slice A n c) (.int .i64 er2)
  have ho2 : Own w0.heap.size v ns _ := row_put (show w.ownsRow w0.heap.size 54 3 v ns.length (cellsN ns) from ho) hz.out (by decide) hg
  exact ⟨below4 (b := w0.heap.size + 1) hz.bel _ _ _ _, Or.inl ⟨q, er2, v, ns, site2, A, n, c, hr, rfl, ho2, hn⟩⟩
/-- What stands for one level on: none at the last level. -/
def ZNx (M : Nat) (l : List T.Tk) (vl : Value) (lv : Int) (A : Option T.P) : Prop :=
  (100 ≤ lv ∧ A = none) ∨ (lv < 100 ∧ ∃ B, A = some B ∧ T.GoodP l B ∧ T.BadP l B ∧ ZNext M l vl (lv + 1) B)

end Go.Proofs.YtgghmhgbdknkaaaGreat
