/-
  The walks of term's head, tail, isBefore and isOpen. Conditions: types that are not empty.
-/
import Derived.Test.YtkkigdbinnfbfaaTmC
import Derived.Deep.AppendLies
namespace Go.Proofs.Ytkkigdbinnfbfaa.L
open Go
/-- Does a child that begins with a stand before one that begins with b? -/
def befN (a b : Nd) : Bool := if a.kind = 9 ∨ b.kind = 9 then !decide (a.kind = 9) else ltB a.name b.name
def hd0 (l : List Nd) : Nd := l.headD ⟨-1, ⟨#[]⟩, 0⟩
/-- Does a row end with the tail n? -/
def openB (n : Int) (kl : List (List Nd)) : Bool :=
  match kl.getLast? with
  | none => false
  | some k => decide (hd0 k = ⟨9, ⟨#[]⟩, n⟩)
end Go.Proofs.Ytkkigdbinnfbfaa.L
namespace Go.Proofs.Ytkkigdbinnfbfaa
open Go.RowKit Go.Sort

set_option maxHeartbeats 1000000 in
theorem head_any (x : L.Nd) (r : List L.Nd) (v : Value) (w : World) (hx : Rd w w.heap.size v (x :: r)) :
    Calls Try.prog 39 #[v] w fun e w' => e = .returned (.agg #[.int .i64 x.kind, .string x.name, .int .i64 x.n]) ∧ Below w.heap.size w w' := by
  obtain ⟨A, cap, rfl, hl1, hl2, -, hc⟩ := hx
  unfold maxLen at hl2
  obtain ⟨b, o, rfl, hb, hcc⟩ := hc (by simp)
  obtain ⟨x0, x1, x2⟩ := hcc 0 (by simp)
  simp only [Nat.zero_mul, Nat.add_zero, List.getElem_cons_zero] at x0 x1 x2
  obtain ⟨n, hn⟩ : ∃ n, n = (x :: r).length := ⟨_, rfl⟩
  have hpos : 0 < n := by rw [hn]; simp
  rw [← hn] at hl1 ⊢
  have e0 : ((n : Int) == 0) = false := by simp; omega
  clear hc hcc hn
  obtain ⟨k1, s1, n1⟩ := x
  simp only at x0 x1 x2
  go_enter Try.func39, Try.ntmps39
  go_wp2
  exact bodyPost_ret (v := .agg #[.int .i64 k1, .string s1, .int .i64 n1]) (by simp [results, Try.results39, go_sem]) rfl ⟨rfl, below_new _⟩

theorem tail_any (n : Int) (w : World) :
    Calls Try.prog 42 #[.int .i64 n] w fun e w' => e = .returned (.agg #[.int .i64 9, .string ⟨#[]⟩, .int .i64 n]) ∧ Below w.heap.size w w' := by
  go_enter Try.func42, Try.ntmps42
  go_wp2
  exact bodyPost_ret (v := .agg #[.int .i64 9, .string ⟨#[]⟩, .int .i64 n]) (by simp [results, Try.results42, go_sem]) rfl ⟨rfl, below_new _⟩

theorem two_below (w : World) (o1 o2 : Obj) : Below w.heap.size w ((w.alloc o1).alloc o2) := (below_new _).trans ((below_new _).mono (by simp))
set_option maxHeartbeats 1000000 in
theorem isBefore_any (a b : L.Nd) (w : World) :
    Calls Try.prog 49 #[.agg #[.int .i64 a.kind, .string a.name, .int .i64 a.n], .agg #[.int .i64 b.kind, .string b.name, .int .i64 b.n]] w fun e w' => e = .returned (.bool (L.befN a b)) ∧ Below w.heap.size w w' := by
  obtain ⟨k1, s1, n1⟩ := a
  obtain ⟨k2, s2, n2⟩ := b
  by_cases h1 : k1 = 9
  · subst h1
    go_enter Try.func49, Try.ntmps49
    go_wp2
    go_ret
    exact ⟨ret_bool (by simp [L.befN]), two_below _ _ _⟩
  · have e1 : (k1 == 9) = false := by simpa using h1
    have e1' : (k1 != 9) = true := by simpa using h1
    by_cases h2 : k2 = 9
    · subst h2
      have HE : Hid (L.befN ⟨k1, s1, n1⟩ ⟨9, s2, n2⟩ = true) := hid (by simp [L.befN, h1])
      clear h1
      go_enter Try.func49, Try.ntmps49
      go_wp2
      go_ret
      exact ⟨ret_bool (by rw [HE.out]), two_below _ _ _⟩
    · have e2 : (k2 == 9) = false := by simpa using h2
      have HE : Hid (L.befN ⟨k1, s1, n1⟩ ⟨k2, s2, n2⟩ = L.ltB s1 s2) := hid (by unfold L.befN; rw [if_neg (by simp only; omega)])
      clear h1 h2
      go_enter Try.func49, Try.ntmps49
      go_wp2
      go_ret
      exact ⟨ret_bool (by rw [HE.out]; rfl), two_below _ _ _⟩

set_option maxHeartbeats 1000000 in
theorem ext1_any (a b : L.Nd) (ra rb : List L.Nd) (va vb : Value) (w : World) (ha : Rd w w.heap.size va (a :: ra)) (hb : Rd w w.heap.size vb (b :: rb)) :
    Calls Try.prog 48 #[va, vb] w fun e w' => e = .returned (.bool (L.befN a b)) ∧ Below w.heap.size w w' := by
  have HA := hid ha
  have HB := hid hb
  obtain ⟨A1, c1, rfl, -⟩ := ha.len
  obtain ⟨A2, c2, rfl, -⟩ := hb.len
  clear ha hb
  go_enter Try.func48, Try.ntmps48
  go_wp2_with fail
  refine (head_any a ra _ _ HA.out).mono ?_
  rintro e w1 ⟨rfl, h1⟩
  have X1 := hid h1
  clear h1
  go_wp2_with fail
  refine (head_any b rb _ _ ((HB.out.below X1.out).mono X1.out.size)).mono ?_
  rintro e w2 ⟨rfl, h2⟩
  have X2 := hid (X1.out.trans (h2.mono X1.out.size))
  clear h2
  go_wp2_with fail
  refine (isBefore_any a b _).mono ?_
  rintro e w3 ⟨rfl, h3⟩
  have X3 := hid (X2.out.trans (h3.mono X2.out.size))
  clear h3
  go_wp2_with fail
  go_ret
  exact ⟨rfl, X3.out⟩

set_option maxHeartbeats 4000000 in
set_option maxRecDepth 100000 in
theorem isOpen_any (ks : List VT) (h0 : ∀ t ∈ ks, t.2 ≠ []) (hn : ks.length ≤ 1000) (n : Int) (v : Value) (w : World) (hx : RdR w w.heap.size v ks) :
    Calls Try.prog 38 #[v, .int .i64 n] w fun e w' => e = .returned (.bool (L.openB n (ks.map (·.2)))) ∧ Below w.heap.size w w' := by
  obtain ⟨⟨A, cap, rfl, hl1, hl2, -, hc⟩, hR⟩ := hx
  unfold maxLen at hl2
  rcases ks.eq_nil_or_concat with rfl | ⟨init, t, rfl⟩
  · go_enter Try.func38, Try.ntmps38
    go_wp2
    go_ret
    exact ⟨rfl, Below.refl _ _⟩
  · rw [List.concat_eq_append] at *
    obtain ⟨b, o, rfl, hb, hcc⟩ := hc (by simp)
    have c0 := hcc init.length (by simp)
    simp at c0
    have HR := hid (hR t (by simp))
    have hne := h0 t (by simp)
    obtain ⟨vt, l⟩ := t
    simp only at hne c0 HR
    cases l with
    | nil => exact absurd rfl hne
    | cons x r =>
      obtain ⟨A2, c2, rfl, -⟩ := HR.out.len
      obtain ⟨m, hm⟩ : ∃ m, m = init.length := ⟨_, rfl⟩
      have hln : (init ++ [(Value.slice A2 (x :: r).length c2, x :: r)]).length = m + 1 := by simp [hm]
      obtain ⟨ob, hob⟩ : ∃ ob, L.openB n ((init ++ [(Value.slice A2 (x :: r).length c2, x :: r)]).map (·.2)) = ob := ⟨_, rfl⟩
      have HE : Hid (ob = decide (x = ⟨9, ⟨#[]⟩, n⟩)) := hid (by rw [← hob]; simp [L.openB, L.hd0])
      rw [hob]
      rw [hln] at hl1 hn ⊢
      rw [← hm] at c0
      obtain ⟨q, hq⟩ : ∃ q, q = (x :: r).length := ⟨_, rfl⟩
      rw [← hq] at c0
      have HQ := hid hq
      have hp1 : 0 < (m : Int) + 1 := by omega
      clear hc hcc hR h0 hne hm hln hq hob
      go_enter Try.func38, Try.ntmps38
      go_wp2_with fail
      rw [HQ.out]
      refine (head_any x r _ _ HR.out).mono ?_
      rintro e w1 ⟨rfl, h1⟩
      have X1 := hid h1
      clear h1
      obtain ⟨k1, s1, n1⟩ := x
      go_wp2_with fail
      refine (tail_any n _).mono ?_
      rintro e w2 ⟨rfl, h2⟩
      have X2 := hid (X1.out.trans (h2.mono X1.out.size))
      clear h2
      have es := eqS s1 ⟨#[]⟩
      by_cases hk : k1 = 9
      · subst hk
        by_cases hs : s1 = ⟨#[]⟩
        · subst hs
          by_cases hnn : n1 = n
          · subst hnn
            go_wp2_with fail
            go_ret
            exact ⟨ret_bool (by rw [HE.out]; simp), X2.out⟩
          · have en : (n1 == n) = false := by simpa using hnn
            have HE2 : Hid (ob = false) := hid (by rw [HE.out]; simp [hnn])
            clear hnn
            go_wp2_with fail
            go_ret
            exact ⟨ret_bool (by rw [HE2.out]), X2.out⟩
        · have HE2 : Hid (ob = false) := hid (by rw [HE.out]; simp [hs])
          have es2 := es.trans (decide_eq_false hs)
          have es3 : ¬ s1.toList = [] := by
            intro e
            rw [e, show (⟨#[]⟩ : ByteArray).toList = [] by kernel_rfl] at es2
            simp at es2
          have es4 : (s1.toList == []) = false := by simpa using es3
          have es5 : s1.toList.isEmpty = false := by simpa using es3
          clear hs es
          go_wp2_with fail
          go_ret
          exact ⟨ret_bool (by rw [HE2.out]), X2.out⟩
      · have ek : (k1 == 9) = false := by simpa using hk
        have HE2 : Hid (ob = false) := hid (by rw [HE.out]; simp [hk])
        clear hk es
        go_wp2_with fail
        go_ret
        exact ⟨ret_bool (by rw [HE2.out]), X2.out⟩
end Go.Proofs.Ytkkigdbinnfbfaa
