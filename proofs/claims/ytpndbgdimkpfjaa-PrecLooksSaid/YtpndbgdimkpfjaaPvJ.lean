/-
  The reference's Field and Tags; prec.Tags; rows of texts compared. Conditions: slices that read as good types of at most 10000 nodes.
-/
import Derived.Test.YtpndbgdimkpfjaaPvH
namespace Go.Proofs.Ytpndbgdimkpfjaa
open Go.RowKit Go.Sort

/-- What a type of kind 1 to 5 has at a label: nothing. -/
theorem field_other {n : Nat} {x : L.Nd} {ks : L.Fo} {s : ByteArray} (h : Gd n (.cons x ks .nil)) (h0 : x.kind ≠ 0) (h5 : x.kind ≠ 5) : L.fieldF s (.cons x ks .nil) = L.labT s (L.trees ks) := by
  rw [L.fieldF, if_neg h0]
  by_cases h67 : x.kind = 6 ∨ x.kind = 7
  · rw [if_pos h67, L.lab_T]
  · rw [if_neg h67]
    obtain ⟨a1, a2, -⟩ := L.ok_cons.1 h.ok
    unfold L.many at a2
    rw [if_neg h5, if_neg h67] at a2
    cases ks with
    | nil => rfl
    | cons y a b => simp [L.Fo.count] at a2; omega

set_option maxHeartbeats 4000000 in
set_option maxRecDepth 100000 in
theorem reffield_any {n : Nat} {F : L.Fo} (h : Gd n F) (hn : n ≤ 10000) (s : ByteArray) (v : Value) (w : World) (hx : Rd w w.heap.size v F.flat) :
    Calls Try.prog 23 #[v, .string s] w fun e w' => FieldPost (L.fieldF s F) w.heap.size e w' ∧ Below w.heap.size w w' := by
  have HT := hid (h.ty hn)
  have hpos := fo_pos HT.out.ne
  have hgd := h
  obtain ⟨x, ks, rfl, -⟩ := h.root
  have KC := hid (refkids_any hgd hn v w hx)
  obtain ⟨A, cap, rfl, hl1, hl2, -, hcx⟩ := hx
  unfold maxLen at hl2
  have hln := HT.out.few.1
  have hok := hgd.ok
  obtain ⟨b, o, rfl, hb, hcx⟩ := hcx (by intro e; rw [e] at hpos; simp at hpos)
  have x0 := (hcx 0 hpos).1
  rw [Nat.zero_mul, Nat.add_zero, show (L.Fo.cons x ks .nil).flat[0] = x from rfl] at x0
  have htl : (L.trees ks).length ≤ 50 := trees_50 hok
  clear hcx
  by_cases h0 : x.kind = 0
  · have HR : Hid (L.fieldF s (.cons x ks .nil) = some L.dynF) := hid (by simp [L.fieldF, h0])
    rw [h0] at x0
    rw [HR.out]
    clear h0 h hok hgd KC
    go_enter Try.func23, Try.ntmps23
    go_wp2_with fail
    refine (refdyn_any _).mono ?_
    rintro e w2 ⟨v1, rfl, o1, h1⟩
    go_wp2
    refine bodyPost_ret (v := .tuple #[v1, .int .i64 0]) (by simp [results, Try.results23, go_sem]) rfl ?_
    exact ⟨⟨v1, rfl, o1⟩, h1⟩
  · have e0 : (x.kind == 0) = false := beq_eq_false_iff_ne.2 h0
    by_cases h5 : x.kind = 5
    · have HR : Hid (L.fieldF s (.cons x ks .nil) = none) := hid (by rw [L.fieldF, if_neg h0, if_neg (by omega)])
      rw [HR.out]
      obtain ⟨y, k1, z, k2, rfl⟩ := two_kids hok h5
      rw [h5] at x0
      clear h h0 h5 hok hgd e0 HR
      generalize (L.Fo.cons x (.cons y k1 (.cons z k2 .nil)) .nil).flat = l at *
      go_enter Try.func23, Try.ntmps23
      go_wp2_with fail
      refine (KC.out).mono ?_
      rintro e w2 ⟨hk, h2⟩
      obtain ⟨At, ct, Al, cl, rfl, -, -⟩ := hk.kv
      have x0' := (h2.cell (p := ⟨b, o, none⟩) hb).trans x0
      have e3 : (L.trees (.cons y k1 (.cons z k2 .nil))).length = 2 := rfl
      rw [e3]
      have H2 := hid h2
      clear hk h2 x0 e3
      go_wp2_with fail
      go_loop [8] (fun vi => vi = .int .i64 0) (fun _ => 0)
      case atStart => exact rfl
      case round =>
        subst hrel
        go_wp2
        refine bodyPost_ret (v := .tuple #[.slice none 0 0, .int .i64 9]) (by simp [results, Try.results23, go_sem]) rfl ?_
        exact ⟨rfl, H2.out⟩
    · have HR : Hid (L.fieldF s (.cons x ks .nil) = L.labT s (L.trees ks)) := hid (field_other hgd h0 h5)
      rw [HR.out]
      have e5 : (x.kind == 5) = false := beq_eq_false_iff_ne.2 h5
      generalize x.kind = xk at *
      clear h h0 h5 hok hgd HR
      generalize (L.Fo.cons x ks .nil).flat = l at *
      go_enter Try.func23, Try.ntmps23
      go_wp2_with fail
      refine (KC.out).mono ?_
      rintro e w2 ⟨hk, h2⟩
      obtain ⟨At, ct, Al, cl, rfl, hkv, -⟩ := hk.kv
      have x0' := (h2.cell (p := ⟨b, o, none⟩) hb).trans x0
      have H2 := hid h2
      have HKV := hid hkv
      clear hk h2 x0 hkv KC
      generalize hts : L.trees ks = ts at *
      have HTS := hid hts
      clear hts
      go_wp2_with fail
      go_loop [8] (fun vi => ∃ i : Nat, vi = .int .i64 i ∧ i ≤ ts.length ∧ Hid (L.labT s (ts.drop i) = L.labT s ts)) (fun vi => ts.length - (intOf vi).toNat)
      case atStart => exact ⟨0, rfl, by omega, hid rfl⟩
      case round =>
        obtain ⟨i, rfl, hi, hL⟩ := hrel
        by_cases hlt : i < ts.length
        · have hpl : (i : Int) < (ts.length : Int) := by omega
          have hne : ts ≠ [] := by intro e; rw [e] at hlt; simp at hlt
          obtain ⟨gt, ot, rfl, hgt, htc⟩ := HKV.out.t hne
          obtain ⟨gl, ol, rfl, hgl, hlc⟩ := HKV.out.l hne
          obtain ⟨vt, t0, ot0⟩ := htc i hlt
          have l0 := hlc i hlt
          have hst : Hid (L.labT s (ts.drop i) = if ts[i].1.name = s then some (L.tree ts[i]) else L.labT s (ts.drop (i + 1))) := hid (L.labT_step hlt)
          clear htc hlc hne
          generalize ts[i] = T at *
          obtain ⟨⟨yk, ys, yn⟩, k1⟩ := T
          simp only at l0 hst
          have he := eqS ys s
          obtain ⟨A1, e1, rfl, -⟩ := ot0.rd
          have HOT := hid ot0
          clear ot0
          by_cases hnm : ys = s
          · have HRS : Hid (L.labT s ts = some (L.tree (⟨yk, ys, yn⟩, k1))) := hid (by rw [← hL.out, hst.out, if_pos hnm])
            have e1 : (ys.toList == s.toList) = true := by rw [he]; simp [hnm]
            clear he hnm hst
            go_wp2
            refine bodyPost_ret (v := .tuple #[_, .int .i64 0]) (by simp [results, Try.results23, go_sem]; rfl) rfl ?_
            exact ⟨by show FieldPost (L.labT s (L.trees ks)) _ _ _; rw [HTS.out, HRS.out]; exact ⟨_, rfl, HOT.out⟩, H2.out⟩
          · have HRS : Hid (L.labT s (ts.drop (i + 1)) = L.labT s ts) := hid (by rw [← hL.out, hst.out, if_neg hnm])
            have e1 : (ys.toList == s.toList) = false := by rw [he]; simp [hnm]
            clear he hnm hst
            go_wp2
            go_round
            case rel => exact ⟨i + 1, by go_num, by omega, HRS⟩
            case measure => simp [intOf]; omega
        · have HRS : Hid (L.labT s ts = none) := hid (by rw [← hL.out, List.drop_eq_nil_of_le (by omega)]; rfl)
          have hpl : ¬ (i : Int) < (ts.length : Int) := by omega
          go_wp2
          refine bodyPost_ret (v := .tuple #[.slice none 0 0, .int .i64 9]) (by simp [results, Try.results23, go_sem]) rfl ?_
          exact ⟨by show FieldPost (L.labT s (L.trees ks)) _ _ _; rw [HTS.out, HRS.out]; exact rfl, H2.out⟩

/-- What a union's tags are: of a ? none, of what is no union an error. -/
def TagsPost (F : L.Fo) (B : Nat) (e : Ending) (w' : World) : Prop :=
  ((L.hd F).kind = 0 ∧ e = .returned (.tuple #[.slice none 0 0, .int .i64 0])) ∨ ((L.hd F).kind ≠ 0 ∧ (L.hd F).kind ≠ 7 ∧ e = .returned (.tuple #[.slice none 0 0, .int .i64 9])) ∨
  ((L.hd F).kind = 7 ∧ ∃ v ks, F = .cons (L.hd F) ks .nil ∧ e = .returned (.tuple #[v, .int .i64 0]) ∧ OwnS B v ((L.trees ks).map (·.1.name)) w')

set_option maxHeartbeats 2000000 in
set_option maxRecDepth 100000 in
theorem reftags_any {n : Nat} {F : L.Fo} (h : Gd n F) (hn : n ≤ 10000) (v : Value) (w : World) (hx : Rd w w.heap.size v F.flat) :
    Calls Try.prog 25 #[v] w fun e w' => TagsPost F w.heap.size e w' ∧ Below w.heap.size w w' := by
  have HT := hid (h.ty hn)
  have hpos := fo_pos HT.out.ne
  have hgd := h
  obtain ⟨x, ks, rfl, -⟩ := h.root
  have KC := hid (refkids_any hgd hn v w hx)
  obtain ⟨A, cap, rfl, hl1, hl2, -, hcx⟩ := hx
  unfold maxLen at hl2
  have hln := HT.out.few.1
  obtain ⟨b, o, rfl, hb, hcx⟩ := hcx (by intro e; rw [e] at hpos; simp at hpos)
  have x0 := (hcx 0 hpos).1
  rw [Nat.zero_mul, Nat.add_zero, show (L.Fo.cons x ks .nil).flat[0] = x from rfl] at x0
  clear hcx h hgd
  by_cases h0 : x.kind = 0
  · have HP : Hid (∀ w', TagsPost (.cons x ks .nil) w.heap.size (.returned (.tuple #[.slice none 0 0, .int .i64 0])) w') := hid fun _ => Or.inl ⟨h0, rfl⟩
    rw [h0] at x0
    clear h0
    generalize (L.Fo.cons x ks .nil).flat = l at *
    go_enter Try.func25, Try.ntmps25
    go_wp2
    refine bodyPost_ret (v := .tuple #[.slice none 0 0, .int .i64 0]) (by simp [results, Try.results25, go_sem]) rfl ?_
    exact ⟨HP.out _, Below.refl _ _⟩
  · by_cases h7 : x.kind = 7
    · have HP : Hid (∀ v w', OwnS w.heap.size v ((L.trees ks).map (·.1.name)) w' → TagsPost (.cons x ks .nil) w.heap.size (.returned (.tuple #[v, .int .i64 0])) w') := hid fun v w' ho => Or.inr (Or.inr ⟨h7, v, ks, rfl, rfl, ho⟩)
      rw [h7] at x0
      clear h0 h7
      generalize (L.Fo.cons x ks .nil).flat = l at *
      go_enter Try.func25, Try.ntmps25
      go_wp2_with fail
      refine (KC.out).mono ?_
      rintro e w2 ⟨hk, h2⟩
      obtain ⟨At, ct, Al, cl, rfl, -, hos⟩ := hk.kv
      have HOS := hid hos
      have H2 := hid h2
      clear hk h2 hos
      go_wp2
      refine bodyPost_ret (v := .tuple #[.slice Al (L.trees ks).length cl, .int .i64 0]) (by simp [results, Try.results25, go_sem]) rfl ?_
      exact ⟨HP.out _ _ HOS.out, H2.out⟩
    · have HP : Hid (∀ w', TagsPost (.cons x ks .nil) w.heap.size (.returned (.tuple #[.slice none 0 0, .int .i64 9])) w') := hid fun _ => Or.inr (Or.inl ⟨h0, h7, rfl⟩)
      have e0 : (x.kind == 0) = false := beq_eq_false_iff_ne.2 h0
      have e7 : (x.kind == 7) = false := beq_eq_false_iff_ne.2 h7
      generalize x.kind = xk at *
      clear h0 h7
      generalize (L.Fo.cons x ks .nil).flat = l at *
      go_enter Try.func25, Try.ntmps25
      go_wp2
      refine bodyPost_ret (v := .tuple #[.slice none 0 0, .int .i64 9]) (by simp [results, Try.results25, go_sem]) rfl ?_
      exact ⟨HP.out _, Below.refl _ _⟩

set_option maxHeartbeats 2000000 in
set_option maxRecDepth 100000 in
/-- The same texts, twice. -/
theorem strings_same (ss : List ByteArray) (v1 v2 : Value) (w : World) (h1 : RdS w w.heap.size v1 ss) (h2 : RdS w w.heap.size v2 ss) (hl : ss.length ≤ 1000) :
    Calls Try.prog 26 #[v1, v2] w fun e w' => e = .returned (.bool true) ∧ Below w.heap.size w w' := by
  obtain ⟨A, cap, rfl, hc1⟩ := h1
  obtain ⟨A2, cap2, rfl, hc2⟩ := h2
  have H1 := hid hc1
  have H2 := hid hc2
  clear hc1 hc2
  go_enter Try.func26, Try.ntmps26
  go_wp2_with fail
  go_loopw [5] (fun vi wr => ∃ i : Nat, vi = .int .i64 i ∧ i ≤ ss.length ∧ Below w.heap.size w wr) (fun vi _ => ss.length - (intOf vi).toNat)
  case atStart => exact ⟨0, rfl, by omega, Below.refl _ _⟩
  case round =>
    obtain ⟨i, rfl, hi, hB⟩ := hrel
    by_cases hlt : i < ss.length
    · have hne : ss ≠ [] := by intro e; rw [e] at hlt; simp at hlt
      obtain ⟨b1, o1, rfl, hb1, hc1⟩ := H1.out hne
      obtain ⟨b2, o2, rfl, hb2, hc2⟩ := H2.out hne
      have x1 := (hB.cell (p := ⟨b1, o1 + i, none⟩) hb1).trans (hc1 i hlt)
      have x2 := (hB.cell (p := ⟨b2, o2 + i, none⟩) hb2).trans (hc2 i hlt)
      have hpl : (i : Int) < (ss.length : Int) := by omega
      have e1 : (ss[i].toList == ss[i].toList) = true := by simp
      clear hc1 hc2 hne
      generalize ss[i] = S at *
      go_wp2
      go_quiet (fail)
      go_wp2
      go_roundw
      case rel => exact ⟨i + 1, by go_num, by omega, below_drewN hB _⟩
      case measure => simp [intOf]; omega
    · have hpl : ¬ (i : Int) < (ss.length : Int) := by omega
      go_wp2
      go_ret
      exact ⟨rfl, hB⟩

end Go.Proofs.Ytpndbgdimkpfjaa
