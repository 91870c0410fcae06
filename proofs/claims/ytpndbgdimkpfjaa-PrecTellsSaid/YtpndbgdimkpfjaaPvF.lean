/-
  The walk of prec.Field. Conditions: slices that read as good types of at most 10000 nodes.
-/
import Derived.Test.YtpndbgdimkpfjaaPvC
import Derived.Test.YtpndbgdimkpfjaaM2
namespace Go.Proofs.Ytpndbgdimkpfjaa.L
open Go
def labT (s : ByteArray) (ts : List (Nd × Fo)) : Option Fo := (ts.find? fun t => decide (t.1.name = s)).map tree

theorem lab_T (s : ByteArray) : ∀ f : Fo, labF s f = labT s (trees f)
  | .nil => rfl
  | .cons x ks r => by
    unfold labF labT trees
    rw [List.find?_cons]
    split
    · rename_i h; simp [h]
    · rename_i h; simp [h]; exact lab_T s r

theorem labT_step {s : ByteArray} {ts : List (Nd × Fo)} {i : Nat} (h : i < ts.length) : labT s (ts.drop i) = if ts[i].1.name = s then some (tree ts[i]) else labT s (ts.drop (i + 1)) := by
  rw [List.drop_eq_getElem_cons h, labT, List.find?_cons]
  by_cases e : ts[i].1.name = s
  · simp [e]
  · simp [e, labT]

/-- Places of a list, and the trees that stand there. -/
structure Kd (l : List Nd) (ps : List Nat) (ts : List (Nd × Fo)) : Prop where
  len : ps.length = ts.length
  at_ : ∀ (i : Nat) (h : i < ts.length) (h2 : i < ps.length), ∃ hq : ps[i] < l.length, l[ps[i]] = ts[i].1 ∧ partL l ps[i] = (tree ts[i]).flat

theorem kd_of {x : Nd} {ks : Fo} (h : (Fo.cons x ks .nil).ok = true) : ∃ ps, kidsL (Fo.cons x ks .nil).flat (many x).toNat 1 = ps ∧ Kd (Fo.cons x ks .nil).flat ps (trees ks) := by
  obtain ⟨-, a2, -, a4, -⟩ := ok_cons.1 h
  have hd : (Fo.cons x ks .nil).flat.drop 1 = ks.flat ++ [] := by simp [Fo.flat]
  have hk := kids_pos _ ks 1 [] a4 hd
  refine ⟨posF ks 1, by rw [← hk, show (many x).toNat = ks.count by omega], ⟨by rw [posF_length, trees_length], fun i h1 h2 => ?_⟩⟩
  obtain ⟨⟨hq, e1⟩, e2⟩ := pos_tree _ ks 1 [] i h1 h2 a4 hd
  exact ⟨hq, e1, e2⟩
end Go.Proofs.Ytpndbgdimkpfjaa.L
namespace Go.Proofs.Ytpndbgdimkpfjaa
open Go.RowKit Go.Sort

theorem trees_50 {x : L.Nd} {ks r : L.Fo} (h : (L.Fo.cons x ks r).ok = true) : (L.trees ks).length ≤ 50 := by
  obtain ⟨a1, a2, -⟩ := L.ok_cons.1 h
  have := L.many_of_numbered a1
  rw [L.trees_length]
  omega

def FieldPost (r : Option L.Fo) (B : Nat) (e : Ending) (w' : World) : Prop :=
  match r with
  | some P => ∃ v, e = .returned (.tuple #[v, .int .i64 0]) ∧ Own B v P.flat w'
  | none => e = .returned (.tuple #[.slice none 0 0, .int .i64 9])

set_option maxHeartbeats 4000000 in
set_option maxRecDepth 100000 in
theorem field_any {n : Nat} {F : L.Fo} (h : Gd n F) (hn : n ≤ 10000) (s : ByteArray) (v : Value) (w : World) (hx : Rd w w.heap.size v F.flat) :
    Calls Try.prog 22 #[v, .string s] w fun e w' => FieldPost (L.fieldF s F) w.heap.size e w' ∧ Below w.heap.size w w' := by
  have HT := hid (h.ty hn)
  have hpos := fo_pos HT.out.ne
  have HK := hid (kindOf_any F.flat hpos v w hx)
  have HX := hid hx
  have KC := hid (kids_any F.flat HT.out.few v 0 hpos w hx)
  obtain ⟨A, cap, rfl, hl1, hl2, -, hcx⟩ := hx
  unfold maxLen at hl2
  have hln := HT.out.few.1
  obtain ⟨x, ks, rfl, -⟩ := h.root
  have hok := h.ok
  have hf0 : (L.Fo.cons x ks .nil).flat[0] = x := rfl
  rw [hf0] at HK KC
  obtain ⟨ps, hps, hkd⟩ := L.kd_of hok
  rw [show (0 + 1) = 1 from rfl, hps, show ((0 : Nat) : Int) = 0 from rfl] at KC
  clear hf0 hps
  by_cases h0 : x.kind = 0
  · have HR : Hid (L.fieldF s (.cons x ks .nil) = some L.dynF) := hid (by simp [L.fieldF, h0])
    rw [h0] at HK
    rw [HR.out]
    clear h0 h hok hcx hkd
    go_enter Try.func22, Try.ntmps22
    go_wp2_with fail
    refine (HK.out).mono ?_
    rintro e w1 ⟨rfl, rfl⟩
    go_wp2_with fail
    refine (unknown_any _).mono ?_
    rintro e w2 ⟨v1, rfl, o1, h1⟩
    go_wp2
    refine bodyPost_ret (v := .tuple #[v1, .int .i64 0]) (by simp [results, Try.results22, go_sem]) rfl ?_
    exact ⟨⟨v1, rfl, o1⟩, h1⟩
  · have e0 : (x.kind == 0) = false := beq_eq_false_iff_ne.2 h0
    by_cases h67 : x.kind = 6 ∨ x.kind = 7
    · have HR : Hid (L.fieldF s (.cons x ks .nil) = L.labT s (L.trees ks)) := hid (by rw [L.fieldF, if_neg h0, if_pos h67, L.lab_T])
      rw [HR.out]
      have HKD := hid hkd
      have htl : (L.trees ks).length ≤ 50 := trees_50 hok
      have hsw : (x.kind == 6) = true ∨ ((x.kind == 6) = false ∧ (x.kind == 7) = true) := by
        by_cases h6 : x.kind = 6
        · exact Or.inl (beq_iff_eq.2 h6)
        · exact Or.inr ⟨beq_eq_false_iff_ne.2 h6, beq_iff_eq.2 (h67.resolve_left h6)⟩
      generalize (L.Fo.cons x ks .nil).flat = l at *
      generalize x.kind = xk at *
      generalize L.trees ks = ts at *
      have HCX := hid hcx
      have hlen := hkd.len
      clear h h0 h67 hok hkd hcx HR
      obtain ⟨b, o, rfl, hb, hcc⟩ := HCX.out (by rintro rfl; simp at hpos)
      have HCC := hid hcc
      clear hcc HCX
      rcases hsw with e6 | ⟨e6, e7⟩
      · skip
        go_enter Try.func22, Try.ntmps22
        go_wp2_with fail
        refine (HK.out).mono ?_
        rintro e w1 ⟨rfl, rfl⟩
        go_wp2_with fail
        refine (KC.out).mono ?_
        rintro e w2 ⟨vk, rfl, ok, h2⟩
        obtain ⟨Ak, ck, rfl, hki⟩ := ok.rd
        have HKI := hid hki
        have H2 := hid h2
        have HX2 := hid ((HX.out.below h2).mono h2.size)
        clear ok hki h2 KC
        go_wp2_with fail
        go_loop [19] (fun vi => ∃ i : Nat, vi = .int .i64 i ∧ i ≤ ts.length ∧ Hid (L.labT s (ts.drop i) = L.labT s ts)) (fun vi => ts.length - (intOf vi).toNat)
        case atStart => exact ⟨0, rfl, by omega, hid rfl⟩
        case round =>
          obtain ⟨i, rfl, hi, hL⟩ := hrel
          by_cases hlt : i < ts.length
          · have hip : i < ps.length := by omega
            obtain ⟨gk, rfl, hgk, hki⟩ := HKI.out (by intro e; rw [e] at hip; simp at hip)
            have k0 := hki i hip
            obtain ⟨hq, hq1, hq2⟩ := HKD.out.at_ i hlt hip
            have hst : Hid (L.labT s (ts.drop i) = if ts[i].1.name = s then some (L.tree ts[i]) else L.labT s (ts.drop (i + 1))) := hid (L.labT_step hlt)
            obtain ⟨x0, x1, x2⟩ := HCC.out ps[i] hq
            have y1 := (H2.out.cell (p := ⟨b, o + ps[i] * 3 + 1, none⟩) hb).trans x1
            rw [hq1] at y1
            have hpl : (i : Int) < (ps.length : Int) := by omega
            have PC := hid (part_any l HT.out.few (.slice (some ⟨b, o, none⟩) l.length cap) ps[i] hq w2 HX2.out)
            rw [hq2] at PC
            clear hki hq1 hq2 x0 x1 x2
            generalize ps[i] = q at *
            generalize ts[i] = T at *
            obtain ⟨⟨yk, ys, yn⟩, k1⟩ := T
            simp only at y1 hst
            have he := eqS ys s
            by_cases hn : ys = s
            · have HRS : Hid (L.labT s ts = some (L.tree (⟨yk, ys, yn⟩, k1))) := hid (by rw [← hL.out, hst.out, if_pos hn])
              have e1 : (ys.toList == s.toList) = true := by rw [he]; simp [hn]
              clear he hn hst
              go_wp2_with fail
              refine (PC.out).mono ?_
              rintro e w3 ⟨v3, rfl, o3, h3⟩
              have HO3 := hid (o3.more H2.out.size)
              have H3 := hid (H2.out.trans (h3.mono H2.out.size))
              clear o3 h3
              go_wp2
              refine bodyPost_ret (v := .tuple #[v3, .int .i64 0]) (by simp [results, Try.results22, go_sem]) rfl ?_
              exact ⟨by show FieldPost (L.labT s ts) _ _ _; rw [HRS.out]; exact ⟨v3, rfl, HO3.out⟩, H3.out⟩
            · have e1 : (ys.toList == s.toList) = false := by rw [he]; simp [hn]
              have HRS : Hid (L.labT s (ts.drop (i + 1)) = L.labT s ts) := hid (by rw [← hL.out, hst.out, if_neg hn])
              clear he hn hst PC
              go_wp2
              go_round
              case rel => exact ⟨i + 1, by go_num, by omega, HRS⟩
              case measure => simp [intOf]; omega
          · have HRS : Hid (L.labT s ts = none) := hid (by rw [← hL.out, List.drop_eq_nil_of_le (by omega)]; rfl)
            have hpl : ¬ (i : Int) < (ps.length : Int) := by omega
            go_wp2
            refine bodyPost_ret (v := .tuple #[.slice none 0 0, .int .i64 9]) (by simp [results, Try.results22, go_sem]) rfl ?_
            exact ⟨by show FieldPost (L.labT s ts) _ _ _; rw [HRS.out]; exact rfl, H2.out⟩
      · skip
        go_enter Try.func22, Try.ntmps22
        go_wp2_with fail
        refine (HK.out).mono ?_
        rintro e w1 ⟨rfl, rfl⟩
        go_wp2_with fail
        refine (KC.out).mono ?_
        rintro e w2 ⟨vk, rfl, ok, h2⟩
        obtain ⟨Ak, ck, rfl, hki⟩ := ok.rd
        have HKI := hid hki
        have H2 := hid h2
        have HX2 := hid ((HX.out.below h2).mono h2.size)
        clear ok hki h2 KC
        go_wp2_with fail
        go_loop [19] (fun vi => ∃ i : Nat, vi = .int .i64 i ∧ i ≤ ts.length ∧ Hid (L.labT s (ts.drop i) = L.labT s ts)) (fun vi => ts.length - (intOf vi).toNat)
        case atStart => exact ⟨0, rfl, by omega, hid rfl⟩
        case round =>
          obtain ⟨i, rfl, hi, hL⟩ := hrel
          by_cases hlt : i < ts.length
          · have hip : i < ps.length := by omega
            obtain ⟨gk, rfl, hgk, hki⟩ := HKI.out (by intro e; rw [e] at hip; simp at hip)
            have k0 := hki i hip
            obtain ⟨hq, hq1, hq2⟩ := HKD.out.at_ i hlt hip
            have hst : Hid (L.labT s (ts.drop i) = if ts[i].1.name = s then some (L.tree ts[i]) else L.labT s (ts.drop (i + 1))) := hid (L.labT_step hlt)
            obtain ⟨x0, x1, x2⟩ := HCC.out ps[i] hq
            have y1 := (H2.out.cell (p := ⟨b, o + ps[i] * 3 + 1, none⟩) hb).trans x1
            rw [hq1] at y1
            have hpl : (i : Int) < (ps.length : Int) := by omega
            have PC := hid (part_any l HT.out.few (.slice (some ⟨b, o, none⟩) l.length cap) ps[i] hq w2 HX2.out)
            rw [hq2] at PC
            clear hki hq1 hq2 x0 x1 x2
            generalize ps[i] = q at *
            generalize ts[i] = T at *
            obtain ⟨⟨yk, ys, yn⟩, k1⟩ := T
            simp only at y1 hst
            have he := eqS ys s
            by_cases hn : ys = s
            · have HRS : Hid (L.labT s ts = some (L.tree (⟨yk, ys, yn⟩, k1))) := hid (by rw [← hL.out, hst.out, if_pos hn])
              have e1 : (ys.toList == s.toList) = true := by rw [he]; simp [hn]
              clear he hn hst
              go_wp2_with fail
              refine (PC.out).mono ?_
              rintro e w3 ⟨v3, rfl, o3, h3⟩
              have HO3 := hid (o3.more H2.out.size)
              have H3 := hid (H2.out.trans (h3.mono H2.out.size))
              clear o3 h3
              go_wp2
              refine bodyPost_ret (v := .tuple #[v3, .int .i64 0]) (by simp [results, Try.results22, go_sem]) rfl ?_
              exact ⟨by show FieldPost (L.labT s ts) _ _ _; rw [HRS.out]; exact ⟨v3, rfl, HO3.out⟩, H3.out⟩
            · have e1 : (ys.toList == s.toList) = false := by rw [he]; simp [hn]
              have HRS : Hid (L.labT s (ts.drop (i + 1)) = L.labT s ts) := hid (by rw [← hL.out, hst.out, if_neg hn])
              clear he hn hst PC
              go_wp2
              go_round
              case rel => exact ⟨i + 1, by go_num, by omega, HRS⟩
              case measure => simp [intOf]; omega
          · have HRS : Hid (L.labT s ts = none) := hid (by rw [← hL.out, List.drop_eq_nil_of_le (by omega)]; rfl)
            have hpl : ¬ (i : Int) < (ps.length : Int) := by omega
            go_wp2
            refine bodyPost_ret (v := .tuple #[.slice none 0 0, .int .i64 9]) (by simp [results, Try.results22, go_sem]) rfl ?_
            exact ⟨by show FieldPost (L.labT s ts) _ _ _; rw [HRS.out]; exact rfl, H2.out⟩
    · have HR : Hid (L.fieldF s (.cons x ks .nil) = none) := hid (by rw [L.fieldF, if_neg h0, if_neg h67])
      rw [HR.out]
      have e6 : (x.kind == 6) = false := beq_eq_false_iff_ne.2 (fun e => h67 (Or.inl e))
      have e7 : (x.kind == 7) = false := beq_eq_false_iff_ne.2 (fun e => h67 (Or.inr e))
      generalize x.kind = xk at *
      clear h0 h67 h hok hcx hkd
      go_enter Try.func22, Try.ntmps22
      go_wp2_with fail
      refine (HK.out).mono ?_
      rintro e w1 ⟨rfl, rfl⟩
      go_wp2
      refine bodyPost_ret (v := .tuple #[.slice none 0 0, .int .i64 9]) (by simp [results, Try.results22, go_sem]) rfl ?_
      exact ⟨rfl, Below.refl _ _⟩

end Go.Proofs.Ytpndbgdimkpfjaa
