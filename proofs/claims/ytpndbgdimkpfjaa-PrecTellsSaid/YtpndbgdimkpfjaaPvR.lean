/-
  Rows of types and of texts that the call itself has made; the reference's kids. Conditions: those that each lemma names.
-/
import Derived.Test.YtpndbgdimkpfjaaPvF
import Derived.Test.YtpndbgdimkpfjaaM1
namespace Go.Proofs.Ytpndbgdimkpfjaa
open Go.RowKit

def RdS (w : World) (B : Nat) (v : Value) (ss : List ByteArray) : Prop :=
  ∃ (A : Option Addr) (cap : Nat), v = .slice A ss.length cap ∧ (ss ≠ [] → ∃ b o, A = some ⟨b, o, none⟩ ∧ b < B ∧ ∀ (i : Nat) (h : i < ss.length), w.cell? ⟨b, o + i, none⟩ = some (.string ss[i]))
def RdT (w : World) (v : Value) (ts : List (Value × List L.Nd)) : Prop :=
  (∃ (A : Option Addr) (cap : Nat), v = .slice A ts.length cap ∧ (ts ≠ [] → ∃ b o, A = some ⟨b, o, none⟩ ∧ b < w.heap.size ∧ ∀ (i : Nat) (h : i < ts.length), w.cell? ⟨b, o + i, none⟩ = some ts[i].1)) ∧
  ∀ t ∈ ts, Rd w w.heap.size t.1 t.2

theorem RdS.below {w w' : World} {v : Value} {ss : List ByteArray} (h : RdS w w.heap.size v ss) (hb : Below w.heap.size w w') : RdS w' w'.heap.size v ss := by
  obtain ⟨A, cap, hv, hc⟩ := h
  refine ⟨A, cap, hv, fun hn => ?_⟩
  obtain ⟨b, o, ha, hb1, hx⟩ := hc hn
  exact ⟨b, o, ha, Nat.lt_of_lt_of_le hb1 hb.size, fun i hi => (hb.cell (p := ⟨b, o + i, none⟩) hb1).trans (hx i hi)⟩

/-- A row of texts of the call's own. -/
def OwnS (B : Nat) (v : Value) (ss : List ByteArray) (w : World) : Prop := w.ownsRow B 9 1 v ss.length (ss.map .string)
/-- A row of types of the call's own, each in a row of its own. -/
def OwnT (B : Nat) (v : Value) (ts : List (Value × List L.Nd)) (w : World) : Prop := w.ownsRow B 23 1 v ts.length (ts.map (·.1)) ∧ ∀ t ∈ ts, Own B t.1 t.2 w

theorem OwnS.below {B : Nat} {v : Value} {ss : List ByteArray} {w w' : World} (h : OwnS B v ss w) (hb : Below w.heap.size w w') : OwnS B v ss w' := row_below h hb
theorem OwnT.below {B : Nat} {v : Value} {ts : List (Value × List L.Nd)} {w w' : World} (h : OwnT B v ts w) (hb : Below w.heap.size w w') : OwnT B v ts w' := ⟨row_below h.1 hb, fun t ht => (h.2 t ht).below hb⟩

theorem OwnS.snoc {B : Nat} {v : Value} {ss : List ByteArray} {w : World} (s : ByteArray) (h : w.ownsRow B 9 1 v (ss.length + 1) (ss.map .string ++ [.string s])) : OwnS B v (ss ++ [s]) w := by
  unfold OwnS
  rw [List.map_append, List.length_append]
  exact h
theorem OwnT.snoc {B : Nat} {v : Value} {ts : List (Value × List L.Nd)} {w : World} (t : Value × List L.Nd) (h : w.ownsRow B 23 1 v (ts.length + 1) (ts.map (·.1) ++ [t.1])) (hp : ∀ x ∈ ts, Own B x.1 x.2 w) (ht : Own B t.1 t.2 w) : OwnT B v (ts ++ [t]) w := by
  refine ⟨by rw [List.map_append, List.length_append]; exact h, fun x hx => ?_⟩
  rcases List.mem_append.1 hx with hx | hx
  · exact hp x hx
  · rw [List.mem_singleton.1 hx]; exact ht

theorem OwnS.rd {B : Nat} {v : Value} {ss : List ByteArray} {w : World} (h : OwnS B v ss w) : RdS w w.heap.size v ss := by
  rcases h.2 with ⟨hv, h0⟩ | ⟨g, cap, cur, hv, _, hh, hc, hm, _⟩
  · exact ⟨none, 0, by rw [hv, h0], fun hn => absurd (List.eq_nil_of_length_eq_zero h0) hn⟩
  · subst hv
    refine ⟨_, cap, rfl, fun _ => ⟨g, 0, rfl, heap_lt hh, fun i hi => ?_⟩⟩
    rw [Nat.zero_add, World.ownsRow.cellAt h i (by omega)]
    simp [hi]

theorem OwnT.rd {B : Nat} {v : Value} {ts : List (Value × List L.Nd)} {w : World} (h : OwnT B v ts w) : RdT w v ts := by
  refine ⟨?_, fun t ht => (h.2 t ht).rd⟩
  rcases h.1.2 with ⟨hv, h0⟩ | ⟨g, cap, cur, hv, _, hh, hc, hm, _⟩
  · exact ⟨none, 0, by rw [hv, h0], fun hn => absurd (List.eq_nil_of_length_eq_zero h0) hn⟩
  · subst hv
    refine ⟨_, cap, rfl, fun _ => ⟨g, 0, rfl, heap_lt hh, fun i hi => ?_⟩⟩
    rw [Nat.zero_add, World.ownsRow.cellAt h.1 i (by omega)]
    simp [hi]

theorem OwnS.val {B : Nat} {v : Value} {ss : List ByteArray} {w : World} (h : OwnS B v ss w) : ∃ A cap, v = .slice A ss.length cap := by
  obtain ⟨A, cap, hv, -⟩ := h.rd
  exact ⟨A, cap, hv⟩
theorem OwnT.val {B : Nat} {v : Value} {ts : List (Value × List L.Nd)} {w : World} (h : OwnT B v ts w) : ∃ A cap, v = .slice A ts.length cap := by
  obtain ⟨⟨A, cap, hv, -⟩, -⟩ := h.rd
  exact ⟨A, cap, hv⟩

theorem OwnT.two {B : Nat} {A : Option Addr} {cp : Nat} {ts : List (Value × List L.Nd)} {t1 t2 : Value × List L.Nd} {w : World} (h : OwnT B (.slice A ts.length cp) ts w) (hts : ts = [t1, t2]) :
    ∃ g, A = some ⟨g, 0, none⟩ ∧ g < w.heap.size ∧ w.cell? ⟨g, 0, none⟩ = some t1.1 ∧ w.cell? ⟨g, 1, none⟩ = some t2.1 := by
  subst hts
  rcases h.1.2 with ⟨hv, h0⟩ | ⟨g, cap, cur, hv, _, hh, hc, hm, _⟩
  · simp at h0
  · simp only [Value.slice.injEq] at hv
    obtain ⟨rfl, -, rfl⟩ := hv
    exact ⟨g, rfl, heap_lt hh, World.ownsRow.cellAt h.1 0 (by simp), World.ownsRow.cellAt h.1 1 (by simp)⟩

theorem infoStr : (Try.prog.info? 9).map (fun i => (i.zero, i.size, i.bytes)) = some (some (.string ⟨#[]⟩), 1, 16) := by kernel_rfl
theorem infoTyp : (Try.prog.info? 23).map (fun i => (i.zero, i.size, i.bytes)) = some (some (.slice none 0 0), 1, 24) := by kernel_rfl


/-- What the reference's kids answers: the trees of a row, and their labels. -/
def KidsPost (ks : L.Fo) (B : Nat) (e : Ending) (w' : World) : Prop :=
  ∃ vt vl ts, e = .returned (.tuple #[vt, vl]) ∧ OwnT B vt ts w' ∧ OwnS B vl ((L.trees ks).map (·.1.name)) w' ∧ ts.map (·.2) = (L.trees ks).map (fun t => (L.tree t).flat)

theorem str_one (w : World) (s : ByteArray) : ∀ j u, ([Value.string s] : List Value)[j]? = some u → (w.alloc (.cells #[.string s] 9)).cell? ((⟨w.heap.size, 0, none⟩ : Addr).add j) = some u := by
  intro j u h
  have hj : j = 0 := by
    rcases Nat.lt_or_ge j 1 with hj | hj
    · omega
    · rw [List.getElem?_eq_none (by simpa using hj)] at h; cases h
  subst hj
  have := Lib.cell_of_heap (heap_alloc_new w (.cells #[.string s] 9)) 0
  simp only [List.getElem?_cons_zero, Option.some.injEq] at h
  subst h
  exact this
theorem typ_one (w : World) (v : Value) : ∀ j u, ([v] : List Value)[j]? = some u → (w.alloc (.cells #[v] 23)).cell? ((⟨w.heap.size, 0, none⟩ : Addr).add j) = some u := by
  intro j u h
  have hj : j = 0 := by
    rcases Nat.lt_or_ge j 1 with hj | hj
    · omega
    · rw [List.getElem?_eq_none (by simpa using hj)] at h; cases h
  subst hj
  have := Lib.cell_of_heap (heap_alloc_new w (.cells #[v] 23)) 0
  simp only [List.getElem?_cons_zero, Option.some.injEq] at h
  subst h
  exact this

theorem kT : (9 : TypeId) ≠ 23 := by decide

set_option maxHeartbeats 4000000 in
set_option maxRecDepth 100000 in
theorem refkids_any {n : Nat} {x : L.Nd} {ks : L.Fo} (h : Gd n (.cons x ks .nil)) (hn : n ≤ 10000) (v : Value) (w : World) (hx : Rd w w.heap.size v (L.Fo.cons x ks .nil).flat) :
    Calls Try.prog 41 #[v] w fun e w' => KidsPost ks w.heap.size e w' ∧ Below w.heap.size w w' := by
  obtain ⟨it, hit, hzt0, hzt1, hzt2⟩ := info_parts infoTyp
  obtain ⟨is, his, hzs0, hzs1, hzs2⟩ := info_parts infoStr
  have HT := hid (h.ty hn)
  have hpos := fo_pos HT.out.ne
  have HX := hid hx
  have KC0 := fun (W : World) (hW : Below w.heap.size w W) => refKids_any (L.Fo.cons x ks .nil).flat HT.out.few v 0 hpos W ((HX.out.below hW).mono hW.size)
  obtain ⟨A, cap, rfl, hl1, hl2, -, hcx⟩ := hx
  unfold maxLen at hl2
  have hln := HT.out.few.1
  have hok := h.ok
  have hf0 : (L.Fo.cons x ks .nil).flat[0] = x := rfl
  obtain ⟨ps, hps, hkd⟩ := L.kd_of hok
  simp only [hf0, show (0 + 1) = 1 from rfl, hps, show ((0 : Nat) : Int) = 0 from rfl] at KC0
  have KC := hid KC0
  have HKD := hid hkd
  have htl : (L.trees ks).length ≤ 50 := trees_50 hok
  have HR : Hid (L.trees ks = L.trees ks) := hid rfl
  generalize (L.Fo.cons x ks .nil).flat = l at *
  have HCX := hid hcx
  have hlen := hkd.len
  obtain ⟨ts, hts⟩ : ∃ ts, ts = L.trees ks := ⟨_, rfl⟩
  rw [← hts] at htl hlen HKD
  have HTS := hid hts
  clear h hok hf0 hps hkd hcx KC0 HR hts
  obtain ⟨b, o, rfl, hb, hcc⟩ := HCX.out (by rintro rfl; simp at hpos)
  have HCC := hid hcc
  clear hcc HCX
  have hOT : OwnT w.heap.size (.slice (some ⟨w.heap.size, 0, none⟩) 0 0) [] ((w.alloc (.cells #[] 23)).alloc (.cells #[] 9)) := ⟨World.ownsRow.alloc (World.ownsRow_lit w _ 0 (Nat.le_refl _) (by unfold maxLen; omega) rfl) _, by simp⟩
  have hOS : OwnS w.heap.size (.slice (some ⟨w.heap.size + 1, 0, none⟩) 0 0) [] ((w.alloc (.cells #[] 23)).alloc (.cells #[] 9)) := by
    have h : OwnS w.heap.size (.slice (some ⟨(w.alloc (.cells #[] 23)).heap.size, 0, none⟩) 0 0) [] ((w.alloc (.cells #[] 23)).alloc (.cells #[] 9)) := World.ownsRow_lit _ _ 0 (by simp) (by unfold maxLen; omega) rfl
    rwa [show (w.alloc (.cells #[] 23)).heap.size = w.heap.size + 1 by simp] at h
  have hB0 : Below w.heap.size w ((w.alloc (.cells #[] 23)).alloc (.cells #[] 9)) := (below_new _).trans ((below_new _).mono (by simp))
  have HOT0 := hid hOT
  have HOS0 := hid hOS
  have HB0 := hid hB0
  clear hOT hOS hB0
  go_enter Try.func41, Try.ntmps41
  go_wp2_with fail
  refine (KC.out _ HB0.out).mono ?_
  rintro e w2 ⟨vk, rfl, ok, h2⟩
  have HOT2 := hid (HOT0.out.below h2)
  have HOS2 := hid (HOS0.out.below h2)
  have HB2 := hid (HB0.out.trans (h2.mono HB0.out.size))
  have ok : OwnI w.heap.size vk ps w2 := ⟨ok.1, ok.2.imp id fun ⟨g, cp, cur, h1, h2, h3⟩ => ⟨g, cp, cur, h1, Nat.le_trans HB0.out.size h2, h3⟩⟩
  obtain ⟨Ak, ck, rfl, -⟩ := ok.rd
  have HOK2 := hid ok
  clear ok h2 HOT0 HOS0 HB0 KC
  go_wp2_with fail
  go_loopw [4, 5, 7] (fun v4 v5 v7 wr => ∃ (i : Nat) (tv : List (Value × List L.Nd)) (nl : List ByteArray), v7 = .int .i64 i ∧ i ≤ ts.length ∧ tv.length = i ∧ nl.length = i ∧ Hid (OwnT w.heap.size v4 tv wr) ∧ Hid (OwnS w.heap.size v5 nl wr) ∧ Hid (nl = (ts.take i).map (·.1.name)) ∧ Hid (OwnI w.heap.size (.slice Ak ps.length ck) ps wr) ∧ Below w.heap.size w wr ∧ Hid (tv.map (·.2) = (ts.take i).map (fun t => (L.tree t).flat))) (fun _ _ v7 _ => ts.length - (intOf v7).toNat)
  case atStart => exact ⟨0, [], [], rfl, by omega, rfl, rfl, HOT2, HOS2, hid rfl, HOK2, HB2.out, hid rfl⟩
  case round =>
    obtain ⟨i, tv, nl, rfl, hi, htv, hnl, hOT, hOS, hNE, hOK, hB, hE⟩ := hrel
    obtain ⟨A4, c4, rfl⟩ := hOT.out.val
    obtain ⟨A5, c5, rfl⟩ := hOS.out.val
    have hbw := hB.size
    have hpl4 : tv.length ≤ 50 := by omega
    have hpl5 : nl.length ≤ 50 := by omega
    have HTV := hid htv
    have HNV := hid hnl
    clear htv hnl
    by_cases hlt : i < ts.length
    · have hip : i < ps.length := by omega
      have hpl : (i : Int) < (ps.length : Int) := by omega
      obtain ⟨A', c', hv', hki⟩ := hOK.out.rd
      injection hv' with e1 _ e2
      subst e1 e2
      obtain ⟨gk, rfl, hgk, hki⟩ := hki (by intro e; rw [e] at hip; simp at hip)
      have k0 := hki i hip
      obtain ⟨hq, hq1, hq2⟩ := HKD.out.at_ i hlt hip
      obtain ⟨x0, x1, x2⟩ := HCC.out ps[i] hq
      rw [hq1] at x1
      have hX := (HX.out.below hB).mono hB.size
      have PC := hid (refPart_any l HT.out.few (.slice (some ⟨b, o, none⟩) l.length cap) ps[i] hq wr hX)
      rw [hq2] at PC
      have HTK : Hid (ts.take (i + 1) = ts.take i ++ [ts[i]]) := hid (by simp)
      have HPI : Hid (∀ W, OwnI w.heap.size (.slice (some ⟨gk, 0, none⟩) ps.length ck) ps W → W.cell? ⟨gk, i, none⟩ = some (.int .i64 ((ps[i] : Nat) : Int))) := hid fun W hW => by
        obtain ⟨A', c', hv', hki⟩ := hW.rd
        injection hv' with e1 _ e2
        subst e1 e2
        obtain ⟨g', e3, -, hki⟩ := hki (by intro e; rw [e] at hip; simp at hip)
        injection e3 with e3
        injection e3 with e3
        subst e3
        exact hki i hip
      clear hki hq1 hq2 x0 x2 hX
      generalize ps[i] = q at *
      generalize ts[i] = T at *
      obtain ⟨⟨yk, ys, yn⟩, k1⟩ := T
      simp only at x1
      go_wp2_with fail
      refine (PC.out).mono ?_
      rintro e w3 ⟨vp, rfl, op, h3⟩
      have HP3 := hid (op.more hbw)
      have HOT3 := hid (hOT.out.below h3)
      have HOS3 := hid (hOS.out.below h3)
      have HOK3 := hid (hOK.out.below h3)
      have hB3 : Below w.heap.size w w3 := hB.trans (h3.mono hbw)
      obtain ⟨Ap, cp, rfl, -⟩ := op.rd
      have hbw3 := hB3.size
      have hBl : Below w3.heap.size w3 (w3.alloc (.cells #[.slice Ap (L.tree (⟨yk, ys, yn⟩, k1)).flat.length cp] 23)) := below_new _
      have hOT4 := HOT3.out.below hBl
      have hOS4 := HOS3.out.below hBl
      have hOK4 := HOK3.out.below hBl
      have hP4 := HP3.out.below hBl
      have HL4 := hid hOT4
      have HS4 := hid hOS4
      have HK4 := hid hOK4
      have HP4 := hid hP4
      have hone : Hid (∀ u ∈ [Value.slice Ap (L.tree (⟨yk, ys, yn⟩, k1)).flat.length cp], u.oneCell' = true) := hid (by intro u hu; simp at hu; subst hu; rfl)
      have hBL := hid hBl
      clear op h3 hOT hOS hOK PC k0 hOT4 hOS4 hOK4 hP4 hBl
      go_wp2_with (at_builtin; refine wpList_append_own _ rfl _ _ 47 rfl w.heap.size 23 it (.slice none 0 0) 1 24 Try.underlying47 hit hzt0 hzt1 hzt2 rfl (by decide) _ _ _ rfl HL4.out.1 ⟨w3.heap.size, 0, none⟩ 1 1 [.slice Ap (L.tree (⟨yk, ys, yn⟩, k1)).flat.length cp] rfl rfl (typ_one w3 _) hone.out ?c3 ?c4 ?c5 ?_)
      case c3 => unfold maxLen; omega
      case c4 => omega
      case c5 => simp; omega
      intro v6 w4 hown hgrow _
      have hB4 : Below w.heap.size w w4 := (hB3.trans (hBL.out.mono hbw3)).grown hgrow (by simp; omega) (fun k hk => (World.ownsRow.lt HL4.out.1 k hk).1)
      have hT4 : OwnT w.heap.size v6 (tv ++ [(.slice Ap (L.tree (⟨yk, ys, yn⟩, k1)).flat.length cp, (L.tree (⟨yk, ys, yn⟩, k1)).flat)]) w4 := OwnT.snoc _ hown (fun z hz => row_aside (HL4.out.2 z hz) HL4.out.1 (by decide) hgrow) (row_aside HP4.out HL4.out.1 (by decide) hgrow)
      have hS4 : OwnS w.heap.size (.slice A5 nl.length c5) nl w4 := row_aside HS4.out HL4.out.1 (by decide) hgrow
      have hK4 : OwnI w.heap.size (.slice (some ⟨gk, 0, none⟩) ps.length ck) ps w4 := row_aside HK4.out HL4.out.1 (by decide) hgrow
      have k1' := HPI.out w4 hK4
      have x1' := (hB4.cell (p := ⟨b, o + q * 3 + 1, none⟩) hb).trans x1
      obtain ⟨A6, c6, hv6⟩ := hT4.val
      rw [List.length_append, List.length_singleton] at hv6
      subst hv6
      have HT4 := hid hT4
      have HK5 := hid hK4
      have hBl5 : Below w4.heap.size w4 (w4.alloc (.cells #[.string ys] 9)) := below_new _
      have HS5 := hid (hS4.below hBl5)
      have HT5 := hid (hT4.below hBl5)
      have HK6 := hid (hK4.below hBl5)
      have hbw4 := hB4.size
      have hones : Hid (∀ u ∈ [Value.string ys], u.oneCell' = true) := hid (by intro u hu; simp at hu; subst hu; rfl)
      have HBL5 := hid hBl5
      clear hown hgrow hT4 hS4 hK4 hB3 hbw3 HL4 HS4 HK4 HP4 HP3 HOT3 HOS3 HOK3 hBL hone hBl5
      go_wp2_with (at_builtin; refine wpList_append_own _ rfl _ _ 33 rfl w.heap.size 9 is (.string ⟨#[]⟩) 1 16 Try.underlying33 his hzs0 hzs1 hzs2 rfl (by decide) _ _ _ rfl HS5.out ⟨w4.heap.size, 0, none⟩ 1 1 [.string ys] rfl rfl (str_one w4 _) hones.out ?c3 ?c4 ?c5 ?_)
      case c3 => unfold maxLen; omega
      case c4 => omega
      case c5 => simp; omega
      intro v7 w5 hown hgrow _
      have hB5 : Below w.heap.size w w5 := (hB4.trans (HBL5.out.mono hbw4)).grown hgrow (by simp; omega) (fun k hk => (World.ownsRow.lt HS5.out k hk).1)
      have hS5 := OwnS.snoc ys hown
      have HT6 := hid (show OwnT w.heap.size _ _ w5 from ⟨row_aside HT5.out.1 HS5.out (by decide) hgrow, fun z hz => row_aside (HT5.out.2 z hz) HS5.out (by decide) hgrow⟩)
      have HK7 := hid (show OwnI w.heap.size _ ps w5 from row_aside HK6.out HS5.out (by decide) hgrow)
      have HS6 := hid hS5
      have HN2 := hid (show nl ++ [ys] = (ts.take (i + 1)).map (·.1.name) by rw [HTK.out, List.map_append, hNE.out]; rfl)
      have HE2 := hid (show (tv ++ [(Value.slice Ap (L.tree (⟨yk, ys, yn⟩, k1)).flat.length cp, (L.tree (⟨yk, ys, yn⟩, k1)).flat)]).map (·.2) = (ts.take (i + 1)).map (fun t => (L.tree t).flat) by rw [HTK.out, List.map_append, List.map_append, hE.out]; rfl)
      clear hown hgrow hS5 HT5 HS5 HK6 k1' x1' hB4
      go_wp2
      go_roundw
      case rel => exact ⟨i + 1, _, _, by go_num, by omega, by rw [List.length_append, HTV.out]; rfl, by rw [List.length_append, HNV.out]; rfl, HT6, HS6, HN2, HK7, hB5, HE2⟩
      case measure => simp [intOf]; omega
    · have hpl : ¬ (i : Int) < (ps.length : Int) := by omega
      have HEN : Hid (ts.take i = L.trees ks) := hid (by rw [List.take_of_length_le (by omega)]; exact HTS.out)
      have HF : Hid (KidsPost ks w.heap.size (.returned (.tuple #[.slice A4 tv.length c4, .slice A5 nl.length c5])) wr) := hid ⟨_, _, tv, rfl, hOT.out, by rw [← HEN.out, ← hNE.out]; exact hOS.out, by rw [← HEN.out]; exact hE.out⟩
      go_wp2
      refine bodyPost_ret (v := .tuple #[.slice A4 tv.length c4, .slice A5 nl.length c5]) (by simp [results, Try.results41, go_sem]) rfl ?_
      exact ⟨HF.out, hB⟩

end Go.Proofs.Ytpndbgdimkpfjaa
