/-
  The walk of term.Canon. Conditions: at most 100 types of at most 1000 nodes each, none of them empty, such as they come in.
-/
import Derived.Test.YtmifcjiakiddkaaTmK1
import Derived.Test.YtmifcjiakiddkaaTmW3
import Derived.Test.YtmifcjiakiddkaaTmX2
namespace Go.Proofs.Ytmifcjiakiddkaa.L
open Go
theorem seens_len : ∀ (l : List (List Nd)) (s : List Int), (∀ t ∈ l, t.length ≤ 1000) → (seenLs s l).length ≤ s.length + 1000 * l.length
  | [], s, _ => by simp [seenLs]
  | t :: l, s, h => by
    have h1 := seens_len l (canonL s t).2 fun x hx => h x (by simp [hx])
    have h2 := seen_len t s
    have h3 := h t (by simp)
    rw [seenLs]
    simp only [List.length_cons]
    omega
theorem seenTo_len (s : List Int) (t : List Nd) (k : Nat) : (seenTo s t k).length ≤ s.length + t.length := by
  have := seen_len (t.take k) s
  unfold seenTo
  rw [List.length_take] at this
  omega
theorem canonTo_at (s : List Int) (t : List Nd) {k : Nat} (h : k < t.length) : (canonTo s t k)[k]'(by rw [canonTo_len]; exact h) = t[k] := by
  have hl : (canonL s (t.take k)).1.length = k := by rw [canon_len, List.length_take]; omega
  unfold canonTo
  rw [List.getElem_append_right (by omega)]
  simp [hl]
end Go.Proofs.Ytmifcjiakiddkaa.L
namespace Go.Proofs.Ytmifcjiakiddkaa
open Go.RowKit Go.Maps

theorem law_int : Keyed Try.prog 3 := int_keyed Try.underlying3
theorem key_int {n : Int} (h : -9223372036854775808 ≤ n ∧ n ≤ 9223372036854775807) : keyOf Try.prog 3 (.int .i64 n) = some (.int .i64 n) := keyOf_int_mk Try.underlying3 (WalkArith.wf_i64 h)
/-- A node's number written anew. -/
theorem Own.setNum {B g cap : Nat} {l : List L.Nd} {w : World} (h : Own B (.slice (some ⟨g, 0, none⟩) l.length cap) l w) {k : Nat} (hk : k < l.length) (m : Int) :
    Own B (.slice (some ⟨g, 0, none⟩) l.length cap) (l.set k ⟨l[k].kind, l[k].name, m⟩) (w.setCell ⟨g, k * 3 + 2, none⟩ (.int .i64 m)) := by
  have c := (World.ownsRow.stored h (k * 3 + 2) (.int .i64 m)).1
  unfold Own
  rw [cellsN_set l k _ hk, List.length_set]
  have e0 : (cellsN l).set (k * 3) (.int .i64 l[k].kind) = cellsN l := by
    have := (cellsN_get l k hk).1
    rw [List.getElem?_eq_some_iff] at this
    obtain ⟨h1, h2⟩ := this
    rw [← h2]; exact List.set_getElem_self h1
  have e1 : (cellsN l).set (k * 3 + 1) (.string l[k].name) = cellsN l := by
    have := (cellsN_get l k hk).2.1
    rw [List.getElem?_eq_some_iff] at this
    obtain ⟨h1, h2⟩ := this
    rw [← h2]; exact List.set_getElem_self h1
  simp only [e0, e1]
  exact c
theorem fr_map {w w' : World} {bm : Nat} (hg : w.grownBy w' (some bm)) : Fr (fun i => i = bm) w w' := ⟨hg.os, hg.tape, hg.output, hg.size, fun i hi hp => hg.block i hi (fun e => hp (by injection e))⟩
theorem ownsMap_fr {k : TypeId} {R : Value → Option (DataW Unit × List MemPlace)} {P : Nat → Prop} {w w' : World} {bm n : Nat} {D : DataW Unit} (h : w.ownsMap Try.prog k R bm n D) (hf : Fr P w w') (hp : ¬P bm) : w'.ownsMap Try.prog k R bm n D := by
  obtain ⟨es, clock, h1, r⟩ := h
  exact ⟨es, clock, hf.heap h1 hp, r⟩

theorem run_make0 (w : World) : (Instr.makeMap 54 none).run Try.prog w = .ok (.map (some w.heap.size)) (w.alloc (.map #[] 0)) := by
  simp [Instr.makeMap]

def CanonPost (ts : List VT) (w : World) (e : Ending) (w' : World) : Prop := ∃ v' us, e = .returned v' ∧ us.map (·.2) = L.canonLs [] (ts.map (·.2)) ∧ RowT w.heap.size v' us w' ∧ Below w.heap.size w w'

set_option maxHeartbeats 8000000 in
set_option maxRecDepth 100000 in
theorem canon_any (ts : List VT) (hn : ts.length ≤ 100) (h0 : ∀ t ∈ ts, t.2 ≠ []) (hl : ∀ t ∈ ts, t.2.length ≤ 1000) (hi : ∀ t ∈ ts, ∀ y ∈ t.2, InN y) (v : Value) (w : World) (hx : RdR w w.heap.size v ts) :
    Calls Try.prog 15 #[v] w (CanonPost ts w) := by
  have HX := hid hx
  have H0 := hid h0
  have HL := hid hl
  have HI := hid hi
  obtain ⟨A, cap, rfl, hl1, hl2⟩ := hx.len
  unfold maxLen at hl2
  clear hx h0 hl hi
  have hmm := run_make0
  obtain ⟨bm, hbm⟩ : ∃ bm, bm = w.heap.size := ⟨_, rfl⟩
  go_enter Try.func15, Try.ntmps15
  go_wp2
  clear hmm
  go_loopw [4, 12] (fun v4 v12 wr => ∃ (k : Nat) (D : DataW Unit) (us : List VT), v12 = .int .i64 k ∧ k ≤ ts.length ∧ Hid (us.map (·.2) = L.canonLs [] ((ts.map (·.2)).take k)) ∧ us.length = k ∧ Hid (RowT (bm + 1) v4 us wr) ∧ Hid (wr.ownsMap Try.prog 3 (plainElem Try.prog 3) bm (L.seenLs [] ((ts.map (·.2)).take k)).length D) ∧ Hid (L.NumD D (L.seenLs [] ((ts.map (·.2)).take k))) ∧ Hid (Below w.heap.size w wr) ∧ bm + 1 ≤ wr.heap.size) (fun _ v12 _ => ts.length - (intOf v12).toNat)
  case atStart => exact ⟨0, _, [], rfl, by omega, hid rfl, rfl, hid (RowT.nil _ _), hid (by rw [hbm]; exact World.ownsMap_made _ _ _ _), hid L.numD_nil, hid (below_new _), by simp [hbm]⟩
  case round =>
    obtain ⟨k, D, us, rfl, hk, hU, hul, hR, hO, hD, hB, hbs⟩ := hrel
    obtain ⟨wo, rfl⟩ : ∃ wo, wo = wr := ⟨_, rfl⟩
    by_cases hlt : k < ts.length
    · have hxr := (HX.out.below hB.out).mono hB.out.size
      obtain ⟨b, o, rfl, hb, c0⟩ := hxr.at hlt
      have hm := List.getElem_mem hlt
      have hne := H0.out _ hm
      have hle := HL.out _ hm
      have HIN := hid (HI.out _ hm)
      have hrd := hxr.2 _ hm
      have htk : (ts.map (·.2)).take (k + 1) = (ts.map (·.2)).take k ++ [ts[k].2] := by
        rw [List.take_succ_eq_append_getElem (by simpa using hlt)]
        simp
      obtain ⟨hc1, hc2⟩ := L.canons_snoc ((ts.map (·.2)).take k) ts[k].2 []
      rw [← htk] at hc1 hc2
      have HC1 := hid hc1
      have HC2 := hid hc2
      have hsl := L.seens_len ((ts.map (·.2)).take k) [] (fun t ht => by
        obtain ⟨u, hu, rfl⟩ := List.mem_map.1 (List.take_subset _ _ ht)
        exact HL.out u hu)
      rw [List.length_take] at hsl
      have hsl2 : (L.seenLs [] ((ts.map (·.2)).take k)).length ≤ 100000 := by
        simp only [List.length_nil] at hsl
        omega
      clear hsl hm hxr htk hc1 hc2
      generalize L.seenLs [] ((ts.map (·.2)).take k) = sn at *
      obtain ⟨t, ht⟩ : ∃ t, t = ts[k] := ⟨_, rfl⟩
      rw [← ht] at c0 hne hle HIN hrd HC1 HC2
      obtain ⟨vt, l⟩ := t
      simp only at c0 hne hle HIN hrd HC1 HC2
      have HCL := hid (clone_any l hne (by omega) vt wo hrd)
      obtain ⟨A2, cp2, rfl, -⟩ := hrd.len
      clear ht hrd
      go_wp2_with fail
      refine (HCL.out).mono ?_
      rintro e w1 ⟨g, cg, rfl, hOw, hBw⟩
      have hF1 : Fr (fun i => i = bm) wo w1 := Fr.of_below hBw
      have hg1 := (Own.lt hOw g rfl)
      have HF1 := hid hF1
      have HOw := hid hOw
      have HM1 := hid (ownsMap_low hO.out hBw (by omega))
      clear hOw hBw hF1 HCL hO
      go_wp2_with fail
      go_loopw [20] (fun v20 wj => ∃ (j : Nat) (D : DataW Unit), v20 = .int .i64 j ∧ j ≤ l.length ∧ Hid (Own wo.heap.size (.slice (some ⟨g, 0, none⟩) l.length cg) (L.canonTo sn l j) wj) ∧ Hid (wj.ownsMap Try.prog 3 (plainElem Try.prog 3) bm (L.seenTo sn l j).length D) ∧ Hid (L.NumD D (L.seenTo sn l j)) ∧ Hid (Fr (fun i => i = bm) wo wj)) (fun v20 _ => l.length - (intOf v20).toNat)
      case atStart => exact ⟨0, D, rfl, by omega, by rw [L.canonTo_zero]; exact HOw, by rw [L.seenTo_zero]; exact HM1, by rw [L.seenTo_zero]; exact hD, HF1⟩
      case round =>
        clear HOw HM1 hD HF1
        obtain ⟨j, D, rfl, hj, hO, hM, hD, hF⟩ := hrel
        by_cases hjt : j < l.length
        · have hcl := L.canonTo_len sn l j
          have hjc : j < (L.canonTo sn l j).length := by omega
          have hOc : Own wo.heap.size (.slice (some ⟨g, 0, none⟩) (L.canonTo sn l j).length cg) (L.canonTo sn l j) wr := by rw [hcl]; exact hO.out
          obtain ⟨b', o', hbo, hbg, z0, z1, z2⟩ := hOc.rd.at hjc
          simp only [Option.some.injEq, Addr.mk.injEq, and_true] at hbo
          obtain ⟨rfl, rfl⟩ := hbo
          rw [L.canonTo_at sn l hjt] at z0 z1 z2
          simp only [Nat.zero_add] at z0 z1 z2
          have HXN := hid (HIN.out _ (List.getElem_mem hjt))
          have hsv := hid (fun hv => L.seen_var (s := sn) hjt hv)
          have hsn := hid (fun hv => L.seen_not (s := sn) hjt hv)
          have hAT := hid (L.canonTo_at sn l hjt)
          have hsl := L.seenTo_len sn l j
          have HCL := hid hcl
          have HOC := hid hOc
          have hgs := hF.out.size
          clear hO hOc hcl
          generalize hxe : l[j] = x at *
          have HAT := hid ((L.canonTo_at sn l hjt).trans hxe)
          clear hxe
          obtain ⟨k1, s1, n1⟩ := x
          simp only at z0 z1 z2
          have hbx := heap_alloc_new wr (.cells #[.int .i64 k1, .string s1, .int .i64 n1] 34)
          have hba := below_new (w := wr) (.cells #[.int .i64 k1, .string s1, .int .i64 n1] 34)
          have HBX := hid hbx
          have HBA := hid hba
          have HV := hid (isVar_any k1 n1 s1 (wr.alloc (.cells #[.int .i64 k1, .string s1, .int .i64 n1] 34)))
          clear hbx hba
          go_wp2_with fail
          refine (HV.out).mono ?_
          rintro e w2 ⟨rfl, hb2⟩
          have HB2 := hid (HBA.out.trans (hb2.mono HBA.out.size))
          have hF2 : Fr (fun i => i = bm) wo w2 := hF.out.trans (Fr.of_below HB2.out)
          have HF2 := hid hF2
          have HO2 := hid (HOC.out.below HB2.out)
          have hblk : bm < wr.heap.size := hM.out.lt
          have HM2 := hid (ownsMap_low hM.out HB2.out hblk)
          cases hvv : L.varN ⟨k1, s1, n1⟩ with
          | false =>
            obtain ⟨e1, e2⟩ := hsn.out (by rw [hvv]; simp)
            have E1 := hid e1
            have E2 := hid e2
            clear hF2 hb2 HV HBX hsv hsn hvv e1 e2
            go_wp2_with fail
            go_roundw
            case rel => exact ⟨j + 1, D, by go_num, by omega, by rw [E2.out, ← HCL.out]; exact HO2, by rw [E1.out]; exact HM2, by rw [E1.out]; exact hD, HF2⟩
            case measure => simp [intOf]; omega
          | true =>
            obtain ⟨e1, e2⟩ := hsv.out hvv
            have E1 := hid e1
            have E2 := hid e2
            have cx := hb2.cell (p := ⟨wr.heap.size, 0 + 2, none⟩) (by simp) |>.trans (Lib.cell_of_heap HBX.out 2)
            simp only [List.getElem?_toArray] at cx
            have hkey := key_int ⟨HXN.out.2.2, HXN.out.1⟩
            simp only at hkey
            have hmax : (L.seenTo sn l j).length < maxLen := by unfold maxLen; omega
            have hw2 : wo.heap.size ≤ g ∧ g < w2.heap.size := ⟨hg1.1, (Own.lt HO2.out g rfl).2⟩
            have own2 := HM2.out
            rw [hbm] at own2
            obtain ⟨c, hrun, hat, -⟩ := own2.lookup_int law_int Try.underlying54 Try.underlying3 (zero_int w2) hkey
            have hcv := hD.out.at_ n1
            rw [hat] at hcv
            simp only [DataW.lit.injEq, Lit.int.injEq, true_and] at hcv
            clear hF2 hb2 HV hsv hsn hvv e1 e2 hat
            have stored : ∀ (w5 : World) (m : Int) (D5 : DataW Unit), Own wo.heap.size (.slice (some ⟨g, 0, none⟩) (L.canonTo sn l j).length cg) (L.canonTo sn l j) w5 → w5.ownsMap Try.prog 3 (plainElem Try.prog 3) bm (L.seenTo sn l (j + 1)).length D5 → Fr (fun i => i = bm) wo w5 → (L.canonTo sn l (j + 1)) = (L.canonTo sn l j).set j ⟨k1, s1, m⟩ →
                Hid (Own wo.heap.size (.slice (some ⟨g, 0, none⟩) l.length cg) (L.canonTo sn l (j + 1)) (w5.setCell ⟨g, j * 3 + 2, none⟩ (.int .i64 m)) ∧ (w5.setCell ⟨g, j * 3 + 2, none⟩ (.int .i64 m)).ownsMap Try.prog 3 (plainElem Try.prog 3) bm (L.seenTo sn l (j + 1)).length D5 ∧ Fr (fun i => i = bm) wo (w5.setCell ⟨g, j * 3 + 2, none⟩ (.int .i64 m))) := by
              intro w5 m D5 h1 h2 h3 h4
              have a1 := h1.setNum hjc m
              have ax := congrArg L.Nd.kind HAT.out
              have ay := congrArg L.Nd.name HAT.out
              simp only at ax ay
              rw [ax, ay, ← h4, HCL.out] at a1
              have a2 := (World.ownsRow.stored h1 (j * 3 + 2) (.int .i64 m)).2
              have a3 := fr_map a2
              refine hid ⟨a1, ownsMap_fr h2 a3 (fun e => ?_), h3.then a3 (fun i hi e => ?_)⟩
              · omega
              · omega
            have cells : ∀ w5, Own wo.heap.size (.slice (some ⟨g, 0, none⟩) (L.canonTo sn l j).length cg) (L.canonTo sn l j) w5 → (∃ z, w5.cell? ⟨g, j * 3 + 2, none⟩ = some z) ∧ w5.frozen? ⟨g, j * 3 + 2, none⟩ = false := fun w5 h1 => by
              have h3 := cellsN_len (L.canonTo sn l j)
              exact ⟨⟨_, (World.ownsRow.cellAt h1 (j * 3 + 2) (by omega)).trans (List.getElem?_eq_getElem (by omega))⟩, World.ownsRow.frozenAt h1 (j * 3 + 2)⟩
            have HST := hid stored
            have HCE := hid cells
            clear stored cells
            by_cases hin : n1 ∈ L.seenTo sn l j
            · rw [if_pos hin] at hcv
              have hse : L.seeN (L.seenTo sn l j) n1 = L.seenTo sn l j := by unfold L.seeN; rw [if_pos hin]
              rw [hse] at E1 E2
              have hix : (L.seenTo sn l j).idxOf n1 < (L.seenTo sn l j).length := List.idxOf_lt_length_of_mem hin
              have HS5 := HST.out w2 c D HO2.out (by rw [E1.out]; exact HM2.out) HF2.out (by rw [E2.out, hcv])
              obtain ⟨⟨z, q2⟩, f2⟩ := HCE.out w2 HO2.out
              have hc0 : (c == 0) = false := by simp; omega
              clear hcv hse hin hix HST HCE own2 HO2 HM2 HF2
              go_wp2_with fail
              refine ⟨⟨j + 1, D, by go_num, by omega, hid HS5.out.1, hid HS5.out.2.1, by rw [E1.out]; exact hD, hid HS5.out.2.2⟩, by simp [intOf]; omega⟩
            · rw [if_neg hin] at hcv
              subst hcv
              have hse : L.seeN (L.seenTo sn l j) n1 = L.seenTo sn l j ++ [n1] := by unfold L.seeN; rw [if_neg hin]
              rw [hse] at E1 E2
              have hix : (L.seenTo sn l j ++ [n1]).idxOf n1 = (L.seenTo sn l j).length := by rw [List.idxOf_append, if_neg hin]; simp
              rw [hix] at E2
              have hD2 := L.numD_put (own2.tidy law_int) own2.isMap hD.out hin
              have hsz := hD.out.size
              have HSZ := hid hsz
              have HD2 := hid hD2
              have HIX := hid hix
              have hle2 : (L.seenTo sn l j).length ≤ 200000 := by omega
              have HE1 := hid (congrArg List.length E1.out)
              clear hse hix hin hD2 hsz
              have hlen := own2.len Try.underlying54 3
              rw [HSZ.out] at hlen
              go_wp2_with (at_mapUpdate; refine wpList_mapUpdate_own _ rfl _ _ _ 54 rfl 3 3 law_int Try.underlying54 _ w.heap.size (L.seenTo sn l j).length D rfl own2 hmax _ _ _ rfl rfl hkey _ [] (plainElem_int Try.underlying3 (WalkArith.wf_i64 (by omega))) ?_)
              intro w3 own3 hg3
              obtain ⟨c', hrun2, hat2, -⟩ := own3.lookup_int law_int Try.underlying54 Try.underlying3 (zero_int w3) hkey
              have hcv2 := HD2.out.at_ n1
              rw [hat2, if_pos (by simp), HIX.out] at hcv2
              simp only [DataW.lit.injEq, Lit.int.injEq, true_and] at hcv2
              have hf3 := fr_map hg3
              have HF3 := HF2.out.trans (by rw [← hbm] at hf3; exact hf3)
              have HO3 := own_fr HO2.out hf3 (fun q hq => by
                simp only [Value.ownBlock, Option.some.injEq] at hq
                omega)
              have own4 := own3
              rw [← hbm] at own4
              have HS5 := HST.out w3 c' _ HO3 (by rw [E1.out, List.length_append]; exact own4) HF3 (by rw [E2.out, hcv2])
              obtain ⟨⟨z, q2⟩, f2⟩ := HCE.out w3 HO3
              have cx3 := hf3.cell cx (by simp only; omega)
              have HD3 := hid (show L.NumD (D.put (.int .i64 n1) (.lit (.int .i64 (((L.seenTo sn l j).length : Int) + 1)))) (L.seenTo sn l (j + 1)) from by rw [E1.out]; exact HD2.out)
              clear hlen own2 own3 own4 hg3 hat2 hcv2 hf3 HF3 HO3 HST HCE HD2 HIX HE1 hrun cx hD HM2 HF2 HO2
              go_wp2_with fail
              refine ⟨⟨j + 1, _, by go_num, by omega, hid HS5.out.1, hid HS5.out.2.1, HD3, hid HS5.out.2.2⟩, by simp [intOf]; omega⟩
        · have ej : j = l.length := by omega
          subst ej
          have hO2 := hO.out
          rw [L.canonTo_end] at hO2
          have hM2 := hM.out
          rw [L.seenTo_end, ← HC2.out] at hM2
          have hD2 := hD.out
          rw [L.seenTo_end, ← HC2.out] at hD2
          have hr2 := hR.out.fr hF.out (fun i e => by omega)
          have HRD := hid hO2.rd
          have HU2 := hid (show (us ++ [((Value.slice (some ⟨g, 0, none⟩) l.length cg), (L.canonL sn l).1)]).map (·.2) = L.canonLs [] ((ts.map (·.2)).take (k + 1)) from by
            rw [List.map_append, hU.out, HC1.out]; rfl)
          have hblk : ∀ q, Blk (.slice (some ⟨g, 0, none⟩) l.length cg) (L.canonL sn l).1 q → q = g := fun q hq => by
            have := hq.2
            simp only [Value.ownBlock, Option.some.injEq] at this
            exact this.symm
          have hoff : ∀ q, Blk (.slice (some ⟨g, 0, none⟩) l.length cg) (L.canonL sn l).1 q → u4.ownBlock ≠ some q := fun q hq e => by
            have h1 := hblk q hq
            have := (World.ownsRow.lt hR.out.own q e).2
            omega
          have hlow : ∀ q, Blk (.slice (some ⟨g, 0, none⟩) l.length cg) (L.canonL sn l).1 q → bm + 1 ≤ q := fun q hq => by
            have h1 := hblk q hq
            omega
          have hul2 : us.length ≤ 100 := by omega
          have hg9 := hF.out.size
          have hbs9 : bm + 1 ≤ wr.heap.size := by omega
          have HR2 := hid hr2
          have HOF := hid hoff
          have HLO := hid hlow
          have HM2 := hid hM2
          have HD2 := hid hD2
          have HFA := hid hF.out
          have HUL := hid hul
          have HBS := hid hbs
          clear hO2 hM2 hD2 hr2 hblk hoff hlow hO hM hD hF hU HC1 HC2
          go_wp2_with (at_builtin; refine wpList_app_typ rfl (.tmp 48) (.tmp 50) rfl (B := bm + 1) (ts := us) (l := (L.canonL sn l).1) rfl HR2.out (by omega) hbs9 rfl HRD.out HOF.out HLO.out ?_)
          intro v5 w5 hR5 hF5
          have hR5b := hR5
          rw [← hbm] at hR5b
          have HR5 := hid hR5b
          have hF6 : Fr (fun i => bm ≤ i) wo w5 := (HFA.out.mono (fun i _ e => by omega)).then hF5 (fun i _ e => by
            have := (World.ownsRow.lt HR2.out.own i e).1
            omega)
          have HM5 := hid (ownsMap_fr HM2.out hF5 (fun e => by have := (World.ownsRow.lt HR2.out.own _ e).1; omega))
          have hB5 : Below w.heap.size w w5 := hB.out.trans (hF6.below (by omega) (fun i hi => by omega))
          have HB5 := hid hB5
          have HS5 := hid hF6.size
          clear hF6 hB5 hR5 hR5b hF5 HFA
          go_wp2_with fail
          go_roundw
          case rel => exact ⟨k + 1, D, us ++ [((Value.slice (some ⟨g, 0, none⟩) l.length cg), (L.canonL sn l).1)], by go_num, by omega, HU2, by simp [HUL.out], HR5, HM5, HD2, HB5, by have := HS5.out; omega⟩
          case measure => simp [intOf]; omega
    · have hke : (ts.map (·.2)).take k = ts.map (·.2) := List.take_of_length_le (by simp; omega)
      rw [hke] at hU
      have EX : Hid (CanonPost ts w (.returned u4) wo) := hid ⟨_, us, rfl, hU.out, hR.out.more (by omega), hB.out⟩
      clear hU hR hO hD hB hke
      go_wp2_with fail
      go_ret
      exact EX.out
end Go.Proofs.Ytmifcjiakiddkaa
