/-
  TermCanon is true for any types, any number. No conditions.
-/
import Derived.Test.YtmifcjiakiddkaaRows
import Derived.Test.YtmifcjiakiddkaaTmLp
import Derived.Test.YtmifcjiakiddkaaTmW4
import Derived.Test.YtmifcjiakiddkaaTmK
import Derived.BigQuiet
namespace Go.Proofs.Ytmifcjiakiddkaa.termCanon
open Go.ChangeShapes Go.WideShapes Go.ChangeAt Go.RowKit

theorem own : ownKnob Try.prog.godebug = none := by kernel_rfl

abbrev Post (w : World) (e : Ending) (w' : World) : Prop := e = .returned (.bool true) ∧ Below w.heap.size w w'

/-- What stays as the law goes on. -/
structure Kept (W : World) (ts cs : List VT) (A Ac : Option Addr) (cap cc : Nat) (w : World) : Prop where
  b : Below W.heap.size W w
  r : RdR w w.heap.size (.slice A ts.length cap) ts
  c : RdR w w.heap.size (.slice Ac ts.length cc) cs
theorem Kept.below {W : World} {ts cs : List VT} {A Ac : Option Addr} {cap cc : Nat} {w w' : World} (h : Kept W ts cs A Ac cap cc w) (hb : Below w.heap.size w w') : Kept W ts cs A Ac cap cc w' :=
  ⟨h.b.trans (hb.mono h.b.size), (h.r.below hb).mono hb.size, (h.c.below hb).mono hb.size⟩

set_option maxHeartbeats 8000000 in
set_option maxRecDepth 100000 in
theorem canon_true {W : World} (v : Value) (ts : List VT) (hR : RdR W W.heap.size v ts) (hn : ∀ t ∈ ts, ∀ y ∈ t.2, InN y) (n : Int) (_hnw : (Lit.int .i64 n).wf = true) :
    Calls Try.prog 4 #[v, .int .i64 n] W (Post W) := by
  obtain ⟨i0, hi, hz0, hz1, hz2⟩ := info_parts infoNode
  have HF := hid (fews_any ts (fun t ht y hy => (hn t ht y hy).2.1) v W hR)
  have HA := hid (fun w => alive_any w)
  have HR := hid hR
  have HN := hid hn
  obtain ⟨A, cap, rfl, hl1, hl2⟩ := hR.len
  unfold maxLen at hl2
  clear hR hn
  go_enter Try.func4, Try.ntmps4
  cases hfw : L.fewR (ts.map (·.2)) with
  | false =>
    rw [hfw] at HF
    go_wp2_with fail
    refine (HF.out).mono ?_
    rintro e w1 ⟨rfl, hb⟩
    have HB := hid hb
    have HAL := hid (HA.out w1)
    clear hb HF
    go_wp2_with fail
    refine (HAL.out).mono ?_
    rintro e w2 ⟨rfl, hb⟩
    have HB2 := hid (HB.out.trans (hb.mono HB.out.size))
    clear hb HAL
    go_wp2_with fail
    go_ret
    exact ⟨rfl, HB2.out⟩
  | true =>
    rw [hfw] at HF
    by_cases h0 : n < 0
    · skip
      go_wp2_with fail
      refine (HF.out).mono ?_
      rintro e w1 ⟨rfl, hb⟩
      have HB := hid hb
      have HAL := hid (HA.out w1)
      clear hb HF
      go_wp2_with fail
      refine (HAL.out).mono ?_
      rintro e w2 ⟨rfl, hb⟩
      have HB2 := hid (HB.out.trans (hb.mono HB.out.size))
      clear hb HAL
      go_wp2_with fail
      go_ret
      exact ⟨rfl, HB2.out⟩
    by_cases h1 : 1000000 < n
    · skip
      go_wp2_with fail
      refine (HF.out).mono ?_
      rintro e w1 ⟨rfl, hb⟩
      have HB := hid hb
      have HAL := hid (HA.out w1)
      clear hb HF
      go_wp2_with fail
      refine (HAL.out).mono ?_
      rintro e w2 ⟨rfl, hb⟩
      have HB2 := hid (HB.out.trans (hb.mono HB.out.size))
      clear hb HAL
      go_wp2_with fail
      go_ret
      exact ⟨rfl, HB2.out⟩
    have hfw2 := hfw
    simp only [L.fewR, Bool.and_eq_true, decide_eq_true_eq, List.length_map, List.all_eq_true] at hfw2
    obtain ⟨hl10, hall⟩ := hfw2
    have HT := hid (fun (t : VT) (ht : t ∈ ts) => show t.2 ≠ [] ∧ t.2.length ≤ 60 from by
      obtain ⟨x, ks, e, hT⟩ := L.few_get (hall t.2 (List.mem_map_of_mem ht))
      rw [e]
      exact ⟨by simp, hT.len⟩)
    clear hall hfw
    go_wp2_with fail
    refine (HF.out).mono ?_
    rintro e w1 ⟨rfl, hb⟩
    have HB1 := hid hb
    have hs1 := hb.size
    have HB1b := hid (HB1.out.alloc hs1 (.cells #[] 23))
    have HM0 := hid (show RowT W.heap.size (.slice (some ⟨w1.heap.size, 0, none⟩) 0 0) [] (w1.alloc (.cells #[] 23)) from ⟨own_more (World.ownsRow_made w1 #[] 0 (Nat.le_refl _) (Nat.zero_le _) (by simp)) hs1, by simp, by simp, by simp⟩)
    clear hb HF
    go_wp2_with fail
    go_loopw [5, 6] (fun v5 v6 wr => ∃ (k : Nat) (us : List VT), v6 = .int .i64 k ∧ k ≤ ts.length ∧ us.length = k ∧ Hid (us.map (·.2) = ((ts.map (·.2)).take k).map (fun t => t.map (L.mvN (· + n)))) ∧ Hid (∀ t ∈ us, ∀ y ∈ t.2, InN y) ∧ Hid (RowT W.heap.size v5 us wr) ∧ Hid (Below W.heap.size W wr)) (fun _ v6 _ => ts.length - (intOf v6).toNat)
    case atStart => exact ⟨0, [], rfl, by omega, rfl, hid (by simp), hid (by simp), HM0, HB1b⟩
    case round =>
      obtain ⟨k, us, rfl, hk, hul, hU, hUN, hM, hB⟩ := hrel
      obtain ⟨wo, rfl⟩ : ∃ wo, wo = wr := ⟨_, rfl⟩
      have hbs := hB.out.size
      by_cases hlt : k < ts.length
      · have hxr := (HR.out.below hB.out).mono hB.out.size
        obtain ⟨b, o, rfl, hb, c0⟩ := hxr.at hlt
        have hm := List.getElem_mem hlt
        obtain ⟨hne, hle⟩ := HT.out _ hm
        have hIN := HN.out _ hm
        have hrd := hxr.2 _ hm
        have htk : (ts.map (·.2)).take (k + 1) = (ts.map (·.2)).take k ++ [ts[k].2] := by
          rw [List.take_succ_eq_append_getElem (by simpa using hlt)]
          simp
        have HTK := hid htk
        clear hxr hm htk
        generalize htt : ts[k] = t at *
        clear htt
        obtain ⟨vt, l⟩ := t
        simp only at c0 hne hle hIN hrd HTK
        rcases hrd.src with ⟨_, hnn⟩ | ⟨a, ca, rfl, hs⟩
        · exact absurd hnn hne
        have HS := hid hs
        have HIN := hid hIN
        clear hs hrd hIN
        go_wp2_with (at_builtin; refine wpList_append_own _ rfl _ _ 23 rfl wo.heap.size 34 i0 (.agg #[.int .i64 0, .string ⟨#[]⟩, .int .i64 0]) 3 32 Try.underlying23 hi hz0 hz1 hz2 rfl (by decide) _ _ _ rfl (World.ownsRow_made wo #[] 0 (Nat.le_refl _) (Nat.zero_le _) (by simp)) a l.length ca (cellsN l) rfl (cellsN_len l) ?c1 ?c2 ?c3 ?c4 ?c5 ?_)
        case c1 => exact fun j u hj => Lib.cell?_alloc_some _ (HS.out j u hj)
        case c2 => exact cellsN_one l
        case c3 => unfold maxLen; omega
        case c4 => omega
        intro v' w2 hown hgrow hnil
        have hO : Own wo.heap.size v' l w2 := by
          unfold Own
          simpa using hown
        have hB2 : Below wo.heap.size wo w2 := (below_new _).grown hgrow (by simp) (by intro k hk; simp [Value.ownBlock] at hk; omega)
        obtain ⟨g, cg, rfl⟩ : ∃ g cg, v' = .slice (some ⟨g, 0, none⟩) l.length cg := by
          rcases hO.2 with ⟨_, hz⟩ | ⟨g, cap, cur, hv, _⟩
          · exact absurd (List.eq_nil_of_length_eq_zero hz) hne
          · exact ⟨g, cap, hv⟩
        have hg1 := (Own.lt hO g rfl).1
        have HO := hid hO
        have HB2 := hid hB2
        clear hown hgrow hnil hO hB2
        go_wp2_with fail
        go_loopw [8] (fun v8 wj => ∃ j : Nat, v8 = .int .i64 j ∧ j ≤ l.length ∧ Hid (Own wo.heap.size (.slice (some ⟨g, 0, none⟩) l.length cg) (L.mvTo n l j) wj) ∧ Hid (∀ y ∈ L.mvTo n l j, InN y) ∧ Hid (Below wo.heap.size wo wj)) (fun v8 _ => l.length - (intOf v8).toNat)
        case atStart => exact ⟨0, rfl, by omega, by rw [L.mvTo_zero]; exact HO, by rw [L.mvTo_zero]; exact HIN, HB2⟩
        case round =>
          clear HO HB2
          obtain ⟨j, rfl, hj, hO, hY, hBj⟩ := hrel
          have HBX := hid (hB.out.trans (hBj.out.mono hbs))
          by_cases hjt : j < l.length
          · have hcl := L.mvTo_len n l j
            have hjc : j < (L.mvTo n l j).length := by omega
            have hOc : Own wo.heap.size (.slice (some ⟨g, 0, none⟩) (L.mvTo n l j).length cg) (L.mvTo n l j) wr := by rw [hcl]; exact hO.out
            obtain ⟨b', o', hbo, hbg, z0, z1, z2⟩ := hOc.rd.at hjc
            simp only [Option.some.injEq, Addr.mk.injEq, and_true] at hbo
            obtain ⟨rfl, rfl⟩ := hbo
            rw [L.mvTo_at n l hjt] at z0 z1 z2
            simp only [Nat.zero_add] at z0 z1 z2
            have hXN := HIN.out _ (List.getElem_mem hjt)
            have hsc := L.mvTo_succ n l hjt
            generalize hxe : l[j] = x at *
            have HAT := hid ((L.mvTo_at n l hjt).trans hxe)
            clear hxe
            obtain ⟨k1, s1, n1⟩ := x
            simp only at z0 z1 z2
            have hxn : -9223372036854775808 ≤ n1 ∧ n1 ≤ 9223372036854775807 := ⟨hXN.2.2, hXN.1⟩
            have HXN := hid hXN
            by_cases hvv : L.varN ⟨k1, s1, n1⟩ = true
            · have hk89 : k1 = 8 ∨ k1 = 9 := by simpa [L.varN] using hvv
              by_cases hbig : 1000000000 < n1
              · rcases hk89 with rfl | rfl
                · clear hO hY hBj hOc hsc hXN hvv
                  have HAL := hid (HA.out wr)
                  go_wp2_with fail
                  refine (HAL.out).mono ?_
                  rintro e w2 ⟨rfl, hb⟩
                  have HB2 := hid (HBX.out.trans (hb.mono HBX.out.size))
                  clear hb HAL
                  go_wp2_with fail
                  go_ret
                  exact ⟨rfl, HB2.out⟩
                · clear hO hY hBj hOc hsc hXN hvv
                  have HAL := hid (HA.out wr)
                  go_wp2_with fail
                  refine (HAL.out).mono ?_
                  rintro e w2 ⟨rfl, hb⟩
                  have HB2 := hid (HBX.out.trans (hb.mono HBX.out.size))
                  clear hb HAL
                  go_wp2_with fail
                  go_ret
                  exact ⟨rfl, HB2.out⟩
              · have hsc2 : L.mvTo n l (j + 1) = (L.mvTo n l j).set j ⟨k1, s1, n1 + n⟩ := by rw [hsc]; unfold L.mvN; rw [if_pos hvv]
                have a1 := hOc.setNum hjc (n1 + n)
                have ax := congrArg L.Nd.kind HAT.out
                have ay := congrArg L.Nd.name HAT.out
                simp only at ax ay
                rw [ax, ay, ← hsc2, hcl] at a1
                have hb9 := hBj.out.setCell (p := ⟨g, j * 3 + 2, none⟩) hg1 (.int .i64 (n1 + n))
                have hY2 : ∀ y ∈ L.mvTo n l (j + 1), InN y := by
                  rw [hsc2]
                  intro y hy
                  rcases List.mem_or_eq_of_mem_set hy with hy | rfl
                  · exact hY.out y hy
                  · exact ⟨by simp only; omega, HXN.out.2.1, by simp only; omega⟩
                have h3 := cellsN_len (L.mvTo n l j)
                obtain ⟨zz, q2⟩ : ∃ z, wr.cell? ⟨g, j * 3 + 2, none⟩ = some z := ⟨_, z2⟩
                have f2 := World.ownsRow.frozenAt hOc (j * 3 + 2)
                have A1 := hid a1
                have B9 := hid hb9
                have Y2 := hid hY2
                clear hO hY hBj hOc hsc hXN hvv hsc2 a1 ax ay hb9 hY2 h3 q2
                rcases hk89 with rfl | rfl
                · go_wp2_with fail
                  go_round
                  case rel => exact ⟨j + 1, by go_num, by omega, A1, Y2, B9⟩
                  case measure => simp [intOf]; omega
                · go_wp2_with fail
                  go_round
                  case rel => exact ⟨j + 1, by go_num, by omega, A1, Y2, B9⟩
                  case measure => simp [intOf]; omega
            · have hk8 : (k1 == 8) = false := by
                simp [L.varN] at hvv
                simpa using hvv.1
              have hk9 : (k1 == 9) = false := by
                simp [L.varN] at hvv
                simpa using hvv.2
              have hse : L.mvTo n l (j + 1) = L.mvTo n l j := by
                rw [hsc]
                unfold L.mvN
                rw [if_neg hvv, ← HAT.out]
                exact List.set_getElem_self _
              have HSE := hid hse
              clear hOc hsc hXN hvv hse
              go_wp2_with fail
              go_round
              case rel => exact ⟨j + 1, by go_num, by omega, by rw [HSE.out]; exact hO, by rw [HSE.out]; exact hY, hBj⟩
              case measure => simp [intOf]; omega
          · have ej : j = l.length := by omega
            subst ej
            have hO2 := hO.out
            rw [L.mvTo_end] at hO2
            have hY2 := hY.out
            rw [L.mvTo_end] at hY2
            have hr2 := hM.out.below hBj.out
            have HRD := hid hO2.rd
            have HU2 := hid (show (us ++ [((Value.slice (some ⟨g, 0, none⟩) l.length cg), l.map (L.mvN (· + n)))]).map (·.2) = ((ts.map (·.2)).take (k + 1)).map (fun t => t.map (L.mvN (· + n))) from by
              rw [List.map_append, hU.out, HTK.out, List.map_append]; rfl)
            have HUN2 := hid (show ∀ t ∈ us ++ [((Value.slice (some ⟨g, 0, none⟩) l.length cg), l.map (L.mvN (· + n)))], ∀ y ∈ t.2, InN y from by
              intro t ht
              rcases List.mem_append.1 ht with ht | ht
              · exact hUN.out t ht
              · rw [List.mem_singleton.1 ht]; exact hY2)
            have hblk : ∀ q, Blk (.slice (some ⟨g, 0, none⟩) l.length cg) (l.map (L.mvN (· + n))) q → q = g := fun q hq => by
              have := hq.2
              simp only [Value.ownBlock, Option.some.injEq] at this
              exact this.symm
            have hoff : ∀ q, Blk (.slice (some ⟨g, 0, none⟩) l.length cg) (l.map (L.mvN (· + n))) q → u5.ownBlock ≠ some q := fun q hq e => by
              have h1 := hblk q hq
              have := (World.ownsRow.lt hM.out.own q e).2
              omega
            have hlow : ∀ q, Blk (.slice (some ⟨g, 0, none⟩) l.length cg) (l.map (L.mvN (· + n))) q → W.heap.size ≤ q := fun q hq => by
              have h1 := hblk q hq
              omega
            have hul2 : us.length ≤ 100 := by omega
            have hbs9 : W.heap.size ≤ wr.heap.size := HBX.out.size
            have HR2 := hid hr2
            have HOF := hid hoff
            have HLO := hid hlow
            have HUL := hid hul
            clear hO2 hY2 hr2 hblk hoff hlow hO hY hBj hB hM hU hUN hul
            go_wp2_with (at_builtin; refine wpList_app_typ rfl (.tmp 77) (.tmp 79) rfl (B := W.heap.size) (ts := us) (l := l.map (L.mvN (· + n))) rfl HR2.out (by omega) hbs9 rfl HRD.out HOF.out HLO.out ?_)
            intro v5 w5 hR5 hF5
            have HR5 := hid hR5
            have HB5 := hid (HBX.out.trans (hF5.below (B := W.heap.size) hbs9 (fun i hi e => by
              have := (World.ownsRow.lt HR2.out.own i e).1
              omega)))
            clear hR5 hF5 HBX HR2 HOF HLO HRD
            go_wp2_with fail
            go_round
            case rel => exact ⟨k + 1, us ++ [((Value.slice (some ⟨g, 0, none⟩) l.length cg), l.map (L.mvN (· + n)))], by go_num, by omega, by simp [HUL.out], HU2, HUN2, HR5, HB5⟩
            case measure => simp [intOf]; omega
      · have hke : (ts.map (·.2)).take k = ts.map (·.2) := List.take_of_length_le (by simp; omega)
        rw [hke] at hU
        have HRW := hid ((HR.out.below hB.out).mono hB.out.size)
        have HC := hid (canon_any ts (by omega) (fun t ht => (HT.out t ht).1) (fun t ht => by have := (HT.out t ht).2; omega) HN.out _ wo HRW.out)
        clear hke
        go_wp2_with fail
        refine (HC.out).mono ?_
        rintro e w2 ⟨vc, cs, rfl, hcs, hrc, hb⟩
        have hcl : cs.length = ts.length := by
          have := congrArg List.length hcs
          rw [L.canons_len] at this
          simpa using this
        obtain ⟨Ac, cc, rfl, -⟩ := hrc.val
        rw [hcl] at hrc
        have HK2 := hid (Kept.mk (W := W) (ts := ts) (cs := cs) (A := A) (Ac := Ac) (cap := cap) (cc := cc) (w := w2) (hB.out.trans (hb.mono hB.out.size)) ((HRW.out.below hb).mono hb.size) hrc.rdr)
        have HM2 := hid (((hM.out.rdr).below hb).mono hb.size)
        have hcin := canons_in (ts.map (·.2)) (by simp; omega) (fun l hl => by
          obtain ⟨t, ht, rfl⟩ := List.mem_map.1 hl
          exact ⟨by have := (HT.out t ht).2; omega, HN.out t ht⟩)
        have HCN := hid (fun (t : VT) (ht : t ∈ cs) => show t.2 ≠ [] ∧ t.2.length ≤ 1000 ∧ ∀ y ∈ t.2, InN y from by
          have hm : t.2 ∈ L.canonLs [] (ts.map (·.2)) := by rw [← hcs]; exact List.mem_map_of_mem ht
          refine ⟨fun e => ?_, hcin _ hm⟩
          obtain ⟨i, hi, e2⟩ := List.mem_iff_getElem.1 hm
          have hi2 : i < ts.length := by rw [L.canons_len, List.length_map] at hi; exact hi
          have e3 := L.canons_at (ts.map (·.2)) [] i (by simpa using hi2)
          rw [List.getElem?_eq_getElem hi, e2] at e3
          have e4 := congrArg List.length (Option.some.inj e3)
          rw [L.canon_len, e] at e4
          simp only [List.getElem_map, List.length_nil] at e4
          exact (HT.out _ (List.getElem_mem hi2)).1 (List.eq_nil_of_length_eq_zero e4.symm))
        have HCS := hid hcs
        rw [hcl]
        have HMC := hid (show L.canonLs [] (us.map (·.2)) = cs.map (·.2) from by rw [hU.out, hcs]; have := L.canons_moved (L.mv_inj n) (ts.map (·.2)) []; simpa using this)
        have HCC := hid (show L.canonLs [] (cs.map (·.2)) = cs.map (·.2) from by rw [hcs]; exact L.canons_own _)
        have hcl2 : cs.length ≤ 100 := by omega
        have hml : us.length ≤ 100 := by omega
        obtain ⟨Am, cm, rfl, -⟩ := hM.out.val
        have HMN := hid (fun (t : VT) (ht : t ∈ us) => show t.2 ≠ [] ∧ t.2.length ≤ 1000 from by
          have hm : t.2 ∈ (ts.map (·.2)).map (fun t => t.map (L.mvN (· + n))) := by rw [← hU.out]; exact List.mem_map_of_mem ht
          obtain ⟨l, hl, e⟩ := List.mem_map.1 hm
          obtain ⟨u, hu, rfl⟩ := List.mem_map.1 hl
          have := HT.out u hu
          rw [← e]
          exact ⟨fun h => this.1 (List.map_eq_nil_iff.1 h), by rw [List.length_map]; omega⟩)
        have HC2 := hid (canon_any us hml (fun t ht => (HMN.out t ht).1) (fun t ht => (HMN.out t ht).2) hUN.out _ w2 HM2.out)
        have HCL := hid hcl
        clear hb hcs hrc hcin HC HRW hU hUN hM hB HMN HM2 hul hcl
        go_wp2_with fail
        refine (HC2.out).mono ?_
        rintro e w3 ⟨vd, ds, rfl, hds, hrd, hb⟩
        have HK3 := hid (HK2.out.below hb)
        have HTY := hid (types_same ds cs (by rw [hds, HMC.out]) vd _ w3 hrd.rdr HK3.out.c)
        obtain ⟨Ad, cd, rfl, -⟩ := hrd.val
        clear hb hds hrd HC2 HK2
        go_wp2_with fail
        refine (HTY.out).mono ?_
        rintro e w4 ⟨rfl, hb⟩
        have HK4 := hid (HK3.out.below hb)
        have HC3 := hid (canon_any cs hcl2 (fun t ht => (HCN.out t ht).1) (fun t ht => (HCN.out t ht).2.1) (fun t ht => (HCN.out t ht).2.2) _ w4 HK4.out.c)
        clear hb HTY HK3
        go_wp2_with fail
        refine (HC3.out).mono ?_
        rintro e w5 ⟨vd2, ds2, rfl, hds, hrd, hb⟩
        have HK5 := hid (HK4.out.below hb)
        have HTY := hid (types_same ds2 cs (by rw [hds, HCC.out]) vd2 _ w5 hrd.rdr HK5.out.c)
        obtain ⟨Ad2, cd2, rfl, -⟩ := hrd.val
        clear hb hds hrd HC3 HK4
        go_wp2_with fail
        refine (HTY.out).mono ?_
        rintro e w6 ⟨rfl, hb⟩
        have HK6 := hid (HK5.out.below hb)
        clear hb HTY HK5
        go_wp2_with fail
        go_loopw [10, 11] (fun v10 v11 wr => ∃ i : Nat, v11 = .int .i64 i ∧ i ≤ ts.length ∧ v10 = .int .i64 ((L.seenLs [] ((ts.map (·.2)).take i)).length + 1) ∧ Hid (Kept W ts cs A Ac cap cc wr)) (fun _ v11 _ => ts.length - (intOf v11).toNat)
        case atStart => exact ⟨0, rfl, by omega, rfl, HK6⟩
        case round =>
          clear HK6
          obtain ⟨i, rfl, hi3, rfl, HK⟩ := hrel
          obtain ⟨wo, rfl⟩ : ∃ wo, wo = wr := ⟨_, rfl⟩
          by_cases hlt : i < ts.length
          · obtain ⟨b, o, rfl, hb, c0⟩ := HK.out.r.at hlt
            have hltc : i < cs.length := by have := HCL.out; omega
            obtain ⟨bc, oc, rfl, hbc, d0⟩ := HK.out.c.at hltc
            have ht1 := HT.out _ (List.getElem_mem hlt)
            have hr1 := HK.out.r.2 _ (List.getElem_mem hlt)
            have hr2 := HK.out.c.2 _ (List.getElem_mem hltc)
            have hit : i < (ts.map (·.2)).length := by simpa using hlt
            have hca0 := L.canons_at (ts.map (·.2)) [] i hit
            rw [← HCS.out, List.getElem?_eq_getElem (by simpa using hltc)] at hca0
            have hca := Option.some.inj hca0
            clear hca0
            simp only [List.getElem_map] at hca
            have htk : (ts.map (·.2)).take (i + 1) = (ts.map (·.2)).take i ++ [ts[i].2] := by
              rw [List.take_succ_eq_append_getElem hit]
              simp
            have hsn := (L.canons_snoc ((ts.map (·.2)).take i) ts[i].2 []).2
            rw [← htk] at hsn
            have hsl := L.seens_len ((ts.map (·.2)).take i) [] (fun l hl => by
              obtain ⟨t, ht, rfl⟩ := List.mem_map.1 (List.take_subset _ _ hl)
              have := (HT.out t ht).2; omega)
            rw [List.length_take] at hsl
            simp only [List.length_nil] at hsl
            have hsl2 : (L.seenLs [] ((ts.map (·.2)).take i)).length ≤ 100000 := by omega
            obtain ⟨t, htt⟩ : ∃ t, t = ts[i] := ⟨_, rfl⟩
            obtain ⟨u, hut⟩ : ∃ u, u = cs[i] := ⟨_, rfl⟩
            rw [← htt] at c0 ht1 hr1 hca hsn
            rw [← hut] at d0 hr2 hca
            obtain ⟨vt, l⟩ := t
            obtain ⟨vu, cl⟩ := u
            simp only at c0 d0 ht1 hr1 hr2 hca hsn
            subst hca
            have hcn := L.canon_len l (L.seenLs [] ((ts.map (·.2)).take i))
            have HSN := hid hsn
            have HVT := hid hr1
            have HVU := hid hr2
            obtain ⟨At, ct, rfl, -⟩ := hr1.len
            obtain ⟨Au, cu, rfl, -⟩ := hr2.len
            rw [hcn] at d0 HVU
            have hl60 := ht1.2
            have HCNL := hid hcn
            clear hr1 hr2 hsl hsn htt hut htk hit ht1 hcn
            generalize L.seenLs [] ((ts.map (·.2)).take i) = sn at *
            go_wp2_with (go_quiet (fail))
            go_loopw [10, 12] (fun v10 v12 wj => ∃ k : Nat, v12 = .int .i64 k ∧ k ≤ l.length ∧ v10 = .int .i64 ((L.seenTo sn l k).length + 1) ∧ Hid (Below wo.heap.size wo wj)) (fun _ v12 _ => l.length - (intOf v12).toNat)
            case atStart => exact ⟨0, rfl, by omega, by rw [L.seenTo_zero], hid (below_drewN (Below.refl _ _) _)⟩
            case round =>
              obtain ⟨k, rfl, hkl, rfl, hBj⟩ := hrel
              have c0' := hBj.out.cell (p := ⟨b, o + i, none⟩) hb |>.trans c0
              have d0' := hBj.out.cell (p := ⟨bc, oc + i, none⟩) hbc |>.trans d0
              have hsl3 := L.seenTo_len sn l k
              by_cases hlk : k < l.length
              · have hrt := HVT.out.below hBj.out
                have hru := HVU.out.below hBj.out
                have hkc : k < (L.canonL sn l).1.length := by rw [HCNL.out]; exact hlk
                obtain ⟨bl, ol, rfl, hbl, x0, x1, x2⟩ := hrt.at hlk
                obtain ⟨bu, ou, rfl, hbu, y0, y1, y2⟩ := (show Rd wr wo.heap.size (.slice Au l.length cu) (L.canonL sn l).1 from hru).at hkc
                have hct := L.canon_at (s := sn) hlk
                rw [List.getElem?_eq_getElem hkc] at hct
                have hct2 := Option.some.inj hct
                rw [hct2] at y0 y1 y2
                have hsv := hid (fun hv => (L.seen_var (s := sn) hlk hv).1)
                have hsn := hid (fun hv => (L.seen_not (s := sn) hlk hv).1)
                clear hct hct2 hrt hru
                generalize l[k] = x at *
                obtain ⟨k1, s1, n1⟩ := x
                simp only at x0 x1 x2
                have hmm := L.see_one (L.seenTo sn l k) n1
                by_cases hvv : L.varN ⟨k1, s1, n1⟩ = true
                · rw [if_pos hvv] at y0 y1 y2
                  simp only at y0 y1 y2
                  have hE := hsv.out hvv
                  simp only at hE
                  have hEl := congrArg List.length hE
                  have hk89 : k1 = 8 ∨ k1 = 9 := by simpa [L.varN] using hvv
                  obtain ⟨m, hm⟩ : ∃ m, m = (L.seenTo sn l k).length := ⟨_, rfl⟩
                  obtain ⟨ix, hix⟩ : ∃ ix, ix = (L.seeN (L.seenTo sn l k) n1).idxOf n1 := ⟨_, rfl⟩
                  rw [← hix] at y2 hmm
                  rw [← hm] at hmm hsl3 ⊢
                  rw [hE] at hEl
                  have HEL := hid hE
                  have hd1 : decide ((ix : Int) + 1 < 1) = false := by simp; omega
                  have hd2 : decide ((m : Int) + 1 < (ix : Int) + 1) = false := by simp; omega
                  have hd2b : decide ((m : Int) < (ix : Int)) = false := by simp; omega
                  have hd2c : decide (m < ix) = false := by simp; omega
                  clear hvv hsv hsn hix hE
                  rcases hk89 with rfl | rfl
                  · skip
                    rcases hmm with ⟨hi1, hi2⟩ | ⟨hi1, hi2⟩
                    · have hd3 : ((ix : Int) + 1 == (m : Int) + 1) = false := by simp; omega
                      have HN2 := hid (show (L.seenTo sn l (k + 1)).length = m from by rw [HEL.out]; exact hi2)
                      obtain ⟨Wa, hWa⟩ : ∃ Wa, wr.alloc (.cells #[.int .i64 8, .string s1, .int .i64 ((ix : Int) + 1)] 34) = Wa := ⟨_, rfl⟩
                      have w0 : Wa.cell? ⟨b, o + i, none⟩ = some (.slice (some ⟨bl, ol, none⟩) l.length ct) := by rw [← hWa]; exact Lib.cell?_alloc_some _ c0'
                      have wx0 : Wa.cell? ⟨bl, ol + k * 3, none⟩ = some (.int .i64 8) := by rw [← hWa]; exact Lib.cell?_alloc_some _ x0
                      have wx1 : Wa.cell? ⟨bl, ol + k * 3 + 1, none⟩ = some (.string s1) := by rw [← hWa]; exact Lib.cell?_alloc_some _ x1
                      have wx2 : Wa.cell? ⟨bl, ol + k * 3 + 2, none⟩ = some (.int .i64 n1) := by rw [← hWa]; exact Lib.cell?_alloc_some _ x2
                      have wb0 : Wa.cell? ⟨wr.heap.size, 0, none⟩ = some (.int .i64 8) := by rw [← hWa]; exact (Lib.cell_of_heap (heap_alloc_new wr (.cells #[.int .i64 8, .string s1, .int .i64 ((ix : Int) + 1)] 34)) 0).trans rfl
                      have wb1 : Wa.cell? ⟨wr.heap.size, 1, none⟩ = some (.string s1) := by rw [← hWa]; exact (Lib.cell_of_heap (heap_alloc_new wr (.cells #[.int .i64 8, .string s1, .int .i64 ((ix : Int) + 1)] 34)) 1).trans rfl
                      have wb2 : Wa.cell? ⟨wr.heap.size, 2, none⟩ = some (.int .i64 ((ix : Int) + 1)) := by rw [← hWa]; exact (Lib.cell_of_heap (heap_alloc_new wr (.cells #[.int .i64 8, .string s1, .int .i64 ((ix : Int) + 1)] 34)) 2).trans rfl
                      have BW := hid (hBj.out.trans ((below_new (w := wr) (.cells #[.int .i64 8, .string s1, .int .i64 ((ix : Int) + 1)] 34)).mono hBj.out.size))
                      rw [hWa] at BW
                      have HWA := hid hWa
                      clear hWa
                      clear hi1 hi2 hEl hm
                      go_wp2
                      rw [HWA.out]
                      go_quiet (fail)
                      go_wp2
                      exact ⟨⟨k + 1, by go_num, by omega, by rw [HN2.out], hid (BW.out.trans ((below_drewN (Below.refl _ _) _).mono BW.out.size))⟩, by simp [intOf]; omega⟩
                    · have hd3 : ((ix : Int) + 1 == (m : Int) + 1) = true := by simp; omega
                      have HN2 := hid (show (L.seenTo sn l (k + 1)).length = m + 1 from by rw [HEL.out]; exact hi2)
                      obtain ⟨Wa, hWa⟩ : ∃ Wa, wr.alloc (.cells #[.int .i64 8, .string s1, .int .i64 ((ix : Int) + 1)] 34) = Wa := ⟨_, rfl⟩
                      have w0 : Wa.cell? ⟨b, o + i, none⟩ = some (.slice (some ⟨bl, ol, none⟩) l.length ct) := by rw [← hWa]; exact Lib.cell?_alloc_some _ c0'
                      have wx0 : Wa.cell? ⟨bl, ol + k * 3, none⟩ = some (.int .i64 8) := by rw [← hWa]; exact Lib.cell?_alloc_some _ x0
                      have wx1 : Wa.cell? ⟨bl, ol + k * 3 + 1, none⟩ = some (.string s1) := by rw [← hWa]; exact Lib.cell?_alloc_some _ x1
                      have wx2 : Wa.cell? ⟨bl, ol + k * 3 + 2, none⟩ = some (.int .i64 n1) := by rw [← hWa]; exact Lib.cell?_alloc_some _ x2
                      have wb0 : Wa.cell? ⟨wr.heap.size, 0, none⟩ = some (.int .i64 8) := by rw [← hWa]; exact (Lib.cell_of_heap (heap_alloc_new wr (.cells #[.int .i64 8, .string s1, .int .i64 ((ix : Int) + 1)] 34)) 0).trans rfl
                      have wb1 : Wa.cell? ⟨wr.heap.size, 1, none⟩ = some (.string s1) := by rw [← hWa]; exact (Lib.cell_of_heap (heap_alloc_new wr (.cells #[.int .i64 8, .string s1, .int .i64 ((ix : Int) + 1)] 34)) 1).trans rfl
                      have wb2 : Wa.cell? ⟨wr.heap.size, 2, none⟩ = some (.int .i64 ((ix : Int) + 1)) := by rw [← hWa]; exact (Lib.cell_of_heap (heap_alloc_new wr (.cells #[.int .i64 8, .string s1, .int .i64 ((ix : Int) + 1)] 34)) 2).trans rfl
                      have BW := hid (hBj.out.trans ((below_new (w := wr) (.cells #[.int .i64 8, .string s1, .int .i64 ((ix : Int) + 1)] 34)).mono hBj.out.size))
                      rw [hWa] at BW
                      have HWA := hid hWa
                      clear hWa
                      clear hi1 hi2 hEl hm
                      go_wp2
                      rw [HWA.out]
                      go_quiet (fail)
                      go_wp2
                      exact ⟨⟨k + 1, by go_num, by omega, by rw [HN2.out]; go_num, hid (BW.out.trans ((below_drewN (Below.refl _ _) _).mono BW.out.size))⟩, by simp [intOf]; omega⟩
                  · skip
                    rcases hmm with ⟨hi1, hi2⟩ | ⟨hi1, hi2⟩
                    · have hd3 : ((ix : Int) + 1 == (m : Int) + 1) = false := by simp; omega
                      have HN2 := hid (show (L.seenTo sn l (k + 1)).length = m from by rw [HEL.out]; exact hi2)
                      obtain ⟨Wa, hWa⟩ : ∃ Wa, wr.alloc (.cells #[.int .i64 9, .string s1, .int .i64 ((ix : Int) + 1)] 34) = Wa := ⟨_, rfl⟩
                      have w0 : Wa.cell? ⟨b, o + i, none⟩ = some (.slice (some ⟨bl, ol, none⟩) l.length ct) := by rw [← hWa]; exact Lib.cell?_alloc_some _ c0'
                      have wx0 : Wa.cell? ⟨bl, ol + k * 3, none⟩ = some (.int .i64 9) := by rw [← hWa]; exact Lib.cell?_alloc_some _ x0
                      have wx1 : Wa.cell? ⟨bl, ol + k * 3 + 1, none⟩ = some (.string s1) := by rw [← hWa]; exact Lib.cell?_alloc_some _ x1
                      have wx2 : Wa.cell? ⟨bl, ol + k * 3 + 2, none⟩ = some (.int .i64 n1) := by rw [← hWa]; exact Lib.cell?_alloc_some _ x2
                      have wb0 : Wa.cell? ⟨wr.heap.size, 0, none⟩ = some (.int .i64 9) := by rw [← hWa]; exact (Lib.cell_of_heap (heap_alloc_new wr (.cells #[.int .i64 9, .string s1, .int .i64 ((ix : Int) + 1)] 34)) 0).trans rfl
                      have wb1 : Wa.cell? ⟨wr.heap.size, 1, none⟩ = some (.string s1) := by rw [← hWa]; exact (Lib.cell_of_heap (heap_alloc_new wr (.cells #[.int .i64 9, .string s1, .int .i64 ((ix : Int) + 1)] 34)) 1).trans rfl
                      have wb2 : Wa.cell? ⟨wr.heap.size, 2, none⟩ = some (.int .i64 ((ix : Int) + 1)) := by rw [← hWa]; exact (Lib.cell_of_heap (heap_alloc_new wr (.cells #[.int .i64 9, .string s1, .int .i64 ((ix : Int) + 1)] 34)) 2).trans rfl
                      have BW := hid (hBj.out.trans ((below_new (w := wr) (.cells #[.int .i64 9, .string s1, .int .i64 ((ix : Int) + 1)] 34)).mono hBj.out.size))
                      rw [hWa] at BW
                      have HWA := hid hWa
                      clear hWa
                      clear hi1 hi2 hEl hm
                      go_wp2
                      rw [HWA.out]
                      go_quiet (fail)
                      go_wp2
                      exact ⟨⟨k + 1, by go_num, by omega, by rw [HN2.out], hid (BW.out.trans ((below_drewN (Below.refl _ _) _).mono BW.out.size))⟩, by simp [intOf]; omega⟩
                    · have hd3 : ((ix : Int) + 1 == (m : Int) + 1) = true := by simp; omega
                      have HN2 := hid (show (L.seenTo sn l (k + 1)).length = m + 1 from by rw [HEL.out]; exact hi2)
                      obtain ⟨Wa, hWa⟩ : ∃ Wa, wr.alloc (.cells #[.int .i64 9, .string s1, .int .i64 ((ix : Int) + 1)] 34) = Wa := ⟨_, rfl⟩
                      have w0 : Wa.cell? ⟨b, o + i, none⟩ = some (.slice (some ⟨bl, ol, none⟩) l.length ct) := by rw [← hWa]; exact Lib.cell?_alloc_some _ c0'
                      have wx0 : Wa.cell? ⟨bl, ol + k * 3, none⟩ = some (.int .i64 9) := by rw [← hWa]; exact Lib.cell?_alloc_some _ x0
                      have wx1 : Wa.cell? ⟨bl, ol + k * 3 + 1, none⟩ = some (.string s1) := by rw [← hWa]; exact Lib.cell?_alloc_some _ x1
                      have wx2 : Wa.cell? ⟨bl, ol + k * 3 + 2, none⟩ = some (.int .i64 n1) := by rw [← hWa]; exact Lib.cell?_alloc_some _ x2
                      have wb0 : Wa.cell? ⟨wr.heap.size, 0, none⟩ = some (.int .i64 9) := by rw [← hWa]; exact (Lib.cell_of_heap (heap_alloc_new wr (.cells #[.int .i64 9, .string s1, .int .i64 ((ix : Int) + 1)] 34)) 0).trans rfl
                      have wb1 : Wa.cell? ⟨wr.heap.size, 1, none⟩ = some (.string s1) := by rw [← hWa]; exact (Lib.cell_of_heap (heap_alloc_new wr (.cells #[.int .i64 9, .string s1, .int .i64 ((ix : Int) + 1)] 34)) 1).trans rfl
                      have wb2 : Wa.cell? ⟨wr.heap.size, 2, none⟩ = some (.int .i64 ((ix : Int) + 1)) := by rw [← hWa]; exact (Lib.cell_of_heap (heap_alloc_new wr (.cells #[.int .i64 9, .string s1, .int .i64 ((ix : Int) + 1)] 34)) 2).trans rfl
                      have BW := hid (hBj.out.trans ((below_new (w := wr) (.cells #[.int .i64 9, .string s1, .int .i64 ((ix : Int) + 1)] 34)).mono hBj.out.size))
                      rw [hWa] at BW
                      have HWA := hid hWa
                      clear hWa
                      clear hi1 hi2 hEl hm
                      go_wp2
                      rw [HWA.out]
                      go_quiet (fail)
                      go_wp2
                      exact ⟨⟨k + 1, by go_num, by omega, by rw [HN2.out]; go_num, hid (BW.out.trans ((below_drewN (Below.refl _ _) _).mono BW.out.size))⟩, by simp [intOf]; omega⟩
                · rw [if_neg hvv] at y0 y1 y2
                  simp only at y0 y1 y2
                  have hk8 : (k1 == 8) = false := by
                    simp [L.varN] at hvv
                    simpa using hvv.1
                  have hk9 : (k1 == 9) = false := by
                    simp [L.varN] at hvv
                    simpa using hvv.2
                  have hk8b : ¬k1 = 8 := by simpa using hk8
                  have hk9b : ¬k1 = 9 := by simpa using hk9
                  have hk8c : (k1 != 8) = true := by simpa using hk8
                  have hk9c : (k1 != 9) = true := by simpa using hk9
                  have HE := hid (hsn.out hvv)
                  clear hvv hsv hsn hmm
                  obtain ⟨Wa, hWa⟩ : ∃ Wa, wr.alloc (.cells #[.int .i64 k1, .string s1, .int .i64 n1] 34) = Wa := ⟨_, rfl⟩
                  have w0 : Wa.cell? ⟨b, o + i, none⟩ = some (.slice (some ⟨bl, ol, none⟩) l.length ct) := by rw [← hWa]; exact Lib.cell?_alloc_some _ c0'
                  have wx0 : Wa.cell? ⟨bl, ol + k * 3, none⟩ = some (.int .i64 k1) := by rw [← hWa]; exact Lib.cell?_alloc_some _ x0
                  have wx1 : Wa.cell? ⟨bl, ol + k * 3 + 1, none⟩ = some (.string s1) := by rw [← hWa]; exact Lib.cell?_alloc_some _ x1
                  have wx2 : Wa.cell? ⟨bl, ol + k * 3 + 2, none⟩ = some (.int .i64 n1) := by rw [← hWa]; exact Lib.cell?_alloc_some _ x2
                  have wb0 : Wa.cell? ⟨wr.heap.size, 0, none⟩ = some (.int .i64 k1) := by rw [← hWa]; exact (Lib.cell_of_heap (heap_alloc_new wr (.cells #[.int .i64 k1, .string s1, .int .i64 n1] 34)) 0).trans rfl
                  have wb1 : Wa.cell? ⟨wr.heap.size, 1, none⟩ = some (.string s1) := by rw [← hWa]; exact (Lib.cell_of_heap (heap_alloc_new wr (.cells #[.int .i64 k1, .string s1, .int .i64 n1] 34)) 1).trans rfl
                  have wb2 : Wa.cell? ⟨wr.heap.size, 2, none⟩ = some (.int .i64 n1) := by rw [← hWa]; exact (Lib.cell_of_heap (heap_alloc_new wr (.cells #[.int .i64 k1, .string s1, .int .i64 n1] 34)) 2).trans rfl
                  have BW := hid (hBj.out.trans ((below_new (w := wr) (.cells #[.int .i64 k1, .string s1, .int .i64 n1] 34)).mono hBj.out.size))
                  rw [hWa] at BW
                  have HWA := hid hWa
                  clear hWa
                  go_wp2
                  rw [HWA.out]
                  go_quiet (fail)
                  go_wp2
                  exact ⟨⟨k + 1, by go_num, by omega, by rw [HE.out], hid (BW.out.trans ((below_drewN (Below.refl _ _) _).mono BW.out.size))⟩, by simp [intOf]; omega⟩
              · have ek : k = l.length := by omega
                subst ek
                have HSE := hid (show (L.seenTo sn l l.length).length = (L.seenLs [] ((ts.map (·.2)).take (i + 1))).length from by rw [L.seenTo_end, HSN.out])
                have HK9 := hid (HK.out.below hBj.out)
                clear HK hBj hsl3 HVT HVU HSN
                go_wp2_with fail
                go_round
                case rel => exact ⟨i + 1, by go_num, by omega, by rw [HSE.out], HK9⟩
                case measure => simp [intOf]; omega
          · have HAL := hid (HA.out wo)
            go_wp2_with fail
            refine (HAL.out).mono ?_
            rintro e w9 ⟨rfl, hb⟩
            have HK9 := hid (HK.out.below hb)
            clear hb HAL HK
            go_wp2_with fail
            go_ret
            exact ⟨rfl, HK9.out.b⟩

set_option maxRecDepth 100000 in
theorem termCanon_lifted (os : Os) (started : os.Started) (H : Type) (enc : TypeId × Value → H) :
    ReturnsInHanded {} Try.checked os 4 .any (Rows.termCanonSpec.pre6 enc Try.prog Try.f4 Rows.termCanonRow.domain false) (Rows.termCanonSpec.post enc Try.prog Try.f4 false true false false) := by
  refine returnsInHanded_of_change (C := Try.checked) own started (by kernel_rfl) Try.func4
    (ChangeSpec.witness6 (enc := enc) (C := Try.checked) false ⟨#[], #[.slice none 0 0, .int .i64 0], []⟩ 8 (by kernel_rfl) (by kernel_rfl) (by kernel_rfl) (by kernel_rfl)) ?_
  intro W base args ds gs before hval0 hW hcnd _
  have hlts := hW.lt
  have hval : ∀ (j : Nat) t v, Try.f4.params[j]? = some t → args[j]? = some v → Value.okWide Try.prog W .any base t v := hval0
  have hW' := hW
  obtain ⟨p, q, hA0, hV, rfl, hfz, hnd⟩ := hW
  have hA : DataW.TrodAll enc Try.prog W 0 (fun _ => true) true Try.f4.params.toList args.toList ds p := hA0
  rw [Try.params4] at hA hval
  obtain ⟨v0, vs0, d0, ds0, p0, q0, hargs0, rfl, rfl, h0, r0⟩ := trodAll_cons hA
  obtain ⟨v1, vs1, d1, ds1, p1, q1, hargs1, rfl, rfl, h1, r1⟩ := trodAll_cons r0
  obtain ⟨hn, rfl, rfl⟩ := trodAll_nil r1
  obtain rfl : args = #[v0, v1] := by cases args; simp_all
  obtain ⟨rfl, rfl⟩ := trodVars_none hV
  obtain ⟨sa0, sl0, sc0, hsv0⟩ := okWide_slice Try.underlying25 (hval 0 25 v0 rfl rfl)
  obtain ⟨fuel0, hf0⟩ := h0
  obtain ⟨u0, l0, hu0, hR0, hn0⟩ := rdr_of_trod hf0
  obtain rfl : v0 = u0 := by
    rw [hsv0] at hu0
    rw [hsv0]
    simpa [Value.cells] using hu0
  obtain ⟨a1, rfl, rfl, rfl, w1⟩ := open_int Try.underlying3 (hval 1 3 v1 rfl rfl) h1
  clear hA0 hval0
  simp only [List.append_nil] at hW' hlts
  refine (canon_true v0 l0 hR0 hn0 a1 w1 (W := W)).mono fun e W' ⟨he, hB⟩ => ?_
  subst he
  refine ⟨_, rfl, _, _, _, [], (p0 ++ []), [], by simpa using hW', ?_, ?_, ?_, hB.frame _, fun h => by cases h⟩
  · exact trodAll_cons_mk (shut_bool Try.underlying4 _) trodAll_mk0
  · exact (trodAll_cons_mk (Below.trod (by kernel_rfl) (by kernel_rfl) (of_decide_eq_true (by kernel_rfl)) ⟨fuel0, hf0⟩ hB (fun x hx => hlts x (by simp [hx]))) (trodAll_cons_mk (shut_int Try.underlying3 w1) trodAll_mk0))
  · rfl

/-- TermCanon: the given statement. -/
theorem termCanon_holds : Rows.TermCanonSaid :=
  OpenClaim.holds_of_wide 4 Try.f4 rfl rfl rfl rfl rfl rfl rfl ⟨rfl, rfl, rfl, rfl, rfl⟩ rfl rfl rfl rfl rfl (by kernel_rfl) Try.func4 (by kernel_rfl)
    (of_decide_eq_true (by kernel_rfl)) (by unfold Func.isWrapper; first | (rw [if_pos (by decide +kernel)]; kernel_rfl) | (rw [if_neg (by decide +kernel)]; exact ⟨rfl, rfl⟩))
    (fun os started H enc _ => termCanon_lifted os started H enc)

end Go.Proofs.Ytmifcjiakiddkaa.termCanon
