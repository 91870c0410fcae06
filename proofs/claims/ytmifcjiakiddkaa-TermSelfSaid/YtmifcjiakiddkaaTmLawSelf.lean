/-
  TermSelf is true for any type, any number. No conditions.
-/
import Derived.Test.YtmifcjiakiddkaaRows
import Derived.Test.YtmifcjiakiddkaaTmLp
import Derived.Test.YtmifcjiakiddkaaTmW4
import Derived.Test.YtmifcjiakiddkaaTmS
import Derived.BigQuiet
namespace Go.Proofs.Ytmifcjiakiddkaa.termSelf
open Go.ChangeShapes Go.WideShapes Go.ChangeAt Go.RowKit

theorem own : ownKnob Try.prog.godebug = none := by kernel_rfl

abbrev Post (w : World) (e : Ending) (w' : World) : Prop := e = .returned (.bool true) ∧ Below w.heap.size w w'

theorem fresh_name : ∀ (t : List L.Nd) (n : Int), L.Short t → L.Short (L.freshL t n)
  | [], _, _ => fun x h => by cases h
  | x :: t, n, h => by
    have h1 := fun n => fresh_name t n fun y hy => h y (by simp [hy])
    intro y hy
    rw [L.freshL] at hy
    split at hy
    · simp only [List.mem_cons] at hy
      rcases hy with rfl | hy
      · exact h x (by simp)
      · exact h1 _ y hy
    · simp only [List.mem_cons] at hy
      rcases hy with rfl | hy
      · exact h _ (by simp)
      · exact h1 _ y hy
theorem any_take {t : List L.Nd} {n : Int} {k : Nat} (h : k < t.length) : (t.take (k + 1)).any (L.tailN n) = ((t.take k).any (L.tailN n) || L.tailN n t[k]) := by
  rw [List.take_succ_eq_append_getElem h, List.any_append]
  simp
/-- What stays as the law goes on. -/
structure Kept (W : World) (l xl zl : List L.Nd) (A Ax Ay Az : Option Addr) (cap cx cy cz : Nat) (w : World) : Prop where
  b : Below W.heap.size W w
  r : Rd w w.heap.size (.slice A l.length cap) l
  x : Own 0 (.slice Ax xl.length cx) xl w
  y : Own 0 (.slice Ay l.length cy) l w
  z : Own 0 (.slice Az l.length cz) zl w
theorem Kept.below {W : World} {l xl zl : List L.Nd} {A Ax Ay Az : Option Addr} {cap cx cy cz : Nat} {w w' : World} (h : Kept W l xl zl A Ax Ay Az cap cx cy cz w) (hb : Below w.heap.size w w') : Kept W l xl zl A Ax Ay Az cap cx cy cz w' :=
  ⟨h.b.trans (hb.mono h.b.size), (h.r.below hb).mono hb.size, h.x.below hb, h.y.below hb, h.z.below hb⟩

set_option maxHeartbeats 8000000 in
set_option maxRecDepth 100000 in
theorem self_true {W : World} (v : Value) (l : List L.Nd) (hR : Rd W W.heap.size v l) (hn : ∀ y ∈ l, InN y) (n : Int) (_hnw : (Lit.int .i64 n).wf = true) :
    Calls Try.prog 6 #[v, .int .i64 n] W (Post W) := by
  have HF := hid (fews_one W v l hR hn)
  have HA := hid (fun w => alive_any w)
  have HR := hid hR
  have HN := hid hn
  obtain ⟨A, cap, rfl, hl1, hl2⟩ := hR.len
  unfold maxLen at hl2
  clear hR hn
  go_enter Try.func6, Try.ntmps6
  cases hfw : L.fewL 60 l with
  | false =>
    rw [hfw] at HF
    go_wp2_with fail
    refine (HF.out).mono ?_
    rintro e w1 ⟨rfl, hb⟩
    have HB := hid hb
    have HAL := hid (HA.out w1)
    clear hb HF
    go_wp2_with fail
    refine (HAL.out).mono ?_
    rintro e w2 ⟨rfl, hb⟩
    have HB2 := hid (HB.out.trans (hb.mono HB.out.size))
    clear hb HAL
    go_wp2_with fail
    go_ret
    exact ⟨rfl, HB2.out⟩
  | true =>
    rw [hfw] at HF
    by_cases h0 : n < 0
    · skip
      go_wp2_with fail
      refine (HF.out).mono ?_
      rintro e w1 ⟨rfl, hb⟩
      have HB := hid hb
      have HAL := hid (HA.out w1)
      clear hb HF
      go_wp2_with fail
      refine (HAL.out).mono ?_
      rintro e w2 ⟨rfl, hb⟩
      have HB2 := hid (HB.out.trans (hb.mono HB.out.size))
      clear hb HAL
      go_wp2_with fail
      go_ret
      exact ⟨rfl, HB2.out⟩
    by_cases h1 : 1000000 < n
    · skip
      go_wp2_with fail
      refine (HF.out).mono ?_
      rintro e w1 ⟨rfl, hb⟩
      have HB := hid hb
      have HAL := hid (HA.out w1)
      clear hb HF
      go_wp2_with fail
      refine (HAL.out).mono ?_
      rintro e w2 ⟨rfl, hb⟩
      have HB2 := hid (HB.out.trans (hb.mono HB.out.size))
      clear hb HAL
      go_wp2_with fail
      go_ret
      exact ⟨rfl, HB2.out⟩
    obtain ⟨x, ks, hxl, hT⟩ := L.few_get hfw
    subst hxl
    have hl60 := hT.len
    have HTI := hid (FewT.ty hT HN.out)
    have hUI : TyIn ⟨8, ⟨#[]⟩, n⟩ .nil := by
      refine ⟨?_, show (8 : Int) ≠ 9 by decide, by simp [L.Fo.flat], ?_, ?_⟩
      · simp [L.Fo.ok, L.numbered, L.many, L.Fo.count, L.Fo.stand]; omega
      · intro z hz
        simp only [L.Fo.flat, List.mem_singleton] at hz
        subst hz; show (⟨#[]⟩ : ByteArray).size ≤ 100; decide
      · intro z hz
        simp only [L.Fo.flat, List.mem_singleton] at hz
        subst hz; simp only; omega
    obtain ⟨xl, cd, hres, ht, hf⟩ : ∃ xl cd, L.putRes n ⟨8, ⟨#[]⟩, n⟩ .nil (.cons x ks .nil) = (xl, cd) ∧ ((x :: ks.flat).any (L.tailN n) = true → cd = 1) ∧ ((x :: ks.flat).any (L.tailN n) = false → cd = 0 ∧ xl = x :: ks.flat) := by
      rw [L.self_res (by omega) hT]
      cases (x :: ks.flat).any (L.tailN n)
      · exact ⟨_, _, rfl, by simp, fun _ => ⟨rfl, rfl⟩⟩
      · exact ⟨_, _, rfl, fun _ => rfl, by simp⟩
    have HP1 := hid (fun (va vb : Value) (w : World) (hx : Rd w w.heap.size va (x :: ks.flat)) (hu : Rd w w.heap.size vb [⟨8, ⟨#[]⟩, n⟩]) => show Calls Try.prog 19 #[va, .int .i64 n, vb] w (PutPost (xl, cd) w) from by
      have := put_any x ks HTI.out ⟨8, ⟨#[]⟩, n⟩ .nil hUI n va vb w hx hu
      rwa [hres] at this)
    have HP2 := hid (fun (va vb : Value) (w : World) (hx : Rd w w.heap.size va [⟨8, ⟨#[]⟩, n⟩]) (hu : Rd w w.heap.size vb (x :: ks.flat)) => show Calls Try.prog 19 #[va, .int .i64 n, vb] w (PutPost (x :: ks.flat, 0) w) from by
      have := put_any ⟨8, ⟨#[]⟩, n⟩ .nil hUI x ks HTI.out n va vb w hx hu
      rwa [L.alone_res (by omega) hT] at this)
    have HFR := hid (fun (v : Value) (w : World) (hx : Rd w w.heap.size v (x :: ks.flat)) => show Calls Try.prog 10 #[v, .int .i64 n] w (fun e w' => ∃ v', e = .returned (.tuple #[v', .int .i64 (n + L.dyns (x :: ks.flat))]) ∧ Own w.heap.size v' (L.freshL (x :: ks.flat) n) w' ∧ Below w.heap.size w w') from fresh_any (x :: ks.flat) (by simp) (by omega) n (by omega) (by omega) v w hx)
    have hfrr := L.right_rel (L.fresh_rels (x :: ks.flat) n (by omega) (by have := L.numbered_flat _ hT.ok; simpa [L.Fo.flat] using this)) hT.right
    have hflen := L.fresh_len (x :: ks.flat) n
    have HZF := hid (show L.fewL 60 (L.freshL (x :: ks.flat) n) = true from by
      unfold L.fewL
      rw [hfrr, decide_eq_true (by omega)]
      simp only [Bool.true_and, Bool.and_true, List.all_eq_true, decide_eq_true_eq]
      exact fresh_name _ n hT.sh)
    have HZN := hid (fun y hy => fresh_name (x :: ks.flat) n hT.sh y hy)
    have HFA := hid (fun (i : Nat) (h : i < (x :: ks.flat).length) => L.fresh_at (x :: ks.flat) n i h)
    have HDT := hid (fun (i : Nat) (h : i < (x :: ks.flat).length) => L.dyns_take h)
    have hdl : Hid (∀ k, L.dyns ((x :: ks.flat).take k) ≤ 60) := hid fun k => Nat.le_trans List.countP_le_length (by rw [List.length_take]; omega)
    clear hfrr hT hfw HN hUI HTI hres
    have HT1 := hid ht
    have HF1 := hid hf
    clear ht hf
    generalize hfd : L.freshL (x :: ks.flat) n = zl at *
    clear hfd
    have hte : L.dyns (x :: ks.flat) = L.dyns ((x :: ks.flat).take (x :: ks.flat).length) := by rw [List.take_length]
    have HTE := hid hte
    clear hte
    generalize x :: ks.flat = l at *
    have HFE := hid hflen
    clear hflen
    go_wp2_with fail
    refine (HF.out).mono ?_
    rintro e w1 ⟨rfl, hb⟩
    have HB1 := hid hb
    have HR1 := hid ((HR.out.below hb).mono hb.size)
    clear hb HF HR
    have O1 : Own 0 (.slice (some ⟨w1.heap.size, 0, none⟩) 1 1) [⟨8, ⟨#[]⟩, n⟩] (w1.alloc (.cells #[.int .i64 8, .string ⟨#[]⟩, .int .i64 n] 34)) := World.ownsRow_lit w1 _ 1 (Nat.zero_le _) (by unfold maxLen; omega) rfl
    have B1 := HB1.out.alloc HB1.out.size (.cells #[.int .i64 8, .string ⟨#[]⟩, .int .i64 n] 34)
    have R1 := (HR1.out.alloc (.cells #[.int .i64 8, .string ⟨#[]⟩, .int .i64 n] 34)).size
    obtain ⟨wa, hwa⟩ : ∃ wa, w1.alloc (.cells #[.int .i64 8, .string ⟨#[]⟩, .int .i64 n] 34) = wa := ⟨_, rfl⟩
    rw [hwa] at O1 B1 R1
    have HS1 := hid hwa
    have HOa := hid O1
    have HBa := hid B1
    have HRa := hid R1
    clear O1 B1 R1 hwa HB1 HR1
    have HC := hid (HP1.out _ _ wa HRa.out HOa.out.rd)
    go_wp2_with fail
    rw [HS1.out]
    refine (HC.out).mono ?_
    rintro e w2 ⟨vx, rfl, hO, hb⟩
    have HX2 := hid (hO.more (Nat.zero_le _))
    have HO2 := hid (HOa.out.below hb)
    have HB2 := hid (HBa.out.trans (hb.mono HBa.out.size))
    have HR2 := hid ((HRa.out.below hb).mono hb.size)
    obtain ⟨Ax, cx, rfl, -⟩ := hO.rd.len
    clear hO hb HC HOa HBa HRa HS1
    have HC := hid (HP2.out _ _ w2 HO2.out.rd HR2.out)
    go_wp2_with fail
    refine (HC.out).mono ?_
    rintro e w3 ⟨vy, rfl, hO, hb⟩
    have HX3 := hid (HX2.out.below hb)
    have HY3 := hid (hO.more (Nat.zero_le _))
    have HB3 := hid (HB2.out.trans (hb.mono HB2.out.size))
    have HR3 := hid ((HR2.out.below hb).mono hb.size)
    obtain ⟨Ay, cy, rfl, -⟩ := hO.rd.len
    clear hO hb HC HO2 HB2 HR2 HX2 HP1 HP2
    go_wp2_with fail
    go_loopw [10, 11] (fun v10 v11 wr => ∃ k : Nat, v11 = .int .i64 k ∧ k ≤ l.length ∧ v10 = .bool ((l.take k).any (L.tailN n)) ∧ wr = w3) (fun _ v11 _ => l.length - (intOf v11).toNat)
    case atStart => exact ⟨0, rfl, by omega, by simp, rfl⟩
    case round =>
      obtain ⟨k, rfl, hk, rfl, rfl⟩ := hrel
      by_cases hlt : k < l.length
      · have hty := HR3.out
        obtain ⟨b, o, rfl, hb, c0, c1, c2⟩ := hty.at hlt
        have hTK := any_take (n := n) hlt
        have HTK := hid hTK
        clear hTK hty
        generalize l[k] = y at *
        cases htk : (l.take k).any (L.tailN n) with
        | true =>
          rw [htk] at HTK
          clear htk
          go_wp2_with fail
          go_round
          case rel => exact ⟨k + 1, by go_num, by omega, by rw [HTK.out]; rfl, trivial⟩
          case measure => simp [intOf]; omega
        | false =>
          rw [htk] at HTK
          clear htk
          by_cases h9 : y.kind = 9
          · by_cases hyn : y.n = n
            · have e : L.tailN n y = true := by unfold L.tailN; rw [decide_eq_true h9, decide_eq_true hyn]; rfl
              rw [e] at HTK
              clear e
              go_wp2_with fail
              go_round
              case rel => exact ⟨k + 1, by go_num, by omega, by rw [HTK.out]; rfl, trivial⟩
              case measure => simp [intOf]; omega
            · have e : L.tailN n y = false := by unfold L.tailN; rw [decide_eq_true h9, decide_eq_false hyn]; rfl
              rw [e] at HTK
              have hyn2 : (y.n == n) = false := by simpa using hyn
              clear e hyn
              go_wp2_with fail
              go_round
              case rel => exact ⟨k + 1, by go_num, by omega, by rw [HTK.out]; rfl, trivial⟩
              case measure => simp [intOf]; omega
          · have e : L.tailN n y = false := by unfold L.tailN; rw [decide_eq_false h9]; rfl
            rw [e] at HTK
            have hyn2 : (y.kind == 9) = false := by simpa using h9
            clear e h9
            go_wp2_with fail
            go_round
            case rel => exact ⟨k + 1, by go_num, by omega, by rw [HTK.out]; rfl, trivial⟩
            case measure => simp [intOf]; omega
      · have hke : (l.take k).any (L.tailN n) = l.any (L.tailN n) := by rw [List.take_of_length_le (by omega)]
        rw [hke]
        clear hke
        generalize l.any (L.tailN n) = tb at *
        have HC := hid (HFR.out _ _ HR3.out)
        go_wp2_with fail
        refine (HC.out).mono ?_
        rintro e w4 ⟨vz, rfl, hO, hb⟩
        obtain ⟨Az, cz, rfl, -⟩ := hO.rd.len
        rw [HFE.out] at hO
        have HK := hid (Kept.mk (W := W) (l := l) (xl := xl) (zl := zl) (A := A) (Ax := Ax) (Ay := Ay) (Az := Az) (cap := cap) (cx := cx) (cy := cy) (cz := cz) (w := w4) (HB3.out.trans (hb.mono HB3.out.size)) ((HR3.out.below hb).mono hb.size) (HX3.out.below hb) (HY3.out.below hb) (hO.more (Nat.zero_le _)))
        rw [HFE.out]
        clear hO hb HC HB3 HR3 HX3 HY3 HFR
        go_wp2_with fail
        go_loopw [14, 15] (fun v14 v15 wr => ∃ k : Nat, v15 = .int .i64 k ∧ k ≤ l.length ∧ v14 = .int .i64 (n + L.dyns (l.take k)) ∧ Hid (Kept W l xl zl A Ax Ay Az cap cx cy cz wr)) (fun _ v15 _ => l.length - (intOf v15).toNat)
        case atStart => exact ⟨0, rfl, by omega, by simp [L.dyns], HK⟩
        case round =>
          clear HK
          obtain ⟨k, rfl, hk, rfl, HK⟩ := hrel
          have hdk := hdl.out k
          by_cases hlt : k < l.length
          · obtain ⟨b, o, rfl, hb, c0, c1, c2⟩ := HK.out.r.at hlt
            have hzr := HK.out.z.rd
            rw [← HFE.out] at hzr
            obtain ⟨bz, oz, rfl, hbz, z0, z1, z2⟩ := hzr.at (k := k) (by rw [HFE.out]; exact hlt)
            have hfa := HFA.out k hlt
            rw [List.getElem?_eq_getElem (by rw [HFE.out]; exact hlt)] at hfa
            have hfa := Option.some.inj hfa
            rw [hfa] at z0 z1 z2
            have HDK := hid (HDT.out k hlt)
            clear hfa hzr
            rename_i hfa
            clear hfa
            generalize l[k] = y at *
            generalize L.dyns (l.take k) = d at *
            obtain ⟨k1, s1, n1⟩ := y
            simp only at c0 c1 c2
            by_cases h0 : k1 = 0
            · simp only [if_pos h0] at z0 z1 z2 HDK
              subst h0
              go_wp2_with (go_quiet (fail))
              refine ⟨⟨k + 1, by go_num, by omega, by rw [HDK.out]; simp [Int.add_assoc], hid (HK.out.below (below_drewN (Below.refl _ _) _))⟩, by simp [intOf]; omega⟩
            · simp only [if_neg h0] at z0 z1 z2 HDK
              have h0b : (k1 == 0) = false := by simpa using h0
              have h0c : decide (k1 = 0) = false := by simpa using h0
              have h0d : (k1 != 0) = true := by simpa using h0
              go_wp2
              go_quiet (fail)
              go_wp2
              refine ⟨⟨k + 1, by go_num, by omega, by rw [HDK.out, Nat.add_zero], hid (HK.out.below (below_drewN (Below.refl _ _) _))⟩, by simp [intOf]; omega⟩
          · have hkl : l.take k = l := List.take_of_length_le (by omega)
            rw [hkl]
            clear hkl HFA HDT hdl hdk
            have HAL := hid (HA.out wr)
            clear HTE
            generalize L.dyns l = d at *
            cases htb : tb with
            | true =>
              have hcd := HT1.out htb
              subst hcd
              clear HT1 HF1
              go_wp2_with fail
              refine (HAL.out).mono ?_
              rintro e w5 ⟨rfl, hb⟩
              have HK5 := hid (HK.out.below hb)
              have HC := hid (one_any l l _ _ w5 HK5.out.y.rd HK5.out.r)
              rw [decide_eq_true rfl] at HC
              clear hb HAL HK
              go_wp2_with fail
              refine (HC.out).mono ?_
              rintro e w6 ⟨rfl, hb⟩
              have HK6 := hid (HK5.out.below hb)
              have HC := hid (few_any 60 (by omega) zl (fun y hy => by have := HZN.out y hy; omega) _ w6 HK6.out.z.rd)
              rw [HZF.out] at HC
              clear hb HK5
              go_wp2_with fail
              refine (HC.out).mono ?_
              rintro e w7 ⟨rfl, hb⟩
              have HK7 := hid (HK6.out.below hb)
              clear hb HC HK6
              go_wp2_with fail
              go_ret
              exact ⟨rfl, HK7.out.b⟩
            | false =>
              obtain ⟨hcd, hxl⟩ := HF1.out htb
              subst hcd hxl
              clear HT1 HF1
              go_wp2_with fail
              refine (HAL.out).mono ?_
              rintro e w5 ⟨rfl, hb⟩
              have HK5 := hid (HK.out.below hb)
              have HC := hid (one_any xl xl _ _ w5 HK5.out.x.rd HK5.out.r)
              rw [decide_eq_true rfl] at HC
              clear hb HAL HK
              go_wp2_with fail
              refine (HC.out).mono ?_
              rintro e w6 ⟨rfl, hb⟩
              have HK6 := hid (HK5.out.below hb)
              have HC := hid (one_any xl xl _ _ w6 HK6.out.y.rd HK6.out.r)
              rw [decide_eq_true rfl] at HC
              clear hb HK5
              go_wp2_with fail
              refine (HC.out).mono ?_
              rintro e w7 ⟨rfl, hb⟩
              have HK7 := hid (HK6.out.below hb)
              have HC := hid (few_any 60 (by omega) zl (fun y hy => by have := HZN.out y hy; omega) _ w7 HK7.out.z.rd)
              rw [HZF.out] at HC
              clear hb HK6
              go_wp2_with fail
              refine (HC.out).mono ?_
              rintro e w8 ⟨rfl, hb⟩
              have HK8 := hid (HK7.out.below hb)
              clear hb HC HK7
              go_wp2_with fail
              go_ret
              exact ⟨rfl, HK8.out.b⟩

set_option maxRecDepth 100000 in
theorem termSelf_lifted (os : Os) (started : os.Started) (H : Type) (enc : TypeId × Value → H) :
    ReturnsInHanded {} Try.checked os 6 .any (Rows.termSelfSpec.pre6 enc Try.prog Try.f6 Rows.termSelfRow.domain false) (Rows.termSelfSpec.post enc Try.prog Try.f6 false true false false) := by
  refine returnsInHanded_of_change (C := Try.checked) own started (by kernel_rfl) Try.func6
    (ChangeSpec.witness6 (enc := enc) (C := Try.checked) false ⟨#[], #[.slice none 0 0, .int .i64 0], []⟩ 8 (by kernel_rfl) (by kernel_rfl) (by kernel_rfl) (by kernel_rfl)) ?_
  intro W base args ds gs before hval0 hW hcnd _
  have hlts := hW.lt
  have hval : ∀ (j : Nat) t v, Try.f6.params[j]? = some t → args[j]? = some v → Value.okWide Try.prog W .any base t v := hval0
  have hW' := hW
  obtain ⟨p, q, hA0, hV, rfl, hfz, hnd⟩ := hW
  have hA : DataW.TrodAll enc Try.prog W 0 (fun _ => true) true Try.f6.params.toList args.toList ds p := hA0
  rw [Try.params6] at hA hval
  obtain ⟨v0, vs0, d0, ds0, p0, q0, hargs0, rfl, rfl, h0, r0⟩ := trodAll_cons hA
  obtain ⟨v1, vs1, d1, ds1, p1, q1, hargs1, rfl, rfl, h1, r1⟩ := trodAll_cons r0
  obtain ⟨hn, rfl, rfl⟩ := trodAll_nil r1
  obtain rfl : args = #[v0, v1] := by cases args; simp_all
  obtain ⟨rfl, rfl⟩ := trodVars_none hV
  obtain ⟨sa0, sl0, sc0, hsv0⟩ := okWide_slice Try.underlying23 (hval 0 23 v0 rfl rfl)
  obtain ⟨fuel0, hf0⟩ := h0
  obtain ⟨u0, l0, hu0, hR0, hn0⟩ := rd3_of_trod hf0
  obtain rfl : v0 = u0 := by
    rw [hsv0] at hu0
    rw [hsv0]
    simpa [Value.cells] using hu0
  obtain ⟨a1, rfl, rfl, rfl, w1⟩ := open_int Try.underlying3 (hval 1 3 v1 rfl rfl) h1
  clear hA0 hval0
  simp only [List.append_nil] at hW' hlts
  refine (self_true v0 l0 hR0 hn0 a1 w1 (W := W)).mono fun e W' ⟨he, hB⟩ => ?_
  subst he
  refine ⟨_, rfl, _, _, _, [], (p0 ++ []), [], by simpa using hW', ?_, ?_, ?_, hB.frame _, fun h => by cases h⟩
  · exact trodAll_cons_mk (shut_bool Try.underlying4 _) trodAll_mk0
  · exact (trodAll_cons_mk (Below.trod (by kernel_rfl) (by kernel_rfl) (of_decide_eq_true (by kernel_rfl)) ⟨fuel0, hf0⟩ hB (fun x hx => hlts x (by simp [hx]))) (trodAll_cons_mk (shut_int Try.underlying3 w1) trodAll_mk0))
  · rfl

/-- TermSelf: the given statement. -/
theorem termSelf_holds : Rows.TermSelfSaid :=
  OpenClaim.holds_of_wide 6 Try.f6 rfl rfl rfl rfl rfl rfl rfl ⟨rfl, rfl, rfl, rfl, rfl⟩ rfl rfl rfl rfl rfl (by kernel_rfl) Try.func6 (by kernel_rfl)
    (of_decide_eq_true (by kernel_rfl)) (by unfold Func.isWrapper; first | (rw [if_pos (by decide +kernel)]; kernel_rfl) | (rw [if_neg (by decide +kernel)]; exact ⟨rfl, rfl⟩))
    (fun os started H enc _ => termSelf_lifted os started H enc)

end Go.Proofs.Ytmifcjiakiddkaa.termSelf
