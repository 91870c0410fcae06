/-
  TreadPrinted is true for all types of which there are at most 1048576 values and letters in all: a plain type whose labels are no keys, printed, is read as it, but for its sites. No conditions but that.
-/
import Derived.Test.YtgghmhgbdknkaaaRows
import Derived.Test.YtgghmhgbdknkaaaTrPrT
import Derived.Test.YtgghmhgbdknkaaaTrPr6
import Derived.Test.YtgghmhgbdknkaaaMPa
import Derived.Test.YtgghmhgbdknkaaaM1
import Derived.Test.YtgghmhgbdknkaaaM5
import Derived.Test.YtgghmhgbdknkaaaM4
import Derived.Test.YtgghmhgbdknkaaaMX2
import Derived.ProofKit
import Derived.OpenShut
import Derived.JoinedCond
namespace Go.Proofs.Ytgghmhgbdknkaaa.treadPrinted
open Go.ChangeShapes Go.WideShapes Go.ChangeAt Go.RowKit

theorem own : ownKnob Try.prog.godebug = none := by kernel_rfl

abbrev Post (w : World) (e : Ending) (w' : World) : Prop := e = .returned (.bool true) ∧ Below w.heap.size w w'

/-- What the reference's Tokens tells, as rows that are read; c is its error. -/
def TokV (r : Except Nat (List X.L.Tok)) (w : World) (e : Ending) (w' : World) : Prop :=
  ∃ (v : Value) (p c : Int), e = .returned (.tuple #[v, .int .i64 p, .int .i64 c]) ∧ Below w.heap.size w w' ∧ ((c = 0 ∧ ∃ l, r = .ok l ∧ OwnTk w.heap.size v (l.map tkOf) w') ∨ ((c != 0) = true ∧ ∃ q, r = .error q))

theorem tokens_v (s : ByteArray) (hs : s.size ≤ 100000) (w : World) : Calls Try.prog 11 #[.string s] w (TokV (X.L.toksL s.data.toList) w) := by
  refine (X.refTokens_any s hs w).mono ?_
  rintro e w' ⟨h1, hb⟩
  cases hr : X.L.toksL s.data.toList with
  | ok l =>
    rw [hr] at h1
    obtain ⟨v, he, ho⟩ := h1
    exact ⟨v, 0, 0, he, hb, Or.inl ⟨rfl, l, rfl, own_tk ho⟩⟩
  | error p =>
    rw [hr] at h1
    exact ⟨.slice none 0 0, p, 2, h1, hb, Or.inr ⟨rfl, p, rfl⟩⟩

set_option maxHeartbeats 1000000 in
set_option maxRecDepth 100000 in
theorem printed_big (A : Option Addr) (n cap : Nat) (hn : n ≤ maxLen) (h : 200 < n) (w : World) :
    Calls Try.prog 3 #[.slice A n cap] w (Post w) := by
  unfold maxLen at hn
  have HA := hid (fun w => alive_any w)
  have hz : (200 : Int) < (n : Int) := by omega
  go_enter Try.func3, Try.ntmps3
  go_wp2_with fail
  refine (HA.out _).mono ?_
  rintro e w1 ⟨rfl, h1⟩
  go_wp2
  go_ret
  exact ⟨rfl, h1⟩

set_option maxHeartbeats 1000000 in
set_option maxRecDepth 100000 in
theorem printed_no (l : List L.Nd) (hnm : ∀ x ∈ l, x.name.size ≤ 2000000) (hl : l.length ≤ 200) (h : L.rightL l = false ∨ L.plainL l = false) (v : Value) (w : World) (hx : Rd w w.heap.size v l) :
    Calls Try.prog 3 #[v] w (Post w) := by
  have HA := hid (fun w => alive_any w)
  have HR := hid (refRight_any l hnm v w hx)
  have HP := hid (fun w2 (hb : Below w.heap.size w w2) => ref_plain l v w2 ((hx.below hb).mono hb.size))
  obtain ⟨A, cap, rfl, -⟩ := id hx
  have hz : (l.length : Int) ≤ (200 : Int) := by omega
  clear hx hnm
  cases hr : L.rightL l with
  | false =>
    rw [hr] at HR
    clear h hr
    go_enter Try.func3, Try.ntmps3
    go_wp2_with fail
    refine (HR.out).mono ?_
    rintro e w1 ⟨rfl, h1⟩
    have HB1 := hid h1
    clear h1
    go_wp2_with fail
    refine (HA.out _).mono ?_
    rintro e w2 ⟨rfl, h2⟩
    have HB2 := hid (up HB1.out h2 (Nat.le_refl _))
    clear h2
    go_wp2
    go_ret
    exact ⟨rfl, HB2.out⟩
  | true =>
    have hp : L.plainL l = false := by
      rcases h with h | h
      · rw [hr] at h; cases h
      · exact h
    rw [hr] at HR
    rw [hp] at HP
    clear h hr hp
    go_enter Try.func3, Try.ntmps3
    go_wp2_with fail
    refine (HR.out).mono ?_
    rintro e w1 ⟨rfl, h1⟩
    have HB1 := hid h1
    clear h1
    go_wp2_with fail
    refine (HP.out _ HB1.out).mono ?_
    rintro e w2 ⟨rfl, rfl⟩
    go_wp2_with fail
    refine (HA.out _).mono ?_
    rintro e w3 ⟨rfl, h3⟩
    have HB3 := hid (up HB1.out h3 (Nat.le_refl _))
    clear h3
    go_wp2
    go_ret
    exact ⟨rfl, HB3.out⟩

/-- The loop over the names. -/
def NmR (l : List L.Nd) (w0 : World) (vi : Value) (w : World) : Prop := ∃ k : Nat, vi = .int .i64 k ∧ k ≤ l.length ∧ Hid (∀ i, i < k → ∀ h : i < l.length, X.L.keyL (l[i]).name.data.toList = false ∧ (l[i]).name.size ≤ 100) ∧ Below w0.heap.size w0 w
theorem NmR.mk {l : List L.Nd} {w0 : World} {vi : Value} {w : World} (k : Nat) (h1 : vi = .int .i64 k) (h2 : k ≤ l.length) (h3 : Hid (∀ i, i < k → ∀ h : i < l.length, X.L.keyL (l[i]).name.data.toList = false ∧ (l[i]).name.size ≤ 100)) (h4 : Below w0.heap.size w0 w) : NmR l w0 vi w := ⟨k, h1, h2, h3, h4⟩

/-- What a type is that is printed here. -/
theorem parts_of {l : List L.Nd} (hr : L.rightL l = true) (hp : L.plainL l = true) : ∃ x ks, l = x :: ks.flat ∧ Pl x ks ∧ L.bare x = true ∧ ks.deep + 1 ≤ 100 := by
  obtain ⟨x, ks, rfl, -, hb, hok, hd⟩ := (L.rightL_iff l).1 hr
  refine ⟨x, ks, rfl, ⟨hok, fun z hz => ?_⟩, hb, hd⟩
  unfold L.plainL at hp
  simp only [Bool.not_eq_true', List.any_eq_false, L.varN, Bool.or_eq_true, decide_eq_true_eq, not_or] at hp
  exact hp z hz

set_option maxHeartbeats 8000000 in
set_option maxRecDepth 100000 in
theorem printed_walk (l : List L.Nd) (hnm : ∀ x ∈ l, x.name.size ≤ 2000000) (hni : ∀ x ∈ l, x.n ≤ 9223372036854775807) (hl : l.length ≤ 200) (hr : L.rightL l = true) (hp : L.plainL l = true) (v : Value) (w : World) (hx : Rd w w.heap.size v l) :
    Calls Try.prog 3 #[v] w (Post w) := by
  have HA := hid (fun w => alive_any w)
  have HR := hid (refRight_any l hnm v w hx)
  rw [hr] at HR
  have HP := hid (fun w2 (hb : Below w.heap.size w w2) => ref_plain l v w2 ((hx.below hb).mono hb.size))
  rw [hp] at HP
  have HX := hid hx
  have HK := hid (fun s w => X.refKey_any s w)
  have HPA := hid (parts_of hr hp)
  have HNI := hid hni
  obtain ⟨A, cap, rfl, -⟩ := id hx
  have hz : (l.length : Int) ≤ (200 : Int) := by omega
  clear hx hnm hr hp hni
  go_enter Try.func3, Try.ntmps3
  go_wp2_with fail
  refine (HR.out).mono ?_
  rintro e w1 ⟨rfl, h1⟩
  have HB1 := hid h1
  clear h1 HR
  go_wp2_with fail
  refine (HP.out _ HB1.out).mono ?_
  rintro e w2 ⟨rfl, rfl⟩
  go_wp2
  go_loopw [3] (fun vi wx => NmR l w vi wx) (fun vi _ => l.length - (intOf vi).toNat)
  case atStart => exact NmR.mk 0 rfl (by omega) (hid (fun i hi => by omega)) HB1.out
  case round =>
    obtain ⟨k, rfl, hk, hN, hB⟩ := hrel
    have HBK := hid hB
    by_cases hlt : k < l.length
    · obtain ⟨b, o, rfl, hb, hcx⟩ : ∃ b o, A = some ⟨b, o, none⟩ ∧ b < w.heap.size ∧ ∀ (i : Nat) (h : i < l.length), w.cell? ⟨b, o + i * 3 + 1, none⟩ = some (.string l[i].name) := by
        obtain ⟨A', c', hv, -, -, -, hc⟩ := HX.out
        simp only [Value.slice.injEq, true_and] at hv
        obtain ⟨rfl, -⟩ := hv
        obtain ⟨b, o, h3, h4, h5⟩ := hc (by rintro rfl; simp at hlt)
        exact ⟨b, o, h3, h4, fun i h => (h5 i h).2.1⟩
      have c1 := (hB.cell (p := ⟨b, o + k * 3 + 1, none⟩) hb).trans (hcx k hlt)
      have hkz : (k : Int) < (l.length : Int) := by omega
      have HNM : Hid (∀ nm, l[k].name = nm → X.L.keyL nm.data.toList = false → nm.size ≤ 100 → ∀ i, i < k + 1 → ∀ h : i < l.length, X.L.keyL (l[i]).name.data.toList = false ∧ (l[i]).name.size ≤ 100) := hid fun nm h1 h2 h3 i hi h => by
        rcases Nat.lt_or_ge i k with h4 | h4
        · exact hN.out i h4 h
        · obtain rfl : i = k := by omega
          rw [h1]
          exact ⟨h2, h3⟩
      obtain ⟨nm, hnm⟩ : ∃ nm, l[k].name = nm := ⟨_, rfl⟩
      rw [hnm] at c1
      have HNE := hid hnm
      have HKC := hid (HK.out nm)
      clear hcx hB hnm
      cases hkey : X.L.keyL nm.data.toList with
      | true =>
        rw [hkey] at HKC
        clear hkey
        go_wp2_with fail
        refine (HKC.out _).mono ?_
        rintro e w4 ⟨rfl, h4⟩
        have HB4 := hid (up HBK.out h4 (Nat.le_refl _))
        clear h4
        go_wp2_with fail
        refine (HA.out _).mono ?_
        rintro e w5 ⟨rfl, h5⟩
        have HB5 := hid (up HB4.out h5 (Nat.le_refl _))
        clear h5
        go_wp2
        go_ret
        exact ⟨rfl, HB5.out⟩
      | false =>
        rw [hkey] at HKC
        have HKF := hid hkey
        clear hkey
        go_wp2_with fail
        refine (HKC.out _).mono ?_
        rintro e w4 ⟨rfl, h4⟩
        have c2 := (h4.cell (p := ⟨b, o + k * 3 + 1, none⟩) (Nat.lt_of_lt_of_le hb HBK.out.size)).trans c1
        have HB4 := hid (HBK.out.trans (h4.mono HBK.out.size))
        clear h4 c1
        by_cases hbig : 100 < nm.size
        · have hbz : (100 : Int) < (nm.size : Int) := by omega
          go_wp2_with fail
          refine (HA.out _).mono ?_
          rintro e w5 ⟨rfl, h5⟩
          have HB5 := hid (HB4.out.trans (h5.mono HB4.out.size))
          clear h5
          go_wp2
          go_ret
          exact ⟨rfl, HB5.out⟩
        · have hbz : (nm.size : Int) ≤ (100 : Int) := by omega
          have HN2 := hid (HNM.out nm HNE.out HKF.out (by omega))
          clear hbig
          go_wp2
          go_roundw
          case rel => exact NmR.mk (k + 1) (by go_num) (by omega) HN2 HB4.out
          case measure => simp [intOf]; omega
    · obtain rfl : k = l.length := by omega
      obtain ⟨x, ks, hlx, hPl, hbare, hdeep⟩ := HPA.out
      have hsh : Short (x :: ks.flat) := fun z hz => by
        rw [← hlx] at hz
        obtain ⟨i, hi, rfl⟩ := List.getElem_of_mem hz
        have h1 := (hN.out i hi hi).2
        exact ⟨by omega, HNI.out _ (List.getElem_mem _)⟩
      have hnk : NoKey ks.flat := fun z hz => by
        have hz2 : z ∈ l := by rw [hlx]; simp [hz]
        obtain ⟨i, hi, rfl⟩ := List.getElem_of_mem hz2
        exact (hN.out i hi hi).1
      have hfl : ks.flat.length + 1 = l.length := by rw [hlx]; simp
      obtain ⟨r, hr1, hr2⟩ := print_of hPl hbare hnk hdeep (by omega)
      have hlen := prT_len (p := false) hPl.1 hsh
      have hrd := (HX.out.below hB).mono hB.size
      rw [hlx] at hrd
      have HPR := hid (refPrint_any x ks hPl.1 hsh hbare (by omega) _ _ hrd)
      obtain ⟨s, hs⟩ : ∃ s : ByteArray, (⟨(L.prT false x ks).toArray⟩ : ByteArray) = s := ⟨_, rfl⟩
      have hsl : s.data.toList = L.prT false x ks := by rw [← hs]
      have hss : s.size ≤ 100000 := by
        have : s.size = (L.prT false x ks).length := by rw [← hsl]; simp
        omega
      rw [hs] at HPR
      have hlc : (x :: ks.flat).length = l.length := by rw [hlx]
      rw [hlc] at HPR
      rw [← hsl] at hr1
      have hfacts := tok_facts hr1
      have HFX := hid hfacts
      have HTK := hid (fun w => tokens_v s hss w)
      rw [hr1] at HTK
      have HR2 := hid hr2
      have HZS := hid (zer_static l)
      have HLX := hid hlx
      have h60 : Hid (60 < ks.flat.length + 1 → (60 : Int) < (l.length : Int)) := hid (fun h => by omega)
      clear hB hN hPl hsh hnk hfl hlen hrd hs hsl hlc hr1 hr2 hfacts hlx hdeep hbare HNI HPA
      go_wp2_with fail
      refine (HPR.out).mono ?_
      rintro e w4 ⟨rfl, h4⟩
      have HB4 := hid (HBK.out.trans (h4.mono HBK.out.size))
      clear h4 HPR
      go_wp2_with fail
      refine (HTK.out _).mono ?_
      rintro e w5 ⟨vl, pl, cl, rfl, hb5, hl5⟩
      have HB5 := hid (HB4.out.trans (hb5.mono HB4.out.size))
      clear hb5
      rcases hl5 with ⟨rfl, Lx, hLx, hoL⟩ | ⟨-, q, hq⟩
      case inr => cases hq
      injection hLx with hLx
      subst hLx
      have HRL := hid (hoL.rd (by have := HFX.out.len; omega))
      have hrl : r.length ≤ 1000000 := by
        have := HFX.out.len
        rw [List.length_map] at this
        omega
      have HOF := hid (of_any (r.map tkOf) (fun p => by have := HFX.out.text p; omega) vl w5 HRL.out)
      have HSS := hid (fun t ss h => ofF_sites (l := r.map tkOf) (t := t) (ss := ss) h)
      clear hoL
      rcases HR2.out with ⟨u, ss, ho, hsame, hzr⟩ | ⟨ho, h6⟩
      · rw [ho] at HOF
        have HSM : Hid (L.sameL l u.flat = true) := hid (by rw [HLX.out]; exact hsame)
        have hzl : ss.length = zer l := by rw [HLX.out]; exact hzr
        have hssl : ss.length ≤ 1000000 := by
          have := HSS.out u ss ho
          rw [List.length_map] at this
          omega
        have HZ : Hid (decide ((ss.length : Int) = 0) = L.staticL l) := hid (by rw [hzl]; exact HZS.out)
        clear ho hsame hzr hzl
        go_wp2_with fail
        refine (HOF.out).mono ?_
        rintro e w6 ⟨hb6, h6⟩
        obtain ⟨vu, vs, rfl, hou, hos⟩ := h6
        obtain ⟨As, cs, rfl⟩ := row_slice hos
        have HB6 := hid (HB5.out.trans (hb6.mono HB5.out.size))
        have HOU := hid hou
        clear hb6 hou hos
        go_wp2_with fail
        refine (HA.out _).mono ?_
        rintro e w7 ⟨rfl, hb7⟩
        have HB7 := hid (HB6.out.trans (hb7.mono HB6.out.size))
        have HSA := hid (refSame_any l u.flat _ vu w7 ((HX.out.below HB7.out).mono HB7.out.size) (HOU.out.below hb7).rd)
        rw [HSM.out] at HSA
        clear hb7
        go_wp2_with fail
        refine (HSA.out).mono ?_
        rintro e w8 ⟨rfl, hb8⟩
        have HB8 := hid (HB7.out.trans (hb8.mono HB7.out.size))
        have HST := hid (ref_static l _ w8 ((HX.out.below HB8.out).mono HB8.out.size))
        clear hb8
        cases hst : L.staticL l with
        | true =>
          rw [hst] at HST HZ
          have hs0 : ((ss.length : Int) == 0) = true := by have := HZ.out; simpa using this
          clear hst HZ
          go_wp2_with fail
          refine (HST.out).mono ?_
          rintro e w9 ⟨rfl, rfl⟩
          go_wp2
          go_ret
          exact ⟨ret_bool (by simp), HB8.out⟩
        | false =>
          rw [hst] at HST HZ
          have hs0 : ((ss.length : Int) == 0) = false := by have := HZ.out; simpa using this
          clear hst HZ
          go_wp2_with fail
          refine (HST.out).mono ?_
          rintro e w9 ⟨rfl, rfl⟩
          go_wp2
          go_ret
          exact ⟨ret_bool (by simp), HB8.out⟩
      · rw [ho] at HOF
        have h7 := h60.out h6
        clear ho h6
        go_wp2_with fail
        refine (HOF.out).mono ?_
        rintro e w6 ⟨hb6, he6⟩
        unfold OfV at he6
        subst he6
        have HB6 := hid (HB5.out.trans (hb6.mono HB5.out.size))
        clear hb6
        go_wp2_with fail
        refine (HA.out _).mono ?_
        rintro e w7 ⟨rfl, hb7⟩
        have HB7 := hid (HB6.out.trans (hb7.mono HB6.out.size))
        clear hb7
        go_wp2
        go_ret
        exact ⟨rfl, HB7.out⟩

theorem printed_all (A : Option Addr) (cap : Nat) (l : List L.Nd) (hlm : l.length ≤ maxLen) (hnm : ∀ x ∈ l, x.name.size ≤ 2000000) (hni : ∀ x ∈ l, x.n ≤ 9223372036854775807) {w : World} (hx : Rd w w.heap.size (.slice A l.length cap) l) :
    Calls Try.prog 3 #[.slice A l.length cap] w (Post w) := by
  by_cases h : 200 < l.length
  · exact printed_big A l.length cap hlm h w
  · cases hr : L.rightL l with
    | false => exact printed_no l hnm (by omega) (Or.inl hr) _ w hx
    | true =>
      cases hp : L.plainL l with
      | false => exact printed_no l hnm (by omega) (Or.inr hp) _ w hx
      | true => exact printed_walk l hnm hni (by omega) hr hp _ w hx

set_option maxRecDepth 100000 in
theorem printed_contract (H : Type) (enc : TypeId × Value → H) (W : World) (base : Nat) (args : Array Value) (ds gs : List (DataW H)) (before : List MemPlace)
    (hval0 : ∀ (j : Nat) t v, Try.f3.params[j]? = some t → args[j]? = some v → Value.okWide Try.prog W .any base t v)
    (hW : DataW.Whole enc Try.prog Try.f3.params.toList Rows.treadPrintedSpec.vars false W args.toList ds gs before) (hk : Rows.uptoSmall H (ds ++ gs) = true) :
    Calls Try.prog 3 args W fun e W' => ∃ v, e = .returned v ∧ Rows.treadPrintedSpec.post enc Try.prog Try.f3 false true false false W args v W' := by
  have hlts := hW.lt
  have hval : ∀ (j : Nat) t v, Try.f3.params[j]? = some t → args[j]? = some v → Value.okWide Try.prog W .any base t v := hval0
  have hW' := hW
  obtain ⟨p, q, hA0, hV, rfl, hfz, hnd⟩ := hW
  have hA : DataW.TrodAll enc Try.prog W 0 (fun _ => true) true Try.f3.params.toList args.toList ds p := hA0
  rw [Try.params3] at hA hval
  obtain ⟨v0, vs0, d0, ds0, p0, q0, hargs, rfl, rfl, h0, r0⟩ := trodAll_cons hA
  obtain ⟨hn, rfl, rfl⟩ := trodAll_nil r0
  obtain rfl : args = #[v0] := by cases args; simp_all
  obtain ⟨rfl, rfl⟩ := trodVars_none hV
  obtain ⟨sa0, sl0, sc0, hsv0⟩ := okWide_slice Try.underlying23 (hval 0 23 v0 rfl rfl)
  obtain ⟨fuel0, hf0⟩ := h0
  obtain ⟨u0, l0, hu0, hR0, hn0⟩ := types_of_trod hf0
  obtain rfl : v0 = u0 := by
    rw [hsv0] at hu0
    rw [hsv0]
    simpa [Value.cells] using hu0
  obtain ⟨A, cap, rfl, hlc, hcm, -⟩ := id hR0
  have hnm : ∀ x ∈ l0, x.name.size ≤ 2000000 := fun x hx => by
    have h1 := (hn0 x hx).2
    have h2 := small_le hk
    have h3 := bulk_part (show d0 ∈ [d0] ++ [] by simp)
    simp only at h1
    omega
  clear hA0 hval0
  simp only [List.append_nil] at hW' hlts
  refine (printed_all A cap l0 (by omega) hnm (fun x hx => (hn0 x hx).1) hR0).mono fun e W' ⟨he, hB⟩ => ?_
  subst he
  refine ⟨_, rfl, _, _, _, [], (p0 ++ []), [], by simpa using hW', ?_, ?_, ?_, hB.frame _, fun h => by cases h⟩
  · exact trodAll_cons_mk (shut_bool Try.underlying4 _) trodAll_mk0
  · exact (trodAll_cons_mk (Below.trod (by kernel_rfl) (by kernel_rfl) (of_decide_eq_true (by kernel_rfl)) ⟨fuel0, hf0⟩ hB (fun x hx => hlts x (by simp [hx]))) trodAll_mk0)
  · rfl

set_option maxRecDepth 100000 in
theorem printed_lifted (os : Os) (started : os.Started) (H : Type) (enc : TypeId × Value → H) (F : Stop.Interp) :
    ReturnsInHanded {} Try.checked os 3 .any ((Rows.OpenSpec.upto Rows.treadPrintedSpec).pre6 enc Try.prog Try.f3 Rows.treadPrintedUptoRow.domain false) (((Rows.OpenSpec.upto Rows.treadPrintedSpec).at F).post enc Try.prog Try.f3 false true false false) := by
  refine returnsInHanded_of_cond (C := Try.checked) (s := Rows.OpenSpec.upto Rows.treadPrintedSpec) (k := Rows.uptoSmall) rfl own started (by kernel_rfl) Try.func3
    (OpenSpec.witness (enc := enc) (C := Try.checked) (s := Rows.OpenSpec.upto Rows.treadPrintedSpec) (k := Rows.uptoSmall) rfl false ⟨#[], #[.slice none 0 0], []⟩ 8 (by kernel_rfl) (by kernel_rfl) (by kernel_rfl)
      (x := ([.nil], [], [])) (by kernel_rfl) rfl (by kernel_rfl)) ?_
  intro W base args ds gs before hval hW _ hk _
  exact printed_contract H enc W base args ds gs before hval hW hk

/-- TreadPrinted: the given statement, of the second form. -/
theorem printed_holds : Rows.TreadPrintedUptoSaid :=
  OpenClaim.holds_of_cond 3 Try.f3 rfl rfl rfl rfl rfl rfl rfl ⟨rfl, rfl, rfl, rfl, rfl⟩ rfl rfl rfl rfl rfl (by kernel_rfl) Try.func3 (by kernel_rfl)
    (of_decide_eq_true (by kernel_rfl)) (by unfold Func.isWrapper; first | (rw [if_pos (by decide +kernel)]; kernel_rfl) | (rw [if_neg (by decide +kernel)]; exact ⟨rfl, rfl⟩))
    (fun os started H enc _ F => printed_lifted os started H enc F)

end Go.Proofs.Ytgghmhgbdknkaaa.treadPrinted
