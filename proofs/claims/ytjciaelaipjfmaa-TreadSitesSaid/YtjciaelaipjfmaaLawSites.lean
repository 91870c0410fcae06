/-
  TreadSites is true for every text, site and level: what is read is a type; its sites are the ?s, which rise, numbered on from the first one. No conditions.
-/
import Derived.Test.YtjciaelaipjfmaaRows
import Derived.Test.YtjciaelaipjfmaaMSt
import Derived.Test.YtjciaelaipjfmaaMNm
import Derived.ProofKit
import Derived.OpenShut
namespace Go.Proofs.Ytjciaelaipjfmaa.treadSites
open Go.ChangeShapes Go.WideShapes Go.ChangeAt Go.RowKit
open Go.ChangeMaps (open_string shut_string)

theorem own : ownKnob Try.prog.godebug = none := by kernel_rfl

abbrev Post (w : World) (e : Ending) (w' : World) : Prop := e = .returned (.bool true) ∧ Below w.heap.size w w'

set_option maxHeartbeats 1000000 in
set_option maxRecDepth 100000 in
theorem sites_big (s : ByteArray) (site lv : Int) (w0 : s.size ≤ maxLen) (h : 3000 < s.size ∨ site < 1 ∨ lv < 1 ∨ 1000000 < site) (w : World) :
    Calls Try.prog 4 #[.string s, .int .i64 site, .int .i64 lv] w (Post w) := by
  unfold maxLen at w0
  have HA := hid (fun w => alive_any w)
  by_cases h1 : 3000 < s.size
  · go_enter Try.func4, Try.ntmps4
    go_wp2_with fail
    refine (HA.out _).mono ?_
    rintro e w1 ⟨rfl, h1⟩
    go_wp2
    go_ret
    exact ⟨rfl, h1⟩
  by_cases h2 : site < 1
  · go_enter Try.func4, Try.ntmps4
    go_wp2_with fail
    refine (HA.out _).mono ?_
    rintro e w1 ⟨rfl, h1⟩
    go_wp2
    go_ret
    exact ⟨rfl, h1⟩
  by_cases h3 : lv < 1
  · go_enter Try.func4, Try.ntmps4
    go_wp2_with fail
    refine (HA.out _).mono ?_
    rintro e w1 ⟨rfl, h1⟩
    go_wp2
    go_ret
    exact ⟨rfl, h1⟩
  have h4 : 1000000 < site := by omega
  go_enter Try.func4, Try.ntmps4
  go_wp2_with fail
  refine (HA.out _).mono ?_
  rintro e w1 ⟨rfl, h1⟩
  go_wp2
  go_ret
  exact ⟨rfl, h1⟩
/-- What the reference's Tokens tells, as rows that are read; c is its error. -/
def TokV (r : Except Nat (List X.L.Tok)) (w : World) (e : Ending) (w' : World) : Prop :=
  ∃ (v : Value) (p c : Int), e = .returned (.tuple #[v, .int .i64 p, .int .i64 c]) ∧ Below w.heap.size w w' ∧ ((c = 0 ∧ ∃ l, r = .ok l ∧ OwnTk w.heap.size v (l.map tkOf) w') ∨ ((c != 0) = true ∧ ∃ q, r = .error q))

theorem tokens_v (s : ByteArray) (hs : s.size ≤ 100000) (w : World) : Calls Try.prog 11 #[.string s] w (TokV (X.L.toksL s.data.toList) w) := by
  refine (X.refTokens_any s hs w).mono ?_
  rintro e w' ⟨h1, hb⟩
  cases hr : X.L.toksL s.data.toList with
  | ok l =>
    rw [hr] at h1
    obtain ⟨v, he, ho⟩ := h1
    exact ⟨v, 0, 0, he, hb, Or.inl ⟨rfl, l, rfl, own_tk ho⟩⟩
  | error p =>
    rw [hr] at h1
    exact ⟨.slice none 0 0, p, 2, h1, hb, Or.inr ⟨rfl, p, rfl⟩⟩


/-- What is told of the nodes: those that are ?s have numbers from the first site's on, unlike each other, as many as there are sites. -/
structure NodeFacts (l : List L.Nd) (site : Int) (k : Nat) : Prop where
  some : ∀ i (h : i < l.length), l[i].kind = 0 → site ≤ l[i].n ∧ l[i].n < site + (k : Int)
  unlike : ∀ i j (hj : j < l.length) (hij : i < j), (l[i]'(Nat.lt_trans hij hj)).kind = 0 → l[j].kind = 0 → (l[i]'(Nat.lt_trans hij hj)).n ≠ l[j].n
  count : (l.filter T.isQ).length = k

theorem node_facts {t : T.Tr} {site : Int} {k : Nat} (h : (T.nums t).Perm ((List.range k).map fun i : Nat => site + (i : Int))) : NodeFacts t.flat site k := by
  have hnd : (T.nums t).Nodup := h.nodup_iff.2 (List.Pairwise.map (fun i : Nat => site + (i : Int)) (fun a b (hab : a ≠ b) => by omega) List.nodup_range)
  have hp : (t.flat.filter T.isQ).Pairwise (fun a b => a.n ≠ b.n) := by
    unfold T.nums List.Nodup at hnd
    rw [List.pairwise_map] at hnd
    exact hnd
  rw [List.pairwise_filter] at hp
  refine ⟨fun i hi hk => ?_, fun i j hj hij h1 h2 => ?_, ?_⟩
  · have hm : t.flat[i].n ∈ T.nums t := List.mem_map.2 ⟨_, List.mem_filter.2 ⟨List.getElem_mem hi, by simp [T.isQ, hk]⟩, rfl⟩
    obtain ⟨j, hj, he⟩ := List.mem_map.1 (h.mem_iff.1 hm)
    have := List.mem_range.1 hj
    omega
  · exact List.pairwise_iff_getElem.1 hp i j (Nat.lt_trans hij hj) hj hij (by simp [T.isQ, h1]) (by simp [T.isQ, h2])
  · have := h.length_eq
    simpa [T.nums] using this

theorem rd_at {w : World} {B : Nat} {A : Option Addr} {n cap : Nat} {l : List L.Nd} (h : Rd w B (.slice A n cap) l) {i : Nat} (hi : i < l.length) :
    ∃ b o, A = some ⟨b, o, none⟩ ∧ b < B ∧ ∀ (j : Nat) (hj : j < l.length), w.cell? ⟨b, o + j * 3, none⟩ = some (.int .i64 l[j].kind) ∧ w.cell? ⟨b, o + j * 3 + 2, none⟩ = some (.int .i64 l[j].n) := by
  obtain ⟨A', cap', hv, -, -, -, hc⟩ := h
  simp only [Value.slice.injEq] at hv
  obtain ⟨rfl, -, -⟩ := hv
  obtain ⟨b, o, h1, h2, h3⟩ := hc (by rintro rfl; simp at hi)
  exact ⟨b, o, h1, h2, fun j hj => ⟨(h3 j hj).1, (h3 j hj).2.2⟩⟩

theorem seen_step {l : List L.Nd} {i : Nat} (h : i < l.length) : ((l.take (i + 1)).filter T.isQ).length = ((l.take i).filter T.isQ).length + (if l[i].kind = 0 then 1 else 0) := by
  rw [List.take_succ_eq_append_getElem h, List.filter_append, List.length_append]
  by_cases hk : l[i].kind = 0
  · rw [if_pos hk]
    simp [T.isQ, hk]
  · rw [if_neg hk]
    simp [T.isQ, hk]

/-- What the loop over pairs stands on. -/
def InR (w3 : World) (i : Nat) (vj : Value) (wy : World) : Prop := ∃ j : Nat, vj = .int .i64 j ∧ j ≤ i ∧ Below w3.heap.size w3 wy
theorem InR.mk {w3 : World} {i : Nat} {vj : Value} {wy : World} (j : Nat) (h1 : vj = .int .i64 j) (h2 : j ≤ i) (h3 : Below w3.heap.size w3 wy) : InR w3 i vj wy := ⟨j, h1, h2, h3⟩
/-- What the loop over nodes stands on. -/
def OutR (w3 : World) (ns : List L.Nd) (vs vi : Value) (wx : World) : Prop := ∃ i : Nat, vi = .int .i64 i ∧ i ≤ ns.length ∧ vs = .int .i64 (((ns.take i).filter T.isQ).length : Int) ∧ Below w3.heap.size w3 wx
theorem OutR.mk {w3 : World} {ns : List L.Nd} {vs vi : Value} {wx : World} (i : Nat) (h1 : vi = .int .i64 i) (h2 : i ≤ ns.length) (h3 : vs = .int .i64 (((ns.take i).filter T.isQ).length : Int)) (h4 : Below w3.heap.size w3 wx) : OutR w3 ns vs vi wx := ⟨i, h1, h2, h3, h4⟩

set_option maxHeartbeats 8000000 in
set_option maxRecDepth 100000 in
theorem sites_walk (s : ByteArray) (site lv : Int) (h1 : s.size ≤ 3000) (h2 : 1 ≤ site) (h3 : 1 ≤ lv) (h4 : site ≤ 1000000) (w : World) :
    Calls Try.prog 4 #[.string s, .int .i64 site, .int .i64 lv] w (Post w) := by
  have HA := hid (fun w => alive_any w)
  have HTS := hid (fun w => tokens_v s (by omega) w)
  have HFS := hid (fun r h => tok_facts (s := s) (r := r) h)
  have HRF := hid (fun r (h : X.L.toksL s.data.toList = .ok r) t n ss hr => read_facts h (site := site) (lv := lv) (t := t) (n := n) (ss := ss) hr)
  go_enter Try.func4, Try.ntmps4
  go_wp2_with fail
  refine (HTS.out _).mono ?_
  rintro e w2 ⟨vl, pl, cl, rfl, hb2, hl⟩
  have HB2 := hid hb2
  clear hb2
  rcases hl with ⟨rfl, Lx, hL, hoL⟩ | ⟨hcl, -⟩
  case inr =>
    go_wp2_with fail
    refine (HA.out _).mono ?_
    rintro e w3 ⟨rfl, hb3⟩
    have HB3 := hid (up HB2.out hb3 (Nat.le_refl _))
    clear hb3
    go_wp2
    go_ret
    exact ⟨rfl, HB3.out⟩
  have hfl := HFS.out Lx hL
  have HFL := hid hfl
  have HRR := hid (fun t n ss hr => HRF.out Lx hL t n ss hr)
  have hll : (Lx.map tkOf).length ≤ 3001 := by have := hfl.len; omega
  clear hL hfl HFS HTS HRF
  generalize Lx.map tkOf = l at *
  have HRL := hid (hoL.rd (by omega))
  obtain ⟨Al, capl, rfl⟩ := row_slice hoL
  have HLT : Hid (∀ p, (tokAt l p).text.size ≤ 2000000) := hid (fun p => by have := HFL.out.text p; omega)
  have HR1 := hid (read_any l HLT.out _ 0 site lv (by omega) w2 HRL.out)
  have HER := hid (fun q e h => readF_err (l := l) (p := 0) (site := site) (lv := lv) (q := q) (e := e) h)
  have HNAM := hid (fun t n ss h => readF_nam (l := l) HFL.out.text (p := 0) (site := site) (lv := lv) (t := t) (n := n) (ss := ss) h)
  clear hoL
  generalize T.readF l 0 site lv = o at *
  go_wp2_with fail
  refine (HR1.out).mono ?_
  rintro e w3 ⟨hb3, he1⟩
  have HB3 := hid (up HB2.out hb3 (Nat.le_refl _))
  clear hb3
  cases o with
  | bad p1 e1 =>
    obtain ⟨g1, -, -⟩ := HER.out p1 e1 rfl
    have hne : (e1 != 0) = true := by simp; omega
    unfold OutV at he1
    subst he1
    clear g1
    go_wp2_with fail
    refine (HA.out _).mono ?_
    rintro e w4 ⟨rfl, hb4⟩
    have HB4 := hid (up HB3.out hb4 (Nat.le_refl _))
    clear hb4
    go_wp2
    go_ret
    exact ⟨rfl, HB4.out⟩
  | ok t n ss =>
    have hrf := HRR.out t n ss rfl
    have HF := hid hrf
    obtain ⟨v1, s1v, rfl, ho1, hsi1⟩ := he1
    have hrd := ho1.rd
    have hrs := hsi1.rd
    obtain ⟨A1, c1, hv1, -⟩ := id hrd
    obtain ⟨A2, c2, hv2, -⟩ := id hrs
    subst hv1
    subst hv2
    have HRD := hid hrd
    have HRS := hid hrs
    have hn0 : 0 < n := hrf.pos
    have hnl : n < l.length := hrf.le
    have hssl : ss.length ≤ 3001 := by have := hrf.len; omega
    have hfl2 : t.flat.length ≤ 10000 := by rw [tr_len]; exact hrf.fits.1
    have HRG : Hid (Calls Try.prog 7 #[.slice A1 t.flat.length c1] w3 fun e w' => e = .returned (.bool true) ∧ Below w3.heap.size w3 w') := hid (by
      have hr := (L.rightL_iff t.flat).2 ⟨t.1, t.2, rfl, hfl2, hrf.bare, hrf.ok, hrf.fits.2⟩
      have := refRight_any t.flat (fun x hx => by
        have := HNAM.out t n ss rfl x hx
        omega) _ w3 hrd
      rw [hr] at this
      exact this)
    have HNF := hid (node_facts hrf.nums)
    clear ho1 hsi1 hrd hrs hrf HR1 HER HRR
    generalize t.flat = ns at *
    have hng : decide (l.length ≤ n) = false := by simp; omega
    have hng2 : decide ((l.length : Int) ≤ (n : Int)) = false := by simp; omega
    have hng3 : decide ((n : Int) < 1) = false := by simp; omega
    go_wp2_with fail
    refine (HRG.out).mono ?_
    rintro e w4 ⟨rfl, hb4⟩
    have HB34 := hid hb4
    have HB4 := hid (up HB3.out hb4 (Nat.le_refl _))
    clear hb4
    go_wp2
    go_loopw [16] (fun vi wr => ∃ i : Nat, vi = .int .i64 i ∧ i ≤ ss.length ∧ Below w3.heap.size w3 wr) (fun vi _ => ss.length - (intOf vi).toNat)
    case atStart => exact ⟨0, rfl, by omega, HB34.out⟩
    case round =>
      obtain ⟨i, rfl, hi, hB⟩ := hrel
      by_cases hlt : i < ss.length
      · obtain ⟨b, o, rfl, hb, x0, x1, x2⟩ := HRS.out.at hlt
        obtain ⟨f1, f2, f3, f4, f5⟩ := HF.out.one i hlt
        obtain ⟨k, hk⟩ : ∃ k : Nat, ss[i].fr = (k : Int) := ⟨ss[i].fr.toNat, by omega⟩
        have hks : k < s.size := by rw [hk] at f4; simpa using f4
        have hbyte : s[k] = 63 := by
          have : ss[i].fr.toNat = k := by omega
          simpa [this] using f5
        have hto : ss[i].to = (k : Int) + 1 := by omega
        have hk3 : k < 3000 := by omega
        have hw1 : IntKind.i64.wrap ((k : Int) + 1) = (k : Int) + 1 := by rw [IntKind.wrap_i64]; omega
        have p0 := (hB.cell (p := ⟨b, o + i * 3, none⟩) hb).trans x0
        have p1 := (hB.cell (p := ⟨b, o + i * 3 + 1, none⟩) hb).trans x1
        have p2 := (hB.cell (p := ⟨b, o + i * 3 + 2, none⟩) hb).trans x2
        rw [hk] at p0
        rw [hto] at p1
        have hiz : (i : Int) < (ss.length : Int) := by omega
        have HB := hid hB
        have hbr : b < wr.heap.size := Nat.lt_of_lt_of_le hb hB.size
        have b3 : (((s[k]'hks).toNat : Int) != 63) = false := by rw [hbyte]; rfl
        have b1 : (((k : Int) + 1) != (k : Int) + 1) = false := by simp
        have b0 : decide ((k : Int) < 0) = false := by simp
        have b2 : decide ((s.size : Int) < (k : Int) + 1) = false := by simp; omega
        clear x0 x1 x2 f1 f2 f3 f4 f5
        by_cases hi0 : i = 0
        · have b4 : decide ((0 : Int) < (i : Int)) = false := by simp; omega
          have b5 : decide (0 < i) = false := by simp; omega
          clear hk hto hbyte hi0
          go_wp2
          go_quiet (fail)
          go_wp2
          go_roundw
          case rel => exact ⟨i + 1, by go_num, by omega, below_drewN (HB.out.trans ((below_new _).mono HB.out.size)) _⟩
          case measure => simp [intOf]; omega
        · have hm : ∃ m, i = m + 1 := ⟨i - 1, by omega⟩
          have hi1 : i - 1 < ss.length := by omega
          obtain ⟨b', o', he, hb', y0, -, -⟩ := HRS.out.at hi1
          simp only [Option.some.injEq, Addr.mk.injEq, and_true] at he
          obtain ⟨rfl, rfl⟩ := he
          have q0 := (hB.cell (p := ⟨b, o + (i - 1) * 3, none⟩) hb').trans y0
          have hrise := HF.out.rise (i - 1) (by omega)
          have hi2 : i - 1 + 1 = i := by omega
          obtain ⟨k', hk'⟩ : ∃ k' : Nat, ss[i - 1].fr = (k' : Int) := ⟨ss[i - 1].fr.toNat, by have := (HF.out.one (i - 1) hi1).2.1; omega⟩
          rw [hk'] at q0
          have hlt2 : k' < k := by
            rw [hk'] at hrise
            simp only [hi2, hk] at hrise
            omega
          have b4 : decide ((0 : Int) < (i : Int)) = true := by simp; omega
          have b5 : decide (0 < i) = true := by simp; omega
          have b6 : decide ((k : Int) ≤ (k' : Int)) = false := by simp; omega
          have b7 : decide (k ≤ k') = false := by simp; omega
          have hz1 : 0 ≤ (i : Int) - 1 := by omega
          have hz2 : (i : Int) - 1 < (ss.length : Int) := by omega
          have hz3 : ((i : Int) - 1).toNat = i - 1 := by omega
          have hz4 : 1 ≤ i := by omega
          clear hk hto hbyte hi0 hm y0 hk' hrise hi2 hi1
          go_wp2
          go_quiet (fail)
          go_wp2
          go_roundw
          case rel => exact ⟨i + 1, by go_num, by omega, below_drewN (HB.out.trans ((below_new _).mono HB.out.size)) _⟩
          case measure => simp [intOf]; omega
      · obtain rfl : i = ss.length := by omega
        have HB5 := hid hB
        clear hB
        have hzw3 : w3.heap.size ≤ wr.heap.size := HB5.out.size
        go_wp2
        go_loopw [15, 18] (fun vs vi wx => OutR w3 ns vs vi wx) (fun _ vi _ => ns.length - (intOf vi).toNat)
        case atStart => exact OutR.mk 0 rfl (by omega) (by simp) HB5.out
        case round =>
          obtain ⟨i, rfl, hi, rfl, hB⟩ := hrel
          by_cases hlt2 : i < ns.length
          · obtain ⟨b, o, rfl, hb, hcx⟩ := rd_at HRD.out hlt2
            have HCX := hid (fun (wy : World) (hy : Below w3.heap.size w3 wy) (j : Nat) (hj : j < ns.length) => (⟨(hy.cell (p := ⟨b, o + j * 3, none⟩) hb).trans (hcx j hj).1, (hy.cell (p := ⟨b, o + j * 3 + 2, none⟩) hb).trans (hcx j hj).2⟩ : _ ∧ _))
            obtain ⟨p0, p2⟩ := HCX.out _ hB i hlt2
            have hst := seen_step hlt2
            have hiz : (i : Int) < (ns.length : Int) := by omega
            have hsb : ((ns.take i).filter T.isQ).length ≤ 10000 := Nat.le_trans (List.length_filter_le _ _) (by rw [List.length_take]; omega)
            have HST := hid hst
            have HB := hid hB
            have HSM := hid (HNF.out.some i hlt2)
            have HUN := hid (fun j (hij : j < i) => HNF.out.unlike j i hlt2 hij)
            clear hst hcx hB
            obtain ⟨K, hKI⟩ : ∃ K, ns[i].kind = K := ⟨_, rfl⟩
            obtain ⟨Nn, hNI⟩ : ∃ Nn, ns[i].n = Nn := ⟨_, rfl⟩
            rw [hKI] at p0 HSM HUN HST
            rw [hNI] at p2 HSM HUN
            have HKI := hid hKI
            have HNI := hid hNI
            generalize ((ns.take i).filter T.isQ).length = C at *
            by_cases hK : K = 0
            · obtain ⟨g1, g2⟩ := HSM.out hK
              subst hK
              have c1b : decide (Nn < site) = false := by simp; omega
              have c2b : decide (site + (ss.length : Int) ≤ Nn) = false := by simp; omega
              clear hKI hNI
              go_wp2
              go_loopw [19] (fun vj wy => InR w3 i vj wy) (fun vj _ => i - (intOf vj).toNat)
              case atStart => exact InR.mk 0 rfl (by omega) HB.out
              case round =>
                obtain ⟨j, rfl, hj, hBy⟩ := hrel
                have HBY := hid hBy
                obtain ⟨pi0, pi2⟩ := HCX.out _ hBy i hlt2
                rw [HKI.out] at pi0
                rw [HNI.out] at pi2
                by_cases hji : j < i
                · have hjn : j < ns.length := by omega
                  obtain ⟨pj0, pj2⟩ := HCX.out _ hBy j hjn
                  have hjz : (j : Int) < (ns.length : Int) := by omega
                  have hjiz : (j : Int) < (i : Int) := by omega
                  clear hBy
                  have HU := hid (HUN.out j hji)
                  generalize ns[j].kind = Kj at *
                  generalize ns[j].n = Nj at *
                  by_cases hKj : Kj = 0
                  · have hne : (Nj == Nn) = false := by simpa using HU.out hKj (by first | exact trivial | rfl)
                    subst hKj
                    go_wp2
                    go_quiet (fail)
                    go_wp2
                    go_roundw
                    case rel => exact InR.mk (j + 1) (by go_num) (by omega) (below_drewN HBY.out _)
                    case measure => simp [intOf]; omega
                  · have hKb : (Kj == 0) = false := by simpa using hKj
                    clear hKj
                    go_wp2
                    go_quiet (fail)
                    go_wp2
                    go_roundw
                    case rel => exact InR.mk (j + 1) (by go_num) (by omega) (below_drewN HBY.out _)
                    case measure => simp [intOf]; omega
                · obtain rfl : j = i := by omega
                  clear hBy
                  go_wp2
                  go_roundw
                  case rel => exact OutR.mk (ns := ns) (j + 1) (by go_num) (by omega) (by rw [HST.out]; simp) HBY.out
                  case measure => simp [intOf]; omega
            · have hKb : (K == 0) = false := by simpa using hK
              have HK0 := hid hK
              clear hKI hNI hK
              go_wp2
              go_loopw [19] (fun vj wy => InR w3 i vj wy) (fun vj _ => i - (intOf vj).toNat)
              case atStart => exact InR.mk 0 rfl (by omega) HB.out
              case round =>
                obtain ⟨j, rfl, hj, hBy⟩ := hrel
                have HBY := hid hBy
                obtain ⟨pi0, pi2⟩ := HCX.out _ hBy i hlt2
                rw [HKI.out] at pi0
                rw [HNI.out] at pi2
                by_cases hji : j < i
                · have hjn : j < ns.length := by omega
                  obtain ⟨pj0, pj2⟩ := HCX.out _ hBy j hjn
                  have hjz : (j : Int) < (ns.length : Int) := by omega
                  have hjiz : (j : Int) < (i : Int) := by omega
                  clear hBy
                  generalize ns[j].kind = Kj at *
                  generalize ns[j].n = Nj at *
                  go_wp2
                  go_quiet (fail)
                  go_wp2
                  go_roundw
                  case rel => exact InR.mk (j + 1) (by go_num) (by omega) (below_drewN HBY.out _)
                  case measure => simp [intOf]; omega
                · obtain rfl : j = i := by omega
                  clear hBy
                  go_wp2
                  go_roundw
                  case rel => exact OutR.mk (ns := ns) (j + 1) (by go_num) (by omega) (by rw [HST.out]; simp [HK0.out]) HBY.out
                  case measure => simp [intOf]; omega
          · obtain rfl : i = ns.length := by omega
            have hcn : ((ns.take ns.length).filter T.isQ).length = ss.length := by rw [List.take_length]; exact HNF.out.count
            rw [hcn]
            have HB := hid hB
            clear hB hcn
            go_wp2_with fail
            refine (HA.out _).mono ?_
            rintro e w8 ⟨rfl, hb8⟩
            have HB8 := hid (up HB.out hb8 (Nat.le_refl _))
            clear hb8
            go_wp2
            go_ret
            exact ⟨ret_bool (by simp), HB3.out.trans (HB8.out.mono HB3.out.size)⟩

theorem sites_true (s : ByteArray) (site lv : Int) (w0 : s.size ≤ maxLen) (w : World) :
    Calls Try.prog 4 #[.string s, .int .i64 site, .int .i64 lv] w (Post w) := by
  by_cases h : 3000 < s.size ∨ site < 1 ∨ lv < 1 ∨ 1000000 < site
  · exact sites_big s site lv w0 h w
  · exact sites_walk s site lv (by omega) (by omega) (by omega) (by omega) w

set_option maxRecDepth 100000 in
theorem sites_lifted (os : Os) (started : os.Started) (H : Type) (enc : TypeId × Value → H) :
    ReturnsInHanded {} Try.checked os 4 .any (Rows.treadSitesSpec.pre6 enc Try.prog Try.f4 Rows.treadSitesRow.domain false) (Rows.treadSitesSpec.post enc Try.prog Try.f4 false true false false) := by
  refine returnsInHanded_of_change (C := Try.checked) own started (by kernel_rfl) Try.func4
    (ChangeSpec.witness6 (enc := enc) (C := Try.checked) false ⟨#[], #[.string ⟨#[]⟩, .int .i64 0, .int .i64 0], []⟩ 8 (by kernel_rfl) (by kernel_rfl) (by kernel_rfl) (by kernel_rfl)) ?_
  intro W base args ds gs before hval0 hW hcnd _
  have hval : ∀ (j : Nat) t v, Try.f4.params[j]? = some t → args[j]? = some v → Value.okWide Try.prog W .any base t v := hval0
  have hW' := hW
  obtain ⟨p, q, hA0, hV, rfl, hfz, hnd⟩ := hW
  have hA : DataW.TrodAll enc Try.prog W 0 (fun _ => true) true Try.f4.params.toList args.toList ds p := hA0
  rw [Try.params4] at hA hval
  obtain ⟨v0, vs0, d0, ds0, p0, q0, hargs, rfl, rfl, h0, r0⟩ := trodAll_cons hA
  obtain ⟨v1, vs1, d1, ds1, p1, q1, hargs1, rfl, rfl, h1, r1⟩ := trodAll_cons r0
  obtain ⟨v2, vs2, d2, ds2, p2, q2, hargs2, rfl, rfl, h2, r2⟩ := trodAll_cons r1
  obtain ⟨hn, rfl, rfl⟩ := trodAll_nil r2
  obtain rfl : args = #[v0, v1, v2] := by cases args; simp_all
  obtain ⟨rfl, rfl⟩ := trodVars_none hV
  obtain ⟨a0, rfl, rfl, rfl, w0⟩ := open_string Try.underlying9 (hval 0 9 v0 rfl rfl) h0
  obtain ⟨a1, rfl, rfl, rfl, w1⟩ := open_int Try.underlying3 (hval 1 3 v1 rfl rfl) h1
  obtain ⟨a2, rfl, rfl, rfl, w2⟩ := open_int Try.underlying3 (hval 2 3 v2 rfl rfl) h2
  clear hA0 hval0
  simp only [List.append_nil] at hW'
  refine (sites_true a0 a1 a2 w0 W).mono fun e W' ⟨he, hB⟩ => ?_
  subst he
  refine ⟨_, rfl, _, _, _, [], [], [], hW', ?_, ?_, ?_, hB.frame _, fun h => by cases h⟩
  · exact trodAll_cons_mk (shut_bool Try.underlying4 _) trodAll_mk0
  · exact (trodAll_cons_mk (shut_string Try.underlying9 w0) (trodAll_cons_mk (shut_int Try.underlying3 w1) (trodAll_cons_mk (shut_int Try.underlying3 w2) trodAll_mk0)))
  · rfl

/-- TreadSites: the given statement. -/
theorem sites_holds : Rows.TreadSitesSaid :=
  OpenClaim.holds_of_wide 4 Try.f4 rfl rfl rfl rfl rfl rfl rfl ⟨rfl, rfl, rfl, rfl, rfl⟩ rfl rfl rfl rfl rfl (by kernel_rfl) Try.func4 (by kernel_rfl)
    (of_decide_eq_true (by kernel_rfl)) (by unfold Func.isWrapper; first | (rw [if_pos (by decide +kernel)]; kernel_rfl) | (rw [if_neg (by decide +kernel)]; exact ⟨rfl, rfl⟩))
    (fun os started H enc _ => sites_lifted os started H enc)

end Go.Proofs.Ytjciaelaipjfmaa.treadSites
