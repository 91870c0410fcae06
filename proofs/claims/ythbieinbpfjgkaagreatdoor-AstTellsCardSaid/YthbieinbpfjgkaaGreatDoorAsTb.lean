/-
  The walk of the reference's printed. Conditions: a slice that reads as parts, of which an expression's tree stands at a place; few parts, of short names and types.
-/
import Derived.Test.YthbieinbpfjgkaaGreatDoorAsTa
import Derived.Test.YthbieinbpfjgkaaGreatDoorAsPl
import Derived.Test.YthbieinbpfjgkaaGreatDoorMA1
import Derived.Test.YthbieinbpfjgkaaGreatDoorMA4
import Derived.Test.YthbieinbpfjgkaaGreatDoorM6
import Derived.BigQuiet
namespace Go.Proofs.YthbieinbpfjgkaaGreatDoor
open Go.RowKit Go.Sort

namespace E
theorem count0 {ks : Fo} (h : ks.count = 0) : ks = .nil := by
  cases ks with
  | nil => rfl
  | cons c kc r => simp [Fo.count] at h
theorem count_more {ks : Fo} {n : Nat} (h : n + 1 ≤ ks.count) : ∃ c kc r, ks = .cons c kc r ∧ n ≤ r.count := by
  cases ks with
  | nil => simp [Fo.count] at h
  | cons c kc r => exact ⟨c, kc, r, rfl, by simp only [Fo.count] at h; omega⟩
theorem count1 {ks : Fo} (h : ks.count = 1) : ∃ c kc, ks = .cons c kc .nil := by
  cases ks with
  | nil => simp [Fo.count] at h
  | cons c kc r =>
    cases r with
    | nil => exact ⟨c, kc, rfl⟩
    | cons d kd r => simp [Fo.count] at h
theorem count2 {ks : Fo} (h : ks.count = 2) : ∃ c kc d kd, ks = .cons c kc (.cons d kd .nil) := by
  cases ks with
  | nil => simp [Fo.count] at h
  | cons c kc r =>
    obtain ⟨d, kd, rfl⟩ := count1 (ks := r) (by simp only [Fo.count] at h; omega)
    exact ⟨c, kc, d, kd, rfl⟩
theorem count3 {ks : Fo} (h : ks.count = 3) : ∃ c kc d kd e ke, ks = .cons c kc (.cons d kd (.cons e ke .nil)) := by
  cases ks with
  | nil => simp [Fo.count] at h
  | cons c kc r =>
    obtain ⟨d, kd, e, ke, rfl⟩ := count2 (ks := r) (by simp only [Fo.count] at h; omega)
    exact ⟨c, kc, d, kd, e, ke, rfl⟩
theorem pr_cast {x : Pt} (hk : x.kind = 14) (c : Pt) (kc : Fo) : prT x (.cons c kc .nil) = 60 :: (prT c kc ++ 58 :: 32 :: (L.tyP x.t ++ 32 :: 61 :: 62 :: 32 :: (L.tyP x.u ++ [62]))) := by
  rw [prT_def, Fo.pr_cons, pr_nil]
  simp [firstP, lastP, hk]
/-- The prints of a row's trees. -/
noncomputable def prints : Fo → List ByteArray
  | .nil => []
  | .cons c kc r => ⟨(prT c kc).toArray⟩ :: prints r
theorem prints_len : ∀ f : Fo, (prints f).length = f.count
  | .nil => rfl
  | .cons _ _ r => by simp [prints, Fo.count, prints_len r]
/-- The branches' prints, from number k on. -/
noncomputable def brF : Nat → Fo → List UInt8
  | _, .nil => []
  | k, .cons c kc r => (if 1 < k then [32, 124, 32] else []) ++ (prT c kc ++ brF (k + 1) r)
theorem brF_pr {x : Pt} (hk : x.kind = 7) : ∀ (f : Fo) (k : Nat), 2 ≤ k → f.pr x k = brF k f
  | .nil, _, _ => rfl
  | .cons c kc r, k, h => by
    have : betwP x k = [32, 124, 32] := by
      unfold betwP
      simp only [hk, Int.reduceEq, if_true, if_false, or_false]
      rw [if_neg (show ¬ k = 1 by omega)]
    rw [Fo.pr_cons, brF, brF_pr hk r (k + 1) (by omega), if_pos (show 0 < k by omega), if_neg (show ¬ x.kind = 10 by omega), List.append_nil, this, if_pos (show 1 < k by omega)]
theorem pr_case_br {x : Pt} (hk : x.kind = 7) (c : Pt) (kc d' : Fo) (d : Pt) (r : Fo) : prT x (.cons c kc (.cons d d' r)) = 40 :: 99 :: 97 :: 115 :: 101 :: 32 :: (prT c kc ++ 32 :: 111 :: 102 :: 32 :: (brF 1 (.cons d d' r) ++ 32 :: 101 :: 110 :: 100 :: [41])) := by
  rw [pr_case hk, Fo.pr_cons, brF, brF_pr hk r 2 (by omega)]
  have : betwP x 1 = [32, 111, 102, 32] := by
    unfold betwP
    simp only [hk, Int.reduceEq, if_true, if_false, or_false]
  simp [this, hk]
theorem pr_case_br2 {x : Pt} (hk : x.kind = 7) (c : Pt) (kc : Fo) {R : Fo} (hR : 1 ≤ R.count) : prT x (.cons c kc R) = 40 :: 99 :: 97 :: 115 :: 101 :: 32 :: (prT c kc ++ 32 :: 111 :: 102 :: 32 :: (brF 1 R ++ 32 :: 101 :: 110 :: 100 :: [41])) := by
  cases R with
  | nil => simp [Fo.count] at hR
  | cons d kd r => exact pr_case_br hk c kc kd d r
theorem lit_plain {p : Pt} (h : sound p = true) (k : p.kind = 0) : plain p.t = true := by
  obtain ⟨x, hx, -, -, -, -, -, hl⟩ := snd0 h k
  have h2 := h
  unfold sound litOK at h2
  rw [if_pos k, hx] at h2
  simp only at h2
  have h3 := ((Bool.and_eq_true _ _).mp h2).1
  unfold plain
  rw [hx, h3]
  have : x.kind ≠ 8 ∧ x.kind ≠ 9 := by omega
  simp [L.plainL, L.varN, this]
end E

theorem drop_atP {l : List E.Pt} {q : Nat} {x : E.Pt} {r : List E.Pt} (h : l.drop q = x :: r) : ∃ hq : q < l.length, l[q] = x ∧ l.drop (q + 1) = r := by
  have hq : q < l.length := by
    rcases Nat.lt_or_ge q l.length with h2 | h2
    · exact h2
    · rw [List.drop_eq_nil_of_le h2] at h; cases h
  have := List.drop_eq_getElem_cons hq
  rw [h] at this
  injection this with h1 h2
  exact ⟨hq, h1.symm, h2.symm⟩

theorem rtprint_any (t : List L.Nd) (hp : E.plain t = true) (hS : Short t) (v : Value) (w : World) (hx : Rd w w.heap.size v t) :
    Calls Tryz.prog 76 #[v] w fun e w' => e = .returned (.string ⟨(L.tyP t).toArray⟩) ∧ Below w.heap.size w w' := by
  obtain ⟨x, ks, rfl, hl, hb, hok, -⟩ := (L.rightL_iff _).1 ((Bool.and_eq_true _ _).mp hp).1
  rw [L.tyP_eq hok]
  exact refPrint_any x ks hok hS hb (by simpa using hl) v w hx

theorem ba_of {s : ByteArray} {l : List UInt8} (h : s.data.toList = l) : (⟨l.toArray⟩ : ByteArray) = s := by
  subst h
  rfl

theorem two_alloc (w : World) (o1 o2 : Obj) : Below w.heap.size w ((w.alloc o1).alloc o2) := (below_new _).trans ((below_new _).mono (by simp))

theorem OwnS.cells {B : Nat} {A : Option Addr} {cp : Nat} {ss : List ByteArray} {w : World} (h : OwnS B (.slice A ss.length cp) ss w) (hn : ss ≠ []) : ∃ g, A = some ⟨g, 0, none⟩ ∧ B ≤ g ∧ g < w.heap.size ∧ ∀ i (hi : i < ss.length), w.cell? ⟨g, i, none⟩ = some (.string ss[i]) := by
  rcases h.2 with ⟨hv, h0⟩ | ⟨g, cap, cur, hv, hB, hh, hc, hm, _⟩
  · exact absurd (List.eq_nil_of_length_eq_zero h0) hn
  · simp only [Value.slice.injEq] at hv
    obtain ⟨rfl, -, rfl⟩ := hv
    exact ⟨g, rfl, hB, heap_lt hh, fun i hi => by rw [World.ownsRow.cellAt h i (by omega)]; simp [hi]⟩

set_option maxHeartbeats 8000000 in
set_option maxRecDepth 100000 in
theorem rprinted_any (l : List E.Pt) (hF : FewP l) (hR : ∀ y ∈ l, E.many y = E.manyR y) (hP : ∀ y ∈ l, E.Pr1 y) (hll : l.length ≤ 120) (v : Value) : ∀ (n : Nat) (x : E.Pt) (ks : E.Fo), ks.flat.length < n → (E.Fo.cons x ks .nil).ok = true →
    ∀ (rest : List E.Pt) (q : Nat) (w : World), l.drop q = x :: (ks.flat ++ rest) → RdP w w.heap.size v l →
    Calls Tryz.prog 48 #[v, .int .i64 q] w fun e w' => e = .returned (.string ⟨(E.prT x ks).toArray⟩) ∧ Below w.heap.size w w' := by
  intro n
  induction n with
  | zero => intro x ks h; omega
  | succ n ih =>
    intro x ks hn hok rest q w hd hx
    have IH := hid ih
    clear ih
    obtain ⟨hq, hxq, hdn⟩ := drop_atP hd
    obtain ⟨hsnd, hmany, hst, hkok, -⟩ := E.ok_cons hok
    have hkb := E.kind_bound hsnd
    have p1 := hP x (by rw [← hxq]; exact List.getElem_mem hq)
    have HKC := hid (fun (W : World) (hW : Below w.heap.size w W) => rkids_any l hF hR v q hq W (hx.below hW))
    rw [hxq, hmany, Int.toNat_natCast] at HKC
    obtain ⟨kl, hkl⟩ : ∃ kl, kl = E.kidsL l ks.count (q + 1) := ⟨_, rfl⟩
    rw [← hkl] at HKC
    have hkc : kl.length = ks.count := by rw [hkl]; exact (E.kids_flat l x ks (q + 1) 0 [] rest hkok hdn).1
    have hkc60 : kl.length ≤ 60 := by have := (E.many_of_sound hsnd).2; omega
    have hfl : q + 1 + ks.flat.length ≤ 120 := by
      have := congrArg List.length hd
      simp at this
      omega
    have HPS : Hid (∀ (c : E.Pt) (kc : E.Fo) (p : Nat) (r : List E.Pt), l.drop p = c :: (kc.flat ++ r) → (E.prT c kc).length ≤ 9000000) := hid fun c kc p r h => by
      have hsub : ∀ z ∈ c :: kc.flat, E.Pr1 z := fun z hz => hP z (by
        have : z ∈ l.drop p := by rw [h]; simp only [List.mem_cons, List.mem_append] at hz ⊢; exact hz.imp id Or.inl
        exact List.mem_of_mem_drop this)
      refine E.eprT_len hsub ?_
      have := congrArg List.length h
      simp at this
      omega
    have HKL := hid hkl
    have HKC2 := hid hkc
    have HDN := hid hdn
    have HOK := hid hkok
    have HST := hid hst
    have HSND := hid hsnd
    have HP1 := hid p1
    have HD := hid hd
    have HMN := hid hmany
    have HX := hid hx
    obtain ⟨A, cap, rfl, hl1, hl2, hcx⟩ := hx
    unfold maxLen at hl2
    obtain ⟨b, o, rfl, hb, hcx⟩ := hcx (by rintro rfl; simp at hq)
    have HCX := hid hcx
    obtain ⟨vt, vu, x0, x1, x2, x3, x4, x5, x6, x7, ht, hu⟩ := hcx q hq
    rw [hxq] at x0 x1 x2 x3 x4 x5 ht hu
    obtain ⟨A1, c1, rfl⟩ : ∃ A1 c1, vt = .slice A1 x.t.length c1 := by obtain ⟨A1, c1, h, -⟩ := ht; exact ⟨A1, c1, h⟩
    obtain ⟨A2, c2, rfl⟩ : ∃ A2 c2, vu = .slice A2 x.u.length c2 := by obtain ⟨A2, c2, h, -⟩ := hu; exact ⟨A2, c2, h⟩
    have HTT := hid ht
    have HUU := hid hu
    obtain ⟨k1, hk1⟩ : ∃ k, k = x.kind := ⟨_, rfl⟩
    obtain ⟨s1, hs1⟩ : ∃ k, k = x.label := ⟨_, rfl⟩
    obtain ⟨s2, hs2⟩ : ∃ k, k = x.name := ⟨_, rfl⟩
    obtain ⟨s3, hs3⟩ : ∃ k, k = x.bind := ⟨_, rfl⟩
    obtain ⟨n1, hn1⟩ : ∃ k, k = x.many := ⟨_, rfl⟩
    obtain ⟨n2, hn2⟩ : ∃ k, k = x.num := ⟨_, rfl⟩
    obtain ⟨tl, htl⟩ : ∃ k, k = x.t.length := ⟨_, rfl⟩
    obtain ⟨ul, hul⟩ : ∃ k, k = x.u.length := ⟨_, rfl⟩
    rw [← hk1] at x0
    rw [← hs1] at x1
    rw [← hs2] at x2
    rw [← hs3] at x3
    rw [← hn1] at x4
    rw [← hn2] at x5
    rw [← htl] at x6 HTT
    rw [← hul] at x7 HUU
    have z1 : s1.size ≤ 200 := by rw [hs1]; exact p1.lb
    have z2 : s2.size ≤ 200 := by rw [hs2]; exact p1.nm
    have z3 : s3.size ≤ 200 := by rw [hs3]; exact p1.bd
    have HK1 := hid hk1
    have HS1 := hid hs1
    have HS2 := hid hs2
    have HS3 := hid hs3
    have HN1 := hid hn1
    have HN2 := hid hn2
    have HTL := hid htl
    have HUL := hid hul
    have hqz : (q : Int) < (l.length : Int) := by omega
    have hq0 : (0 : Int) ≤ (q : Int) := by omega
    obtain ⟨O, hO⟩ : ∃ O : Array Value, O = #[.int .i64 k1, .string s1, .string s2, .string s3, .int .i64 n1, .int .i64 n2, .slice A1 tl c1, .slice A2 ul c2] := ⟨_, rfl⟩
    have N0 : Hid ((w.alloc (.cells O 39)).heap[w.heap.size]? = some (.cells O 39 (0, 0))) := hid (heap_alloc_new w _)
    have Z0 : Hid ((w.alloc (.cells O 39)).heap.size = w.heap.size + 1) := hid (by simp)
    have HA0 : Hid (Below w.heap.size w (w.alloc (.cells O 39))) := hid (below_new _)
    have HB0 : Hid (Below (w.heap.size + 1) (w.alloc (.cells O 39)) ((w.alloc (.cells O 39)).alloc (.cells #[] 9))) := hid ((below_new _).mono (by simp))
    have HW0 : Hid (OwnS (w.heap.size + 1) (.slice (some ⟨w.heap.size + 1, 0, none⟩) 0 0) [] ((w.alloc (.cells O 39)).alloc (.cells #[] 9))) := hid (by
      have h := World.ownsRow_made (w.alloc (.cells O 39)) (e := 9) (base := w.heap.size + 1) (size := 1) #[] 0 (by simp) (Nat.zero_le _) (by simp)
      simpa [OwnS] using h)
    obtain ⟨is, his, hzs0, hzs1, hzs2⟩ := info_parts infoStr
    subst hO
    clear hcx ht hu hk1 hs1 hs2 hs3 hn1 hn2 htl hul hP hF hR hd hdn hkok hst hok hsnd hkl hkc p1 hmany hxq hkb
    go_enter Tryz.func48, Tryz.ntmps48
    go_wp2_with fail
    generalize (w.alloc (.cells #[.int .i64 k1, .string s1, .string s2, .string s3, .int .i64 n1, .int .i64 n2, .slice A1 tl c1, .slice A2 ul c2] 39)) = w0 at *
    have hz00 := HB0.out.size
    refine (HKC.out _ (HA0.out.trans (HB0.out.mono (by omega)))).mono ?_
    rintro e w1 ⟨v1, rfl, hO1, hb1⟩
    obtain ⟨A5, c5, hv5, -⟩ := hO1.rd
    have B1 := hid (HB0.out.trans (hb1.mono (by have := Z0.out; omega)))
    have RI1 := hid (show OwnI (w.heap.size + 1) v1 kl w1 from row_more hO1 (by have := Z0.out; omega))
    have W1 := hid (HW0.out.below hb1)
    subst hv5
    clear hb1 hO1 HKC HB0 HW0 hz00
    go_wp2
    go_loopw [6, 8] (fun vx vk wr => ∃ (k p : Nat) (g : E.Fo) (ss : List ByteArray), vk = .int .i64 k ∧ k + g.count = kl.length ∧ g.flat.length ≤ ks.flat.length ∧ Hid (OwnS (w.heap.size + 1) vx ss wr) ∧ Hid (ss.length = k) ∧ Hid (g.ok = true ∧ l.drop p = g.flat ++ rest ∧ kl.drop k = E.kidsL l g.count p ∧ ss ++ E.prints g = E.prints ks) ∧ Hid (Below (w.heap.size + 1) w0 wr) ∧ Hid (OwnI (w.heap.size + 1) (.slice A5 kl.length c5) kl wr)) (fun _ vk _ => kl.length - (intOf vk).toNat)
    case atStart => exact ⟨0, q + 1, ks, [], rfl, by rw [HKC2.out]; omega, Nat.le_refl _, W1, hid rfl, hid ⟨HOK.out, HDN.out, by rw [List.drop_zero]; exact HKL.out, rfl⟩, B1, RI1⟩
    case round =>
      obtain ⟨k, p, g, ss, rfl, hkg, hgf, hW, hsl, hI, hB, hKI⟩ := hrel
      have hbw : w.heap.size + 1 ≤ wr.heap.size := by have := hB.out.size; have := Z0.out; omega
      have hBW := hid (HA0.out.trans (hB.out.mono (by omega)))
      cases g with
      | cons c kc r =>
        obtain ⟨gok, gd, gk, gp⟩ := hI.out
        obtain ⟨m1, m2, m3, m4, m5⟩ := E.ok_cons gok
        have hdc : l.drop p = c :: (kc.flat ++ (r.flat ++ rest)) := by rw [gd]; simp [E.Fo.flat]
        obtain ⟨ks1, ks2⟩ := E.kidsL_step gok (by rw [hdc] : l.drop p = c :: (kc.flat ++ (r.flat ++ rest)))
        simp only [E.Fo.count] at hkg
        simp only [E.Fo.flat, List.length_cons, List.length_append] at hgf
        have hkl : k < kl.length := by omega
        have hkd := List.drop_eq_getElem_cons hkl
        rw [gk, ks1] at hkd
        injection hkd with hkk hkr
        have hoc : (E.Fo.cons c kc .nil).ok = true := by
          simp only [E.Fo.ok, Bool.and_eq_true, Bool.and_true] at gok ⊢
          exact gok.1
        have HIY := hid (fun (W : World) (h : Below w.heap.size w W) => IH.out c kc (by omega) hoc (r.flat ++ rest) p W hdc (HX.out.below h))
        have HNX : Hid (r.ok = true ∧ l.drop (p + (kc.flat.length + 1)) = r.flat ++ rest ∧ kl.drop (k + 1) = E.kidsL l r.count (p + (kc.flat.length + 1))) := hid ⟨m5, by
          have := E.drop_more (l := l) (a := c :: kc.flat) (b := r.flat ++ rest) (p := p) (by rw [hdc]; simp)
          simpa using this, by rw [← hkr, show p + (kc.flat.length + 1) = p + 1 + kc.flat.length by omega]⟩
        have HGP := hid gp
        obtain ⟨g5, c6, hv6, hg5, hcell5⟩ := hKI.out.rd.cell (by omega)
        simp only [Value.slice.injEq, true_and] at hv6
        obtain ⟨rfl, rfl⟩ := hv6
        have ck := hcell5 k hkl
        rw [← hkk] at ck
        have hkz : (k : Int) < (kl.length : Int) := by omega
        obtain ⟨Y, hY⟩ : ∃ Y : ByteArray, Y = ⟨(E.prT c kc).toArray⟩ := ⟨_, rfl⟩
        rw [← hY] at HIY
        have HYE := hid hY
        obtain ⟨Ax, cx, rfl⟩ := hW.out.val
        have HSL := hsl
        have hslk : ss.length ≤ 60 := by have := hsl.out; omega
        clear gok gd gk gp m1 m2 m3 m4 m5 hdc ks1 ks2 hkk hkr hoc hcell5 hY hI hsl
        go_wp2_with fail
        refine (HIY.out _ hBW.out).mono ?_
        rintro e w3 ⟨rfl, h3⟩
        have B3 := hid (hB.out.trans (h3.mono hbw))
        have K3 := hid (hKI.out.below h3)
        have W3 := hid (hW.out.below h3)
        have hBl := below_new (w := w3) (.cells #[.string Y] 9)
        have HS5 := hid (W3.out.below hBl)
        have HK5 := hid (K3.out.below hBl)
        have hones : Hid (∀ u ∈ [Value.string Y], u.oneCell' = true) := hid (by intro u hu; simp at hu; subst hu; rfl)
        have HBL := hid hBl
        have hz3 : w.heap.size + 1 ≤ w3.heap.size := by have := h3.size; omega
        clear h3 hBl hW hKI
        go_wp2_with (at_builtin; refine wpList_append_own _ rfl _ _ 34 rfl (w.heap.size + 1) 9 is (.string ⟨#[]⟩) 1 16 Tryz.underlying34 his hzs0 hzs1 hzs2 rfl (by decide) _ _ _ rfl HS5.out ⟨w3.heap.size, 0, none⟩ 1 1 [.string Y] rfl rfl (str_oneP w3 _) hones.out ?c3 ?c4 ?c5 ?_)
        case c3 => unfold maxLen; omega
        case c4 => omega
        case c5 => first | omega | (simp; omega)
        intro v5 w5 hown hgrow _
        have hO5 := hid (OwnS.snoc Y hown)
        have hlt5 : ∀ k', (Value.slice Ax ss.length cx).ownBlock = some k' → w.heap.size + 1 ≤ k' := fun k' hk' => (World.ownsRow.lt HS5.out k' hk').1
        have hB5 := hid ((B3.out.trans (HBL.out.mono hz3)).grown hgrow (by simp; omega) hlt5)
        have HK7 := hid (show OwnI (w.heap.size + 1) _ kl w5 from row_aside HK5.out HS5.out (by decide) hgrow)
        have HSS : Hid ((ss ++ [Y]) ++ E.prints r = E.prints ks) := hid (by rw [← HGP.out, E.prints, HYE.out]; simp)
        have HLN : Hid ((ss ++ [Y]).length = k + 1) := hid (by rw [List.length_append, HSL.out]; rfl)
        clear hown hgrow HS5 HK5 ck
        go_wp2
        go_roundw
        case rel => exact ⟨k + 1, p + (kc.flat.length + 1), r, _, by go_num, by omega, by omega, hO5, HLN, hid ⟨HNX.out.1, HNX.out.2.1, HNX.out.2.2, HSS.out⟩, hB5, HK7⟩
        case measure => simp [intOf]; omega
      | nil =>
        have hkk : k = kl.length := by simpa [E.Fo.count] using hkg
        have hss : ss = E.prints ks := by have := hI.out.2.2.2; simpa [E.prints] using this
        subst hss
        obtain ⟨Ax, cx, rfl⟩ := hW.out.val
        have hkz : ¬ (k : Int) < (kl.length : Int) := by omega
        have HXP := hid (HPS.out x ks q rest HD.out)
        have NR : Hid (wr.heap[w.heap.size]? = some (.cells #[.int .i64 k1, .string s1, .string s2, .string s3, .int .i64 n1, .int .i64 n2, .slice A1 tl c1, .slice A2 ul c2] 39 (0, 0))) := hid ((hB.out.block _ (by omega)).trans N0.out)
        have hSLx := hsl.out
        clear hsl hI hkg hgf
        by_cases hk : k1 = 2
        · have kx : x.kind = 2 := HK1.out.symm.trans hk
          have hsnd := HSND.out
          have hm0 : E.many x = 1 := (E.many_of kx (by decide) (by decide) (by decide) (E.snd2 hsnd (Or.inl kx)).2.2.2.1).trans rfl
          have hcount : ks.count = 1 := by have := HMN.out; omega
          obtain ⟨c, kc, rfl⟩ := E.count1 hcount
          have hform := E.pr_fun kx c kc
          have hlen := congrArg List.length hform
          have hxp := HXP.out
          simp only [List.length_append, List.length_cons, List.length_nil] at hlen
          have hsn : (E.prints (E.Fo.cons c kc .nil)).length = 1 := by rw [E.prints_len]; exact hcount
          obtain ⟨gx, hAx, hgx, hgl, hyc⟩ := hW.out.cells (by simp [E.prints])
          subst hAx
          have y0 : wr.cell? ⟨gx, 0, none⟩ = some (.string ⟨(E.prT c kc).toArray⟩) := hyc 0 (by rw [hsn]; decide)
          obtain ⟨Y0, hY0⟩ : ∃ Y : ByteArray, Y = ⟨(E.prT c kc).toArray⟩ := ⟨_, rfl⟩
          rw [← hY0] at y0
          have zY0 : Y0.size ≤ 9000000 := by rw [hY0]; show (E.prT c kc).toArray.size ≤ _; rw [List.size_toArray]; omega
          have hpt := (E.snd2 hsnd (Or.inl kx)).2.1
          have htl0 : (0 : Int) < (tl : Int) := by
            have := HTL.out
            have h0 : x.t ≠ [] := E.plain_ne hpt
            have := List.length_pos_iff.2 h0
            omega
          have hTS := E.tyPL hpt HP1.out.st HP1.out.lt
          have HTP := hid (fun (W : World) (h : Below w.heap.size w W) => rtprint_any x.t hpt HP1.out.st _ W ((HTT.out.below h).mono h.size))
          obtain ⟨TT, hTT⟩ : ∃ Y : ByteArray, Y = ⟨(L.tyP x.t).toArray⟩ := ⟨_, rfl⟩
          rw [← hTT] at HTP
          have zTT : TT.size ≤ 18000 := by rw [hTT]; show (L.tyP x.t).toArray.size ≤ _; rw [List.size_toArray]; exact hTS
          have hul0 : ul = 0 := by rw [HUL.out, (E.snd2 hsnd (Or.inl kx)).2.2.2.2.2]; rfl
          have HS : Hid ((⟨(E.prT x (E.Fo.cons c kc .nil)).toArray⟩ : ByteArray) = (⟨#[40, 102, 117, 110, 32, 40]⟩ : ByteArray) ++ s3 ++ (⟨#[58, 32]⟩ : ByteArray) ++ TT ++ (⟨#[41, 32, 45, 62, 32]⟩ : ByteArray) ++ Y0 ++ (⟨#[41]⟩ : ByteArray)) := hid (ba_of (by
            rw [hform, ← HS3.out]
            simp [hY0, hTT]))
          have q1 : ((⟨#[40, 102, 117, 110, 32, 40]⟩ : ByteArray) ++ s3).size ≤ 206 := by rw [ByteArray.size_append]; show ((⟨#[40, 102, 117, 110, 32, 40]⟩ : ByteArray)).size + s3.size ≤ _; have : ((⟨#[40, 102, 117, 110, 32, 40]⟩ : ByteArray)).size = 6 := rfl; omega
          have q2 : ((⟨#[40, 102, 117, 110, 32, 40]⟩ : ByteArray) ++ s3 ++ (⟨#[58, 32]⟩ : ByteArray)).size ≤ 208 := by rw [ByteArray.size_append]; show ((⟨#[40, 102, 117, 110, 32, 40]⟩ : ByteArray) ++ s3).size + 2 ≤ _; omega
          have q3 : ((⟨#[40, 102, 117, 110, 32, 40]⟩ : ByteArray) ++ s3 ++ (⟨#[58, 32]⟩ : ByteArray) ++ TT).size ≤ 18208 := by rw [ByteArray.size_append]; show ((⟨#[40, 102, 117, 110, 32, 40]⟩ : ByteArray) ++ s3 ++ (⟨#[58, 32]⟩ : ByteArray)).size + TT.size ≤ _; omega
          have q4 : ((⟨#[40, 102, 117, 110, 32, 40]⟩ : ByteArray) ++ s3 ++ (⟨#[58, 32]⟩ : ByteArray) ++ TT ++ (⟨#[41, 32, 45, 62, 32]⟩ : ByteArray)).size ≤ 18213 := by rw [ByteArray.size_append]; show ((⟨#[40, 102, 117, 110, 32, 40]⟩ : ByteArray) ++ s3 ++ (⟨#[58, 32]⟩ : ByteArray) ++ TT).size + 5 ≤ _; omega
          have q5 : ((⟨#[40, 102, 117, 110, 32, 40]⟩ : ByteArray) ++ s3 ++ (⟨#[58, 32]⟩ : ByteArray) ++ TT ++ (⟨#[41, 32, 45, 62, 32]⟩ : ByteArray) ++ Y0).size ≤ 9018213 := by rw [ByteArray.size_append]; show ((⟨#[40, 102, 117, 110, 32, 40]⟩ : ByteArray) ++ s3 ++ (⟨#[58, 32]⟩ : ByteArray) ++ TT ++ (⟨#[41, 32, 45, 62, 32]⟩ : ByteArray)).size + Y0.size ≤ _; omega
          have q6 : ((⟨#[40, 102, 117, 110, 32, 40]⟩ : ByteArray) ++ s3 ++ (⟨#[58, 32]⟩ : ByteArray) ++ TT ++ (⟨#[41, 32, 45, 62, 32]⟩ : ByteArray) ++ Y0 ++ (⟨#[41]⟩ : ByteArray)).size ≤ 9018214 := by rw [ByteArray.size_append]; show ((⟨#[40, 102, 117, 110, 32, 40]⟩ : ByteArray) ++ s3 ++ (⟨#[58, 32]⟩ : ByteArray) ++ TT ++ (⟨#[41, 32, 45, 62, 32]⟩ : ByteArray) ++ Y0).size + 1 ≤ _; omega
          clear hlen hform hxp hyc hm0 hcount hsnd kx hY0 hTT hpt hTS
          subst hul0
          subst hk
          have cN := fun j => Lib.cell_of_heap NR.out j
          go_wp2_with fail
          refine (HTP.out _ hBW.out).mono ?_
          rintro e w2 ⟨rfl, h2⟩
          have Nw2 := hid ((h2.block _ (by have := heap_lt NR.out; omega)).trans NR.out)
          have Bw2 := hid (hBW.out.trans (h2.mono hBW.out.size))
          replace y0 := (h2.cell (p := ⟨gx, 0, none⟩) hgl).trans y0
          replace hgl : gx < w2.heap.size := by have := h2.size; omega
          clear cN h2
          have cN := fun j => Lib.cell_of_heap Nw2.out j
          go_wp2
          go_quiet (fail)
          go_wp2
          go_ret
          first | exact ⟨by rw [HS.out] <;> rfl, Bw2.out⟩ | exact ⟨by rw [HS.out] <;> rfl, below_drewN Bw2.out _⟩
        have nk2 := hk
        clear hk
        by_cases hk : k1 = 3
        · have kx : x.kind = 3 := HK1.out.symm.trans hk
          have hsnd := HSND.out
          have hm0 : E.many x = 2 := (E.many_of kx (by decide) (by decide) (by decide) (E.snd3 hsnd (Or.inl kx)).2.2.1).trans rfl
          have hcount : ks.count = 2 := by have := HMN.out; omega
          obtain ⟨c, kc, d, kd, rfl⟩ := E.count2 hcount
          have hform := E.pr_app kx c kc d kd
          have hlen := congrArg List.length hform
          have hxp := HXP.out
          simp only [List.length_append, List.length_cons, List.length_nil] at hlen
          have hsn : (E.prints (E.Fo.cons c kc (E.Fo.cons d kd .nil))).length = 2 := by rw [E.prints_len]; exact hcount
          obtain ⟨gx, hAx, hgx, hgl, hyc⟩ := hW.out.cells (by simp [E.prints])
          subst hAx
          have y0 : wr.cell? ⟨gx, 0, none⟩ = some (.string ⟨(E.prT c kc).toArray⟩) := hyc 0 (by rw [hsn]; decide)
          have y1 : wr.cell? ⟨gx, 1, none⟩ = some (.string ⟨(E.prT d kd).toArray⟩) := hyc 1 (by rw [hsn]; decide)
          obtain ⟨Y0, hY0⟩ : ∃ Y : ByteArray, Y = ⟨(E.prT c kc).toArray⟩ := ⟨_, rfl⟩
          rw [← hY0] at y0
          have zY0 : Y0.size ≤ 9000000 := by rw [hY0]; show (E.prT c kc).toArray.size ≤ _; rw [List.size_toArray]; omega
          obtain ⟨Y1, hY1⟩ : ∃ Y : ByteArray, Y = ⟨(E.prT d kd).toArray⟩ := ⟨_, rfl⟩
          rw [← hY1] at y1
          have zY1 : Y1.size ≤ 9000000 := by rw [hY1]; show (E.prT d kd).toArray.size ≤ _; rw [List.size_toArray]; omega
          have htl0 : tl = 0 := by rw [HTL.out, (E.snd3 hsnd (Or.inl kx)).2.2.2.2.1]; rfl
          have hul0 : ul = 0 := by rw [HUL.out, (E.snd3 hsnd (Or.inl kx)).2.2.2.2.2]; rfl
          have HS : Hid ((⟨(E.prT x (E.Fo.cons c kc (E.Fo.cons d kd .nil))).toArray⟩ : ByteArray) = (⟨#[40]⟩ : ByteArray) ++ Y0 ++ (⟨#[32]⟩ : ByteArray) ++ Y1 ++ (⟨#[41]⟩ : ByteArray)) := hid (ba_of (by
            rw [hform]
            simp [hY0, hY1]))
          have q1 : ((⟨#[40]⟩ : ByteArray) ++ Y0).size ≤ 9000001 := by rw [ByteArray.size_append]; show ((⟨#[40]⟩ : ByteArray)).size + Y0.size ≤ _; have : ((⟨#[40]⟩ : ByteArray)).size = 1 := rfl; omega
          have q2 : ((⟨#[40]⟩ : ByteArray) ++ Y0 ++ (⟨#[32]⟩ : ByteArray)).size ≤ 9000002 := by rw [ByteArray.size_append]; show ((⟨#[40]⟩ : ByteArray) ++ Y0).size + 1 ≤ _; omega
          have q3 : ((⟨#[40]⟩ : ByteArray) ++ Y0 ++ (⟨#[32]⟩ : ByteArray) ++ Y1).size ≤ 18000002 := by rw [ByteArray.size_append]; show ((⟨#[40]⟩ : ByteArray) ++ Y0 ++ (⟨#[32]⟩ : ByteArray)).size + Y1.size ≤ _; omega
          have q4 : ((⟨#[40]⟩ : ByteArray) ++ Y0 ++ (⟨#[32]⟩ : ByteArray) ++ Y1 ++ (⟨#[41]⟩ : ByteArray)).size ≤ 18000003 := by rw [ByteArray.size_append]; show ((⟨#[40]⟩ : ByteArray) ++ Y0 ++ (⟨#[32]⟩ : ByteArray) ++ Y1).size + 1 ≤ _; omega
          clear hlen hform hxp hyc hm0 hcount hsnd kx hY0 hY1
          subst htl0
          subst hul0
          subst hk
          have cN := fun j => Lib.cell_of_heap NR.out j
          go_wp2
          go_quiet (fail)
          go_wp2
          go_ret
          first | exact ⟨by rw [HS.out] <;> rfl, hBW.out⟩ | exact ⟨by rw [HS.out] <;> rfl, below_drewN hBW.out _⟩
        have nk3 := hk
        clear hk
        by_cases hk : k1 = 4
        · have kx : x.kind = 4 := HK1.out.symm.trans hk
          have hsnd := HSND.out
          have hm0 : E.many x = 2 := (E.many_of kx (by decide) (by decide) (by decide) (E.snd2 hsnd (Or.inr kx)).2.2.2.1).trans rfl
          have hcount : ks.count = 2 := by have := HMN.out; omega
          obtain ⟨c, kc, d, kd, rfl⟩ := E.count2 hcount
          have hform := E.pr_let kx c kc d kd
          have hlen := congrArg List.length hform
          have hxp := HXP.out
          simp only [List.length_append, List.length_cons, List.length_nil] at hlen
          have hsn : (E.prints (E.Fo.cons c kc (E.Fo.cons d kd .nil))).length = 2 := by rw [E.prints_len]; exact hcount
          obtain ⟨gx, hAx, hgx, hgl, hyc⟩ := hW.out.cells (by simp [E.prints])
          subst hAx
          have y0 : wr.cell? ⟨gx, 0, none⟩ = some (.string ⟨(E.prT c kc).toArray⟩) := hyc 0 (by rw [hsn]; decide)
          have y1 : wr.cell? ⟨gx, 1, none⟩ = some (.string ⟨(E.prT d kd).toArray⟩) := hyc 1 (by rw [hsn]; decide)
          obtain ⟨Y0, hY0⟩ : ∃ Y : ByteArray, Y = ⟨(E.prT c kc).toArray⟩ := ⟨_, rfl⟩
          rw [← hY0] at y0
          have zY0 : Y0.size ≤ 9000000 := by rw [hY0]; show (E.prT c kc).toArray.size ≤ _; rw [List.size_toArray]; omega
          obtain ⟨Y1, hY1⟩ : ∃ Y : ByteArray, Y = ⟨(E.prT d kd).toArray⟩ := ⟨_, rfl⟩
          rw [← hY1] at y1
          have zY1 : Y1.size ≤ 9000000 := by rw [hY1]; show (E.prT d kd).toArray.size ≤ _; rw [List.size_toArray]; omega
          have hpt := (E.snd2 hsnd (Or.inr kx)).2.1
          have htl0 : (0 : Int) < (tl : Int) := by
            have := HTL.out
            have h0 : x.t ≠ [] := E.plain_ne hpt
            have := List.length_pos_iff.2 h0
            omega
          have hTS := E.tyPL hpt HP1.out.st HP1.out.lt
          have HTP := hid (fun (W : World) (h : Below w.heap.size w W) => rtprint_any x.t hpt HP1.out.st _ W ((HTT.out.below h).mono h.size))
          obtain ⟨TT, hTT⟩ : ∃ Y : ByteArray, Y = ⟨(L.tyP x.t).toArray⟩ := ⟨_, rfl⟩
          rw [← hTT] at HTP
          have zTT : TT.size ≤ 18000 := by rw [hTT]; show (L.tyP x.t).toArray.size ≤ _; rw [List.size_toArray]; exact hTS
          have hul0 : ul = 0 := by rw [HUL.out, (E.snd2 hsnd (Or.inr kx)).2.2.2.2.2]; rfl
          have HS : Hid ((⟨(E.prT x (E.Fo.cons c kc (E.Fo.cons d kd .nil))).toArray⟩ : ByteArray) = (⟨#[40, 108, 101, 116, 32]⟩ : ByteArray) ++ s3 ++ (⟨#[58, 32]⟩ : ByteArray) ++ TT ++ (⟨#[32, 61, 32]⟩ : ByteArray) ++ Y0 ++ (⟨#[32, 105, 110, 32]⟩ : ByteArray) ++ Y1 ++ (⟨#[41]⟩ : ByteArray)) := hid (ba_of (by
            rw [hform, ← HS3.out]
            simp [hY0, hY1, hTT]))
          have q1 : ((⟨#[40, 108, 101, 116, 32]⟩ : ByteArray) ++ s3).size ≤ 205 := by rw [ByteArray.size_append]; show ((⟨#[40, 108, 101, 116, 32]⟩ : ByteArray)).size + s3.size ≤ _; have : ((⟨#[40, 108, 101, 116, 32]⟩ : ByteArray)).size = 5 := rfl; omega
          have q2 : ((⟨#[40, 108, 101, 116, 32]⟩ : ByteArray) ++ s3 ++ (⟨#[58, 32]⟩ : ByteArray)).size ≤ 207 := by rw [ByteArray.size_append]; show ((⟨#[40, 108, 101, 116, 32]⟩ : ByteArray) ++ s3).size + 2 ≤ _; omega
          have q3 : ((⟨#[40, 108, 101, 116, 32]⟩ : ByteArray) ++ s3 ++ (⟨#[58, 32]⟩ : ByteArray) ++ TT).size ≤ 18207 := by rw [ByteArray.size_append]; show ((⟨#[40, 108, 101, 116, 32]⟩ : ByteArray) ++ s3 ++ (⟨#[58, 32]⟩ : ByteArray)).size + TT.size ≤ _; omega
          have q4 : ((⟨#[40, 108, 101, 116, 32]⟩ : ByteArray) ++ s3 ++ (⟨#[58, 32]⟩ : ByteArray) ++ TT ++ (⟨#[32, 61, 32]⟩ : ByteArray)).size ≤ 18210 := by rw [ByteArray.size_append]; show ((⟨#[40, 108, 101, 116, 32]⟩ : ByteArray) ++ s3 ++ (⟨#[58, 32]⟩ : ByteArray) ++ TT).size + 3 ≤ _; omega
          have q5 : ((⟨#[40, 108, 101, 116, 32]⟩ : ByteArray) ++ s3 ++ (⟨#[58, 32]⟩ : ByteArray) ++ TT ++ (⟨#[32, 61, 32]⟩ : ByteArray) ++ Y0).size ≤ 9018210 := by rw [ByteArray.size_append]; show ((⟨#[40, 108, 101, 116, 32]⟩ : ByteArray) ++ s3 ++ (⟨#[58, 32]⟩ : ByteArray) ++ TT ++ (⟨#[32, 61, 32]⟩ : ByteArray)).size + Y0.size ≤ _; omega
          have q6 : ((⟨#[40, 108, 101, 116, 32]⟩ : ByteArray) ++ s3 ++ (⟨#[58, 32]⟩ : ByteArray) ++ TT ++ (⟨#[32, 61, 32]⟩ : ByteArray) ++ Y0 ++ (⟨#[32, 105, 110, 32]⟩ : ByteArray)).size ≤ 9018214 := by rw [ByteArray.size_append]; show ((⟨#[40, 108, 101, 116, 32]⟩ : ByteArray) ++ s3 ++ (⟨#[58, 32]⟩ : ByteArray) ++ TT ++ (⟨#[32, 61, 32]⟩ : ByteArray) ++ Y0).size + 4 ≤ _; omega
          have q7 : ((⟨#[40, 108, 101, 116, 32]⟩ : ByteArray) ++ s3 ++ (⟨#[58, 32]⟩ : ByteArray) ++ TT ++ (⟨#[32, 61, 32]⟩ : ByteArray) ++ Y0 ++ (⟨#[32, 105, 110, 32]⟩ : ByteArray) ++ Y1).size ≤ 18018214 := by rw [ByteArray.size_append]; show ((⟨#[40, 108, 101, 116, 32]⟩ : ByteArray) ++ s3 ++ (⟨#[58, 32]⟩ : ByteArray) ++ TT ++ (⟨#[32, 61, 32]⟩ : ByteArray) ++ Y0 ++ (⟨#[32, 105, 110, 32]⟩ : ByteArray)).size + Y1.size ≤ _; omega
          have q8 : ((⟨#[40, 108, 101, 116, 32]⟩ : ByteArray) ++ s3 ++ (⟨#[58, 32]⟩ : ByteArray) ++ TT ++ (⟨#[32, 61, 32]⟩ : ByteArray) ++ Y0 ++ (⟨#[32, 105, 110, 32]⟩ : ByteArray) ++ Y1 ++ (⟨#[41]⟩ : ByteArray)).size ≤ 18018215 := by rw [ByteArray.size_append]; show ((⟨#[40, 108, 101, 116, 32]⟩ : ByteArray) ++ s3 ++ (⟨#[58, 32]⟩ : ByteArray) ++ TT ++ (⟨#[32, 61, 32]⟩ : ByteArray) ++ Y0 ++ (⟨#[32, 105, 110, 32]⟩ : ByteArray) ++ Y1).size + 1 ≤ _; omega
          clear hlen hform hxp hyc hm0 hcount hsnd kx hY0 hY1 hTT hpt hTS
          subst hul0
          subst hk
          have cN := fun j => Lib.cell_of_heap NR.out j
          go_wp2_with fail
          refine (HTP.out _ hBW.out).mono ?_
          rintro e w2 ⟨rfl, h2⟩
          have Nw2 := hid ((h2.block _ (by have := heap_lt NR.out; omega)).trans NR.out)
          have Bw2 := hid (hBW.out.trans (h2.mono hBW.out.size))
          replace y0 := (h2.cell (p := ⟨gx, 0, none⟩) hgl).trans y0
          replace y1 := (h2.cell (p := ⟨gx, 1, none⟩) hgl).trans y1
          replace hgl : gx < w2.heap.size := by have := h2.size; omega
          clear cN h2
          have cN := fun j => Lib.cell_of_heap Nw2.out j
          go_wp2
          go_quiet (fail)
          go_wp2
          go_ret
          first | exact ⟨by rw [HS.out] <;> rfl, Bw2.out⟩ | exact ⟨by rw [HS.out] <;> rfl, below_drewN Bw2.out _⟩
        have nk4 := hk
        clear hk
        by_cases hk : k1 = 5
        · have kx : x.kind = 5 := HK1.out.symm.trans hk
          have hsnd := HSND.out
          have hm0 : E.many x = 2 := (E.many_of kx (by decide) (by decide) (by decide) (E.snd5 hsnd kx).2.2.2.2.1).trans rfl
          have hcount : ks.count = 2 := by have := HMN.out; omega
          obtain ⟨c, kc, d, kd, rfl⟩ := E.count2 hcount
          have hform := E.pr_rec kx c kc d kd
          have hlen := congrArg List.length hform
          have hxp := HXP.out
          simp only [List.length_append, List.length_cons, List.length_nil] at hlen
          have hsn : (E.prints (E.Fo.cons c kc (E.Fo.cons d kd .nil))).length = 2 := by rw [E.prints_len]; exact hcount
          obtain ⟨gx, hAx, hgx, hgl, hyc⟩ := hW.out.cells (by simp [E.prints])
          subst hAx
          have y0 : wr.cell? ⟨gx, 0, none⟩ = some (.string ⟨(E.prT c kc).toArray⟩) := hyc 0 (by rw [hsn]; decide)
          have y1 : wr.cell? ⟨gx, 1, none⟩ = some (.string ⟨(E.prT d kd).toArray⟩) := hyc 1 (by rw [hsn]; decide)
          obtain ⟨Y0, hY0⟩ : ∃ Y : ByteArray, Y = ⟨(E.prT c kc).toArray⟩ := ⟨_, rfl⟩
          rw [← hY0] at y0
          have zY0 : Y0.size ≤ 9000000 := by rw [hY0]; show (E.prT c kc).toArray.size ≤ _; rw [List.size_toArray]; omega
          obtain ⟨Y1, hY1⟩ : ∃ Y : ByteArray, Y = ⟨(E.prT d kd).toArray⟩ := ⟨_, rfl⟩
          rw [← hY1] at y1
          have zY1 : Y1.size ≤ 9000000 := by rw [hY1]; show (E.prT d kd).toArray.size ≤ _; rw [List.size_toArray]; omega
          have hpt := (E.snd5 hsnd kx).2.2.1
          have htl0 : (0 : Int) < (tl : Int) := by
            have := HTL.out
            have h0 : x.t ≠ [] := E.plain_ne hpt
            have := List.length_pos_iff.2 h0
            omega
          have hTS := E.tyPL hpt HP1.out.st HP1.out.lt
          have HTP := hid (fun (W : World) (h : Below w.heap.size w W) => rtprint_any x.t hpt HP1.out.st _ W ((HTT.out.below h).mono h.size))
          obtain ⟨TT, hTT⟩ : ∃ Y : ByteArray, Y = ⟨(L.tyP x.t).toArray⟩ := ⟨_, rfl⟩
          rw [← hTT] at HTP
          have zTT : TT.size ≤ 18000 := by rw [hTT]; show (L.tyP x.t).toArray.size ≤ _; rw [List.size_toArray]; exact hTS
          have hpu := (E.snd5 hsnd kx).2.2.2.1
          have hul0 : (0 : Int) < (ul : Int) := by
            have := HUL.out
            have h0 : x.u ≠ [] := E.plain_ne hpu
            have := List.length_pos_iff.2 h0
            omega
          have hUS := E.tyPL hpu HP1.out.su HP1.out.lu
          have HUP := hid (fun (W : World) (h : Below w.heap.size w W) => rtprint_any x.u hpu HP1.out.su _ W ((HUU.out.below h).mono h.size))
          obtain ⟨UU, hUU⟩ : ∃ Y : ByteArray, Y = ⟨(L.tyP x.u).toArray⟩ := ⟨_, rfl⟩
          rw [← hUU] at HUP
          have zUU : UU.size ≤ 18000 := by rw [hUU]; show (L.tyP x.u).toArray.size ≤ _; rw [List.size_toArray]; exact hUS
          have HS : Hid ((⟨(E.prT x (E.Fo.cons c kc (E.Fo.cons d kd .nil))).toArray⟩ : ByteArray) = (⟨#[40, 114, 101, 99, 32]⟩ : ByteArray) ++ s2 ++ (⟨#[32, 40]⟩ : ByteArray) ++ s3 ++ (⟨#[58, 32]⟩ : ByteArray) ++ TT ++ (⟨#[41, 58, 32]⟩ : ByteArray) ++ UU ++ (⟨#[32, 61, 32]⟩ : ByteArray) ++ Y0 ++ (⟨#[32, 105, 110, 32]⟩ : ByteArray) ++ Y1 ++ (⟨#[41]⟩ : ByteArray)) := hid (ba_of (by
            rw [hform, ← HS2.out, ← HS3.out]
            simp [hY0, hY1, hTT, hUU]))
          have q1 : ((⟨#[40, 114, 101, 99, 32]⟩ : ByteArray) ++ s2).size ≤ 205 := by rw [ByteArray.size_append]; show ((⟨#[40, 114, 101, 99, 32]⟩ : ByteArray)).size + s2.size ≤ _; have : ((⟨#[40, 114, 101, 99, 32]⟩ : ByteArray)).size = 5 := rfl; omega
          have q2 : ((⟨#[40, 114, 101, 99, 32]⟩ : ByteArray) ++ s2 ++ (⟨#[32, 40]⟩ : ByteArray)).size ≤ 207 := by rw [ByteArray.size_append]; show ((⟨#[40, 114, 101, 99, 32]⟩ : ByteArray) ++ s2).size + 2 ≤ _; omega
          have q3 : ((⟨#[40, 114, 101, 99, 32]⟩ : ByteArray) ++ s2 ++ (⟨#[32, 40]⟩ : ByteArray) ++ s3).size ≤ 407 := by rw [ByteArray.size_append]; show ((⟨#[40, 114, 101, 99, 32]⟩ : ByteArray) ++ s2 ++ (⟨#[32, 40]⟩ : ByteArray)).size + s3.size ≤ _; omega
          have q4 : ((⟨#[40, 114, 101, 99, 32]⟩ : ByteArray) ++ s2 ++ (⟨#[32, 40]⟩ : ByteArray) ++ s3 ++ (⟨#[58, 32]⟩ : ByteArray)).size ≤ 409 := by rw [ByteArray.size_append]; show ((⟨#[40, 114, 101, 99, 32]⟩ : ByteArray) ++ s2 ++ (⟨#[32, 40]⟩ : ByteArray) ++ s3).size + 2 ≤ _; omega
          have q5 : ((⟨#[40, 114, 101, 99, 32]⟩ : ByteArray) ++ s2 ++ (⟨#[32, 40]⟩ : ByteArray) ++ s3 ++ (⟨#[58, 32]⟩ : ByteArray) ++ TT).size ≤ 18409 := by rw [ByteArray.size_append]; show ((⟨#[40, 114, 101, 99, 32]⟩ : ByteArray) ++ s2 ++ (⟨#[32, 40]⟩ : ByteArray) ++ s3 ++ (⟨#[58, 32]⟩ : ByteArray)).size + TT.size ≤ _; omega
          have q6 : ((⟨#[40, 114, 101, 99, 32]⟩ : ByteArray) ++ s2 ++ (⟨#[32, 40]⟩ : ByteArray) ++ s3 ++ (⟨#[58, 32]⟩ : ByteArray) ++ TT ++ (⟨#[41, 58, 32]⟩ : ByteArray)).size ≤ 18412 := by rw [ByteArray.size_append]; show ((⟨#[40, 114, 101, 99, 32]⟩ : ByteArray) ++ s2 ++ (⟨#[32, 40]⟩ : ByteArray) ++ s3 ++ (⟨#[58, 32]⟩ : ByteArray) ++ TT).size + 3 ≤ _; omega
          have q7 : ((⟨#[40, 114, 101, 99, 32]⟩ : ByteArray) ++ s2 ++ (⟨#[32, 40]⟩ : ByteArray) ++ s3 ++ (⟨#[58, 32]⟩ : ByteArray) ++ TT ++ (⟨#[41, 58, 32]⟩ : ByteArray) ++ UU).size ≤ 36412 := by rw [ByteArray.size_append]; show ((⟨#[40, 114, 101, 99, 32]⟩ : ByteArray) ++ s2 ++ (⟨#[32, 40]⟩ : ByteArray) ++ s3 ++ (⟨#[58, 32]⟩ : ByteArray) ++ TT ++ (⟨#[41, 58, 32]⟩ : ByteArray)).size + UU.size ≤ _; omega
          have q8 : ((⟨#[40, 114, 101, 99, 32]⟩ : ByteArray) ++ s2 ++ (⟨#[32, 40]⟩ : ByteArray) ++ s3 ++ (⟨#[58, 32]⟩ : ByteArray) ++ TT ++ (⟨#[41, 58, 32]⟩ : ByteArray) ++ UU ++ (⟨#[32, 61, 32]⟩ : ByteArray)).size ≤ 36415 := by rw [ByteArray.size_append]; show ((⟨#[40, 114, 101, 99, 32]⟩ : ByteArray) ++ s2 ++ (⟨#[32, 40]⟩ : ByteArray) ++ s3 ++ (⟨#[58, 32]⟩ : ByteArray) ++ TT ++ (⟨#[41, 58, 32]⟩ : ByteArray) ++ UU).size + 3 ≤ _; omega
          have q9 : ((⟨#[40, 114, 101, 99, 32]⟩ : ByteArray) ++ s2 ++ (⟨#[32, 40]⟩ : ByteArray) ++ s3 ++ (⟨#[58, 32]⟩ : ByteArray) ++ TT ++ (⟨#[41, 58, 32]⟩ : ByteArray) ++ UU ++ (⟨#[32, 61, 32]⟩ : ByteArray) ++ Y0).size ≤ 9036415 := by rw [ByteArray.size_append]; show ((⟨#[40, 114, 101, 99, 32]⟩ : ByteArray) ++ s2 ++ (⟨#[32, 40]⟩ : ByteArray) ++ s3 ++ (⟨#[58, 32]⟩ : ByteArray) ++ TT ++ (⟨#[41, 58, 32]⟩ : ByteArray) ++ UU ++ (⟨#[32, 61, 32]⟩ : ByteArray)).size + Y0.size ≤ _; omega
          have q10 : ((⟨#[40, 114, 101, 99, 32]⟩ : ByteArray) ++ s2 ++ (⟨#[32, 40]⟩ : ByteArray) ++ s3 ++ (⟨#[58, 32]⟩ : ByteArray) ++ TT ++ (⟨#[41, 58, 32]⟩ : ByteArray) ++ UU ++ (⟨#[32, 61, 32]⟩ : ByteArray) ++ Y0 ++ (⟨#[32, 105, 110, 32]⟩ : ByteArray)).size ≤ 9036419 := by rw [ByteArray.size_append]; show ((⟨#[40, 114, 101, 99, 32]⟩ : ByteArray) ++ s2 ++ (⟨#[32, 40]⟩ : ByteArray) ++ s3 ++ (⟨#[58, 32]⟩ : ByteArray) ++ TT ++ (⟨#[41, 58, 32]⟩ : ByteArray) ++ UU ++ (⟨#[32, 61, 32]⟩ : ByteArray) ++ Y0).size + 4 ≤ _; omega
          have q11 : ((⟨#[40, 114, 101, 99, 32]⟩ : ByteArray) ++ s2 ++ (⟨#[32, 40]⟩ : ByteArray) ++ s3 ++ (⟨#[58, 32]⟩ : ByteArray) ++ TT ++ (⟨#[41, 58, 32]⟩ : ByteArray) ++ UU ++ (⟨#[32, 61, 32]⟩ : ByteArray) ++ Y0 ++ (⟨#[32, 105, 110, 32]⟩ : ByteArray) ++ Y1).size ≤ 18036419 := by rw [ByteArray.size_append]; show ((⟨#[40, 114, 101, 99, 32]⟩ : ByteArray) ++ s2 ++ (⟨#[32, 40]⟩ : ByteArray) ++ s3 ++ (⟨#[58, 32]⟩ : ByteArray) ++ TT ++ (⟨#[41, 58, 32]⟩ : ByteArray) ++ UU ++ (⟨#[32, 61, 32]⟩ : ByteArray) ++ Y0 ++ (⟨#[32, 105, 110, 32]⟩ : ByteArray)).size + Y1.size ≤ _; omega
          have q12 : ((⟨#[40, 114, 101, 99, 32]⟩ : ByteArray) ++ s2 ++ (⟨#[32, 40]⟩ : ByteArray) ++ s3 ++ (⟨#[58, 32]⟩ : ByteArray) ++ TT ++ (⟨#[41, 58, 32]⟩ : ByteArray) ++ UU ++ (⟨#[32, 61, 32]⟩ : ByteArray) ++ Y0 ++ (⟨#[32, 105, 110, 32]⟩ : ByteArray) ++ Y1 ++ (⟨#[41]⟩ : ByteArray)).size ≤ 18036420 := by rw [ByteArray.size_append]; show ((⟨#[40, 114, 101, 99, 32]⟩ : ByteArray) ++ s2 ++ (⟨#[32, 40]⟩ : ByteArray) ++ s3 ++ (⟨#[58, 32]⟩ : ByteArray) ++ TT ++ (⟨#[41, 58, 32]⟩ : ByteArray) ++ UU ++ (⟨#[32, 61, 32]⟩ : ByteArray) ++ Y0 ++ (⟨#[32, 105, 110, 32]⟩ : ByteArray) ++ Y1).size + 1 ≤ _; omega
          clear hlen hform hxp hyc hm0 hcount hsnd kx hY0 hY1 hTT hUU hpt hTS hpu hUS
          subst hk
          have cN := fun j => Lib.cell_of_heap NR.out j
          go_wp2_with fail
          refine (HTP.out _ hBW.out).mono ?_
          rintro e w2 ⟨rfl, h2⟩
          have Nw2 := hid ((h2.block _ (by have := heap_lt NR.out; omega)).trans NR.out)
          have Bw2 := hid (hBW.out.trans (h2.mono hBW.out.size))
          replace y0 := (h2.cell (p := ⟨gx, 0, none⟩) hgl).trans y0
          replace y1 := (h2.cell (p := ⟨gx, 1, none⟩) hgl).trans y1
          replace hgl : gx < w2.heap.size := by have := h2.size; omega
          clear cN h2
          have cN := fun j => Lib.cell_of_heap Nw2.out j
          go_wp2_with fail
          refine (HUP.out _ Bw2.out).mono ?_
          rintro e w3 ⟨rfl, h2⟩
          have Nw3 := hid ((h2.block _ (by have := heap_lt Nw2.out; omega)).trans Nw2.out)
          have Bw3 := hid (Bw2.out.trans (h2.mono Bw2.out.size))
          replace y0 := (h2.cell (p := ⟨gx, 0, none⟩) hgl).trans y0
          replace y1 := (h2.cell (p := ⟨gx, 1, none⟩) hgl).trans y1
          replace hgl : gx < w3.heap.size := by have := h2.size; omega
          clear cN h2
          have cN := fun j => Lib.cell_of_heap Nw3.out j
          go_wp2
          go_quiet (fail)
          go_wp2
          go_ret
          first | exact ⟨by rw [HS.out] <;> rfl, Bw3.out⟩ | exact ⟨by rw [HS.out] <;> rfl, below_drewN Bw3.out _⟩
        have nk5 := hk
        clear hk
        by_cases hk : k1 = 6
        · have kx : x.kind = 6 := HK1.out.symm.trans hk
          have hsnd := HSND.out
          have hm0 : E.many x = 3 := (E.many_of kx (by decide) (by decide) (by decide) (E.snd3 hsnd (Or.inr kx)).2.2.1).trans rfl
          have hcount : ks.count = 3 := by have := HMN.out; omega
          obtain ⟨c, kc, d, kd, e, ke, rfl⟩ := E.count3 hcount
          have hform := E.pr_if kx c kc d kd e ke
          have hlen := congrArg List.length hform
          have hxp := HXP.out
          simp only [List.length_append, List.length_cons, List.length_nil] at hlen
          have hsn : (E.prints (E.Fo.cons c kc (E.Fo.cons d kd (E.Fo.cons e ke .nil)))).length = 3 := by rw [E.prints_len]; exact hcount
          obtain ⟨gx, hAx, hgx, hgl, hyc⟩ := hW.out.cells (by simp [E.prints])
          subst hAx
          have y0 : wr.cell? ⟨gx, 0, none⟩ = some (.string ⟨(E.prT c kc).toArray⟩) := hyc 0 (by rw [hsn]; decide)
          have y1 : wr.cell? ⟨gx, 1, none⟩ = some (.string ⟨(E.prT d kd).toArray⟩) := hyc 1 (by rw [hsn]; decide)
          have y2 : wr.cell? ⟨gx, 2, none⟩ = some (.string ⟨(E.prT e ke).toArray⟩) := hyc 2 (by rw [hsn]; decide)
          obtain ⟨Y0, hY0⟩ : ∃ Y : ByteArray, Y = ⟨(E.prT c kc).toArray⟩ := ⟨_, rfl⟩
          rw [← hY0] at y0
          have zY0 : Y0.size ≤ 9000000 := by rw [hY0]; show (E.prT c kc).toArray.size ≤ _; rw [List.size_toArray]; omega
          obtain ⟨Y1, hY1⟩ : ∃ Y : ByteArray, Y = ⟨(E.prT d kd).toArray⟩ := ⟨_, rfl⟩
          rw [← hY1] at y1
          have zY1 : Y1.size ≤ 9000000 := by rw [hY1]; show (E.prT d kd).toArray.size ≤ _; rw [List.size_toArray]; omega
          obtain ⟨Y2, hY2⟩ : ∃ Y : ByteArray, Y = ⟨(E.prT e ke).toArray⟩ := ⟨_, rfl⟩
          rw [← hY2] at y2
          have zY2 : Y2.size ≤ 9000000 := by rw [hY2]; show (E.prT e ke).toArray.size ≤ _; rw [List.size_toArray]; omega
          have htl0 : tl = 0 := by rw [HTL.out, (E.snd3 hsnd (Or.inr kx)).2.2.2.2.1]; rfl
          have hul0 : ul = 0 := by rw [HUL.out, (E.snd3 hsnd (Or.inr kx)).2.2.2.2.2]; rfl
          have HS : Hid ((⟨(E.prT x (E.Fo.cons c kc (E.Fo.cons d kd (E.Fo.cons e ke .nil)))).toArray⟩ : ByteArray) = (⟨#[40, 105, 102, 32]⟩ : ByteArray) ++ Y0 ++ (⟨#[32, 116, 104, 101, 110, 32]⟩ : ByteArray) ++ Y1 ++ (⟨#[32, 101, 108, 115, 101, 32]⟩ : ByteArray) ++ Y2 ++ (⟨#[41]⟩ : ByteArray)) := hid (ba_of (by
            rw [hform]
            simp [hY0, hY1, hY2]))
          have q1 : ((⟨#[40, 105, 102, 32]⟩ : ByteArray) ++ Y0).size ≤ 9000004 := by rw [ByteArray.size_append]; show ((⟨#[40, 105, 102, 32]⟩ : ByteArray)).size + Y0.size ≤ _; have : ((⟨#[40, 105, 102, 32]⟩ : ByteArray)).size = 4 := rfl; omega
          have q2 : ((⟨#[40, 105, 102, 32]⟩ : ByteArray) ++ Y0 ++ (⟨#[32, 116, 104, 101, 110, 32]⟩ : ByteArray)).size ≤ 9000010 := by rw [ByteArray.size_append]; show ((⟨#[40, 105, 102, 32]⟩ : ByteArray) ++ Y0).size + 6 ≤ _; omega
          have q3 : ((⟨#[40, 105, 102, 32]⟩ : ByteArray) ++ Y0 ++ (⟨#[32, 116, 104, 101, 110, 32]⟩ : ByteArray) ++ Y1).size ≤ 18000010 := by rw [ByteArray.size_append]; show ((⟨#[40, 105, 102, 32]⟩ : ByteArray) ++ Y0 ++ (⟨#[32, 116, 104, 101, 110, 32]⟩ : ByteArray)).size + Y1.size ≤ _; omega
          have q4 : ((⟨#[40, 105, 102, 32]⟩ : ByteArray) ++ Y0 ++ (⟨#[32, 116, 104, 101, 110, 32]⟩ : ByteArray) ++ Y1 ++ (⟨#[32, 101, 108, 115, 101, 32]⟩ : ByteArray)).size ≤ 18000016 := by rw [ByteArray.size_append]; show ((⟨#[40, 105, 102, 32]⟩ : ByteArray) ++ Y0 ++ (⟨#[32, 116, 104, 101, 110, 32]⟩ : ByteArray) ++ Y1).size + 6 ≤ _; omega
          have q5 : ((⟨#[40, 105, 102, 32]⟩ : ByteArray) ++ Y0 ++ (⟨#[32, 116, 104, 101, 110, 32]⟩ : ByteArray) ++ Y1 ++ (⟨#[32, 101, 108, 115, 101, 32]⟩ : ByteArray) ++ Y2).size ≤ 27000016 := by rw [ByteArray.size_append]; show ((⟨#[40, 105, 102, 32]⟩ : ByteArray) ++ Y0 ++ (⟨#[32, 116, 104, 101, 110, 32]⟩ : ByteArray) ++ Y1 ++ (⟨#[32, 101, 108, 115, 101, 32]⟩ : ByteArray)).size + Y2.size ≤ _; omega
          have q6 : ((⟨#[40, 105, 102, 32]⟩ : ByteArray) ++ Y0 ++ (⟨#[32, 116, 104, 101, 110, 32]⟩ : ByteArray) ++ Y1 ++ (⟨#[32, 101, 108, 115, 101, 32]⟩ : ByteArray) ++ Y2 ++ (⟨#[41]⟩ : ByteArray)).size ≤ 27000017 := by rw [ByteArray.size_append]; show ((⟨#[40, 105, 102, 32]⟩ : ByteArray) ++ Y0 ++ (⟨#[32, 116, 104, 101, 110, 32]⟩ : ByteArray) ++ Y1 ++ (⟨#[32, 101, 108, 115, 101, 32]⟩ : ByteArray) ++ Y2).size + 1 ≤ _; omega
          clear hlen hform hxp hyc hm0 hcount hsnd kx hY0 hY1 hY2
          subst htl0
          subst hul0
          subst hk
          have cN := fun j => Lib.cell_of_heap NR.out j
          go_wp2
          go_quiet (fail)
          go_wp2
          go_ret
          first | exact ⟨by rw [HS.out] <;> rfl, hBW.out⟩ | exact ⟨by rw [HS.out] <;> rfl, below_drewN hBW.out _⟩
        have nk6 := hk
        clear hk
        by_cases hk : k1 = 8
        · have kx : x.kind = 8 := HK1.out.symm.trans hk
          have hsnd := HSND.out
          have hm0 : E.many x = 1 := (E.many_of kx (by decide) (by decide) (by decide) (E.snd8 hsnd kx).2.2.1).trans rfl
          have hcount : ks.count = 1 := by have := HMN.out; omega
          obtain ⟨c, kc, rfl⟩ := E.count1 hcount
          have hform := E.pr_branch kx c kc
          have hlen := congrArg List.length hform
          have hxp := HXP.out
          simp only [List.length_append, List.length_cons] at hlen
          have hsn : (E.prints (E.Fo.cons c kc .nil)).length = 1 := by rw [E.prints_len]; exact hcount
          obtain ⟨gx, hAx, hgx, hgl, hyc⟩ := hW.out.cells (by simp [E.prints])
          subst hAx
          have y0 : wr.cell? ⟨gx, 0, none⟩ = some (.string ⟨(E.prT c kc).toArray⟩) := hyc 0 (by rw [hsn]; decide)
          obtain ⟨Y0, hY0⟩ : ∃ Y : ByteArray, Y = ⟨(E.prT c kc).toArray⟩ := ⟨_, rfl⟩
          rw [← hY0] at y0
          have zY0 : Y0.size ≤ 9000000 := by rw [hY0]; show (E.prT c kc).toArray.size ≤ _; rw [List.size_toArray]; omega
          have htl0 : tl = 0 := by rw [HTL.out, (E.snd8 hsnd kx).2.2.2.2.1]; rfl
          have hul0 : ul = 0 := by rw [HUL.out, (E.snd8 hsnd kx).2.2.2.2.2]; rfl
          have HS : Hid ((⟨(E.prT x (E.Fo.cons c kc .nil)).toArray⟩ : ByteArray) = s1 ++ (⟨#[32]⟩ : ByteArray) ++ s3 ++ (⟨#[32, 45, 62, 32]⟩ : ByteArray) ++ Y0) := hid (ba_of (by
            rw [hform, ← HS1.out, ← HS3.out]
            simp [hY0]))
          have q1 : (s1 ++ (⟨#[32]⟩ : ByteArray)).size ≤ 201 := by rw [ByteArray.size_append]; show (s1).size + 1 ≤ _; omega
          have q2 : (s1 ++ (⟨#[32]⟩ : ByteArray) ++ s3).size ≤ 401 := by rw [ByteArray.size_append]; show (s1 ++ (⟨#[32]⟩ : ByteArray)).size + s3.size ≤ _; omega
          have q3 : (s1 ++ (⟨#[32]⟩ : ByteArray) ++ s3 ++ (⟨#[32, 45, 62, 32]⟩ : ByteArray)).size ≤ 405 := by rw [ByteArray.size_append]; show (s1 ++ (⟨#[32]⟩ : ByteArray) ++ s3).size + 4 ≤ _; omega
          have q4 : (s1 ++ (⟨#[32]⟩ : ByteArray) ++ s3 ++ (⟨#[32, 45, 62, 32]⟩ : ByteArray) ++ Y0).size ≤ 9000405 := by rw [ByteArray.size_append]; show (s1 ++ (⟨#[32]⟩ : ByteArray) ++ s3 ++ (⟨#[32, 45, 62, 32]⟩ : ByteArray)).size + Y0.size ≤ _; omega
          clear hlen hform hxp hyc hm0 hcount hsnd kx hY0
          subst htl0
          subst hul0
          subst hk
          have cN := fun j => Lib.cell_of_heap NR.out j
          go_wp2
          go_quiet (fail)
          go_wp2
          go_ret
          first | exact ⟨by rw [HS.out] <;> rfl, hBW.out⟩ | exact ⟨by rw [HS.out] <;> rfl, below_drewN hBW.out _⟩
        have nk8 := hk
        clear hk
        by_cases hk : k1 = 9
        · have kx : x.kind = 9 := HK1.out.symm.trans hk
          have hsnd := HSND.out
          have hm0 : E.many x = 2 := (E.many_of kx (by decide) (by decide) (by decide) (E.snd9 hsnd kx).2.2.1).trans rfl
          have hcount : ks.count = 2 := by have := HMN.out; omega
          obtain ⟨c, kc, d, kd, rfl⟩ := E.count2 hcount
          have hform := E.pr_op kx c kc d kd
          have hlen := congrArg List.length hform
          have hxp := HXP.out
          simp only [List.length_append, List.length_cons, List.length_nil] at hlen
          have hsn : (E.prints (E.Fo.cons c kc (E.Fo.cons d kd .nil))).length = 2 := by rw [E.prints_len]; exact hcount
          obtain ⟨gx, hAx, hgx, hgl, hyc⟩ := hW.out.cells (by simp [E.prints])
          subst hAx
          have y0 : wr.cell? ⟨gx, 0, none⟩ = some (.string ⟨(E.prT c kc).toArray⟩) := hyc 0 (by rw [hsn]; decide)
          have y1 : wr.cell? ⟨gx, 1, none⟩ = some (.string ⟨(E.prT d kd).toArray⟩) := hyc 1 (by rw [hsn]; decide)
          obtain ⟨Y0, hY0⟩ : ∃ Y : ByteArray, Y = ⟨(E.prT c kc).toArray⟩ := ⟨_, rfl⟩
          rw [← hY0] at y0
          have zY0 : Y0.size ≤ 9000000 := by rw [hY0]; show (E.prT c kc).toArray.size ≤ _; rw [List.size_toArray]; omega
          obtain ⟨Y1, hY1⟩ : ∃ Y : ByteArray, Y = ⟨(E.prT d kd).toArray⟩ := ⟨_, rfl⟩
          rw [← hY1] at y1
          have zY1 : Y1.size ≤ 9000000 := by rw [hY1]; show (E.prT d kd).toArray.size ≤ _; rw [List.size_toArray]; omega
          have htl0 : tl = 0 := by rw [HTL.out, (E.snd9 hsnd kx).2.2.2.2.1]; rfl
          have hul0 : ul = 0 := by rw [HUL.out, (E.snd9 hsnd kx).2.2.2.2.2]; rfl
          have HS : Hid ((⟨(E.prT x (E.Fo.cons c kc (E.Fo.cons d kd .nil))).toArray⟩ : ByteArray) = (⟨#[40]⟩ : ByteArray) ++ Y0 ++ (⟨#[32]⟩ : ByteArray) ++ s2 ++ (⟨#[32]⟩ : ByteArray) ++ Y1 ++ (⟨#[41]⟩ : ByteArray)) := hid (ba_of (by
            rw [hform, ← HS2.out]
            simp [hY0, hY1]))
          have q1 : ((⟨#[40]⟩ : ByteArray) ++ Y0).size ≤ 9000001 := by rw [ByteArray.size_append]; show ((⟨#[40]⟩ : ByteArray)).size + Y0.size ≤ _; have : ((⟨#[40]⟩ : ByteArray)).size = 1 := rfl; omega
          have q2 : ((⟨#[40]⟩ : ByteArray) ++ Y0 ++ (⟨#[32]⟩ : ByteArray)).size ≤ 9000002 := by rw [ByteArray.size_append]; show ((⟨#[40]⟩ : ByteArray) ++ Y0).size + 1 ≤ _; omega
          have q3 : ((⟨#[40]⟩ : ByteArray) ++ Y0 ++ (⟨#[32]⟩ : ByteArray) ++ s2).size ≤ 9000202 := by rw [ByteArray.size_append]; show ((⟨#[40]⟩ : ByteArray) ++ Y0 ++ (⟨#[32]⟩ : ByteArray)).size + s2.size ≤ _; omega
          have q4 : ((⟨#[40]⟩ : ByteArray) ++ Y0 ++ (⟨#[32]⟩ : ByteArray) ++ s2 ++ (⟨#[32]⟩ : ByteArray)).size ≤ 9000203 := by rw [ByteArray.size_append]; show ((⟨#[40]⟩ : ByteArray) ++ Y0 ++ (⟨#[32]⟩ : ByteArray) ++ s2).size + 1 ≤ _; omega
          have q5 : ((⟨#[40]⟩ : ByteArray) ++ Y0 ++ (⟨#[32]⟩ : ByteArray) ++ s2 ++ (⟨#[32]⟩ : ByteArray) ++ Y1).size ≤ 18000203 := by rw [ByteArray.size_append]; show ((⟨#[40]⟩ : ByteArray) ++ Y0 ++ (⟨#[32]⟩ : ByteArray) ++ s2 ++ (⟨#[32]⟩ : ByteArray)).size + Y1.size ≤ _; omega
          have q6 : ((⟨#[40]⟩ : ByteArray) ++ Y0 ++ (⟨#[32]⟩ : ByteArray) ++ s2 ++ (⟨#[32]⟩ : ByteArray) ++ Y1 ++ (⟨#[41]⟩ : ByteArray)).size ≤ 18000204 := by rw [ByteArray.size_append]; show ((⟨#[40]⟩ : ByteArray) ++ Y0 ++ (⟨#[32]⟩ : ByteArray) ++ s2 ++ (⟨#[32]⟩ : ByteArray) ++ Y1).size + 1 ≤ _; omega
          clear hlen hform hxp hyc hm0 hcount hsnd kx hY0 hY1
          subst htl0
          subst hul0
          subst hk
          have cN := fun j => Lib.cell_of_heap NR.out j
          go_wp2
          go_quiet (fail)
          go_wp2
          go_ret
          first | exact ⟨by rw [HS.out] <;> rfl, hBW.out⟩ | exact ⟨by rw [HS.out] <;> rfl, below_drewN hBW.out _⟩
        have nk9 := hk
        clear hk
        by_cases hk : k1 = 11
        · have kx : x.kind = 11 := HK1.out.symm.trans hk
          have hsnd := HSND.out
          have hm0 : E.many x = 1 := (E.many_of kx (by decide) (by decide) (by decide) (E.snd11 hsnd kx).2.2.1).trans rfl
          have hcount : ks.count = 1 := by have := HMN.out; omega
          obtain ⟨c, kc, rfl⟩ := E.count1 hcount
          have hform := E.pr_get kx c kc
          have hlen := congrArg List.length hform
          have hxp := HXP.out
          simp only [List.length_append, List.length_cons] at hlen
          have hsn : (E.prints (E.Fo.cons c kc .nil)).length = 1 := by rw [E.prints_len]; exact hcount
          obtain ⟨gx, hAx, hgx, hgl, hyc⟩ := hW.out.cells (by simp [E.prints])
          subst hAx
          have y0 : wr.cell? ⟨gx, 0, none⟩ = some (.string ⟨(E.prT c kc).toArray⟩) := hyc 0 (by rw [hsn]; decide)
          obtain ⟨Y0, hY0⟩ : ∃ Y : ByteArray, Y = ⟨(E.prT c kc).toArray⟩ := ⟨_, rfl⟩
          rw [← hY0] at y0
          have zY0 : Y0.size ≤ 9000000 := by rw [hY0]; show (E.prT c kc).toArray.size ≤ _; rw [List.size_toArray]; omega
          have htl0 : tl = 0 := by rw [HTL.out, (E.snd11 hsnd kx).2.2.2.2.1]; rfl
          have hul0 : ul = 0 := by rw [HUL.out, (E.snd11 hsnd kx).2.2.2.2.2]; rfl
          have HS : Hid ((⟨(E.prT x (E.Fo.cons c kc .nil)).toArray⟩ : ByteArray) = Y0 ++ (⟨#[46]⟩ : ByteArray) ++ s2) := hid (ba_of (by
            rw [hform, ← HS2.out]
            simp [hY0]))
          have q1 : (Y0 ++ (⟨#[46]⟩ : ByteArray)).size ≤ 9000001 := by rw [ByteArray.size_append]; show (Y0).size + 1 ≤ _; omega
          have q2 : (Y0 ++ (⟨#[46]⟩ : ByteArray) ++ s2).size ≤ 9000201 := by rw [ByteArray.size_append]; show (Y0 ++ (⟨#[46]⟩ : ByteArray)).size + s2.size ≤ _; omega
          clear hlen hform hxp hyc hm0 hcount hsnd kx hY0
          subst htl0
          subst hul0
          subst hk
          have cN := fun j => Lib.cell_of_heap NR.out j
          go_wp2
          go_quiet (fail)
          go_wp2
          go_ret
          first | exact ⟨by rw [HS.out] <;> rfl, hBW.out⟩ | exact ⟨by rw [HS.out] <;> rfl, below_drewN hBW.out _⟩
        have nk11 := hk
        clear hk
        by_cases hk : k1 = 12
        · have kx : x.kind = 12 := HK1.out.symm.trans hk
          have hsnd := HSND.out
          have hm0 : E.many x = 1 := (E.many_of kx (by decide) (by decide) (by decide) (E.snd12 hsnd kx).2.2.2.1).trans rfl
          have hcount : ks.count = 1 := by have := HMN.out; omega
          obtain ⟨c, kc, rfl⟩ := E.count1 hcount
          have hform := E.pr_inject kx c kc
          have hlen := congrArg List.length hform
          have hxp := HXP.out
          simp only [List.length_append, List.length_cons, List.length_nil] at hlen
          have hsn : (E.prints (E.Fo.cons c kc .nil)).length = 1 := by rw [E.prints_len]; exact hcount
          obtain ⟨gx, hAx, hgx, hgl, hyc⟩ := hW.out.cells (by simp [E.prints])
          subst hAx
          have y0 : wr.cell? ⟨gx, 0, none⟩ = some (.string ⟨(E.prT c kc).toArray⟩) := hyc 0 (by rw [hsn]; decide)
          obtain ⟨Y0, hY0⟩ : ∃ Y : ByteArray, Y = ⟨(E.prT c kc).toArray⟩ := ⟨_, rfl⟩
          rw [← hY0] at y0
          have zY0 : Y0.size ≤ 9000000 := by rw [hY0]; show (E.prT c kc).toArray.size ≤ _; rw [List.size_toArray]; omega
          have hpt := (E.snd12 hsnd kx).2.1
          have htl0 : (0 : Int) < (tl : Int) := by
            have := HTL.out
            have h0 : x.t ≠ [] := E.plain_ne hpt
            have := List.length_pos_iff.2 h0
            omega
          have hTS := E.tyPL hpt HP1.out.st HP1.out.lt
          have HTP := hid (fun (W : World) (h : Below w.heap.size w W) => rtprint_any x.t hpt HP1.out.st _ W ((HTT.out.below h).mono h.size))
          obtain ⟨TT, hTT⟩ : ∃ Y : ByteArray, Y = ⟨(L.tyP x.t).toArray⟩ := ⟨_, rfl⟩
          rw [← hTT] at HTP
          have zTT : TT.size ≤ 18000 := by rw [hTT]; show (L.tyP x.t).toArray.size ≤ _; rw [List.size_toArray]; exact hTS
          have hul0 : ul = 0 := by rw [HUL.out, (E.snd12 hsnd kx).2.2.2.2.2]; rfl
          have HS : Hid ((⟨(E.prT x (E.Fo.cons c kc .nil)).toArray⟩ : ByteArray) = (⟨#[91]⟩ : ByteArray) ++ s2 ++ (⟨#[32, 61, 32]⟩ : ByteArray) ++ Y0 ++ (⟨#[58, 32]⟩ : ByteArray) ++ TT ++ (⟨#[93]⟩ : ByteArray)) := hid (ba_of (by
            rw [hform, ← HS2.out]
            simp [hY0, hTT]))
          have q1 : ((⟨#[91]⟩ : ByteArray) ++ s2).size ≤ 201 := by rw [ByteArray.size_append]; show ((⟨#[91]⟩ : ByteArray)).size + s2.size ≤ _; have : ((⟨#[91]⟩ : ByteArray)).size = 1 := rfl; omega
          have q2 : ((⟨#[91]⟩ : ByteArray) ++ s2 ++ (⟨#[32, 61, 32]⟩ : ByteArray)).size ≤ 204 := by rw [ByteArray.size_append]; show ((⟨#[91]⟩ : ByteArray) ++ s2).size + 3 ≤ _; omega
          have q3 : ((⟨#[91]⟩ : ByteArray) ++ s2 ++ (⟨#[32, 61, 32]⟩ : ByteArray) ++ Y0).size ≤ 9000204 := by rw [ByteArray.size_append]; show ((⟨#[91]⟩ : ByteArray) ++ s2 ++ (⟨#[32, 61, 32]⟩ : ByteArray)).size + Y0.size ≤ _; omega
          have q4 : ((⟨#[91]⟩ : ByteArray) ++ s2 ++ (⟨#[32, 61, 32]⟩ : ByteArray) ++ Y0 ++ (⟨#[58, 32]⟩ : ByteArray)).size ≤ 9000206 := by rw [ByteArray.size_append]; show ((⟨#[91]⟩ : ByteArray) ++ s2 ++ (⟨#[32, 61, 32]⟩ : ByteArray) ++ Y0).size + 2 ≤ _; omega
          have q5 : ((⟨#[91]⟩ : ByteArray) ++ s2 ++ (⟨#[32, 61, 32]⟩ : ByteArray) ++ Y0 ++ (⟨#[58, 32]⟩ : ByteArray) ++ TT).size ≤ 9018206 := by rw [ByteArray.size_append]; show ((⟨#[91]⟩ : ByteArray) ++ s2 ++ (⟨#[32, 61, 32]⟩ : ByteArray) ++ Y0 ++ (⟨#[58, 32]⟩ : ByteArray)).size + TT.size ≤ _; omega
          have q6 : ((⟨#[91]⟩ : ByteArray) ++ s2 ++ (⟨#[32, 61, 32]⟩ : ByteArray) ++ Y0 ++ (⟨#[58, 32]⟩ : ByteArray) ++ TT ++ (⟨#[93]⟩ : ByteArray)).size ≤ 9018207 := by rw [ByteArray.size_append]; show ((⟨#[91]⟩ : ByteArray) ++ s2 ++ (⟨#[32, 61, 32]⟩ : ByteArray) ++ Y0 ++ (⟨#[58, 32]⟩ : ByteArray) ++ TT).size + 1 ≤ _; omega
          clear hlen hform hxp hyc hm0 hcount hsnd kx hY0 hTT hpt hTS
          subst hul0
          subst hk
          have cN := fun j => Lib.cell_of_heap NR.out j
          go_wp2_with fail
          refine (HTP.out _ hBW.out).mono ?_
          rintro e w2 ⟨rfl, h2⟩
          have Nw2 := hid ((h2.block _ (by have := heap_lt NR.out; omega)).trans NR.out)
          have Bw2 := hid (hBW.out.trans (h2.mono hBW.out.size))
          replace y0 := (h2.cell (p := ⟨gx, 0, none⟩) hgl).trans y0
          replace hgl : gx < w2.heap.size := by have := h2.size; omega
          clear cN h2
          have cN := fun j => Lib.cell_of_heap Nw2.out j
          go_wp2
          go_quiet (fail)
          go_wp2
          go_ret
          first | exact ⟨by rw [HS.out] <;> rfl, Bw2.out⟩ | exact ⟨by rw [HS.out] <;> rfl, below_drewN Bw2.out _⟩
        have nk12 := hk
        clear hk
        by_cases hk : k1 = 13
        · have kx : x.kind = 13 := HK1.out.symm.trans hk
          have hsnd := HSND.out
          have hm0 : E.many x = 1 := (E.many_of kx (by decide) (by decide) (by decide) (E.snd13 hsnd kx).2.2.2.1).trans rfl
          have hcount : ks.count = 1 := by have := HMN.out; omega
          obtain ⟨c, kc, rfl⟩ := E.count1 hcount
          have hform := E.pr_as kx c kc
          have hlen := congrArg List.length hform
          have hxp := HXP.out
          simp only [List.length_append, List.length_cons, List.length_nil] at hlen
          have hsn : (E.prints (E.Fo.cons c kc .nil)).length = 1 := by rw [E.prints_len]; exact hcount
          obtain ⟨gx, hAx, hgx, hgl, hyc⟩ := hW.out.cells (by simp [E.prints])
          subst hAx
          have y0 : wr.cell? ⟨gx, 0, none⟩ = some (.string ⟨(E.prT c kc).toArray⟩) := hyc 0 (by rw [hsn]; decide)
          obtain ⟨Y0, hY0⟩ : ∃ Y : ByteArray, Y = ⟨(E.prT c kc).toArray⟩ := ⟨_, rfl⟩
          rw [← hY0] at y0
          have zY0 : Y0.size ≤ 9000000 := by rw [hY0]; show (E.prT c kc).toArray.size ≤ _; rw [List.size_toArray]; omega
          have hpt := (E.snd13 hsnd kx).1
          have htl0 : (0 : Int) < (tl : Int) := by
            have := HTL.out
            have h0 : x.t ≠ [] := E.plain_ne hpt
            have := List.length_pos_iff.2 h0
            omega
          have hTS := E.tyPL hpt HP1.out.st HP1.out.lt
          have HTP := hid (fun (W : World) (h : Below w.heap.size w W) => rtprint_any x.t hpt HP1.out.st _ W ((HTT.out.below h).mono h.size))
          obtain ⟨TT, hTT⟩ : ∃ Y : ByteArray, Y = ⟨(L.tyP x.t).toArray⟩ := ⟨_, rfl⟩
          rw [← hTT] at HTP
          have zTT : TT.size ≤ 18000 := by rw [hTT]; show (L.tyP x.t).toArray.size ≤ _; rw [List.size_toArray]; exact hTS
          have hul0 : ul = 0 := by rw [HUL.out, (E.snd13 hsnd kx).2.2.2.2.2]; rfl
          have HS : Hid ((⟨(E.prT x (E.Fo.cons c kc .nil)).toArray⟩ : ByteArray) = (⟨#[40]⟩ : ByteArray) ++ Y0 ++ (⟨#[58, 32]⟩ : ByteArray) ++ TT ++ (⟨#[41]⟩ : ByteArray)) := hid (ba_of (by
            rw [hform]
            simp [hY0, hTT]))
          have q1 : ((⟨#[40]⟩ : ByteArray) ++ Y0).size ≤ 9000001 := by rw [ByteArray.size_append]; show ((⟨#[40]⟩ : ByteArray)).size + Y0.size ≤ _; have : ((⟨#[40]⟩ : ByteArray)).size = 1 := rfl; omega
          have q2 : ((⟨#[40]⟩ : ByteArray) ++ Y0 ++ (⟨#[58, 32]⟩ : ByteArray)).size ≤ 9000003 := by rw [ByteArray.size_append]; show ((⟨#[40]⟩ : ByteArray) ++ Y0).size + 2 ≤ _; omega
          have q3 : ((⟨#[40]⟩ : ByteArray) ++ Y0 ++ (⟨#[58, 32]⟩ : ByteArray) ++ TT).size ≤ 9018003 := by rw [ByteArray.size_append]; show ((⟨#[40]⟩ : ByteArray) ++ Y0 ++ (⟨#[58, 32]⟩ : ByteArray)).size + TT.size ≤ _; omega
          have q4 : ((⟨#[40]⟩ : ByteArray) ++ Y0 ++ (⟨#[58, 32]⟩ : ByteArray) ++ TT ++ (⟨#[41]⟩ : ByteArray)).size ≤ 9018004 := by rw [ByteArray.size_append]; show ((⟨#[40]⟩ : ByteArray) ++ Y0 ++ (⟨#[58, 32]⟩ : ByteArray) ++ TT).size + 1 ≤ _; omega
          clear hlen hform hxp hyc hm0 hcount hsnd kx hY0 hTT hpt hTS
          subst hul0
          subst hk
          have cN := fun j => Lib.cell_of_heap NR.out j
          go_wp2_with fail
          refine (HTP.out _ hBW.out).mono ?_
          rintro e w2 ⟨rfl, h2⟩
          have Nw2 := hid ((h2.block _ (by have := heap_lt NR.out; omega)).trans NR.out)
          have Bw2 := hid (hBW.out.trans (h2.mono hBW.out.size))
          replace y0 := (h2.cell (p := ⟨gx, 0, none⟩) hgl).trans y0
          replace hgl : gx < w2.heap.size := by have := h2.size; omega
          clear cN h2
          have cN := fun j => Lib.cell_of_heap Nw2.out j
          go_wp2
          go_ret
          first | exact ⟨by rw [HS.out] <;> rfl, Bw2.out⟩ | exact ⟨by rw [HS.out] <;> rfl, below_drewN Bw2.out _⟩
        have nk13 := hk
        clear hk
        by_cases hk : k1 = 14
        · have kx : x.kind = 14 := HK1.out.symm.trans hk
          have hsnd := HSND.out
          have hm0 : E.many x = 1 := (E.many_of kx (by decide) (by decide) (by decide) (E.snd14 hsnd kx).2.2.2.2).trans rfl
          have hcount : ks.count = 1 := by have := HMN.out; omega
          obtain ⟨c, kc, rfl⟩ := E.count1 hcount
          have hform := E.pr_cast kx c kc
          have hlen := congrArg List.length hform
          have hxp := HXP.out
          simp only [List.length_append, List.length_cons, List.length_nil] at hlen
          have hsn : (E.prints (E.Fo.cons c kc .nil)).length = 1 := by rw [E.prints_len]; exact hcount
          obtain ⟨gx, hAx, hgx, hgl, hyc⟩ := hW.out.cells (by simp [E.prints])
          subst hAx
          have y0 : wr.cell? ⟨gx, 0, none⟩ = some (.string ⟨(E.prT c kc).toArray⟩) := hyc 0 (by rw [hsn]; decide)
          obtain ⟨Y0, hY0⟩ : ∃ Y : ByteArray, Y = ⟨(E.prT c kc).toArray⟩ := ⟨_, rfl⟩
          rw [← hY0] at y0
          have zY0 : Y0.size ≤ 9000000 := by rw [hY0]; show (E.prT c kc).toArray.size ≤ _; rw [List.size_toArray]; omega
          have hpt := (E.snd14 hsnd kx).1
          have htl0 : (0 : Int) < (tl : Int) := by
            have := HTL.out
            have h0 : x.t ≠ [] := E.plain_ne hpt
            have := List.length_pos_iff.2 h0
            omega
          have hTS := E.tyPL hpt HP1.out.st HP1.out.lt
          have HTP := hid (fun (W : World) (h : Below w.heap.size w W) => rtprint_any x.t hpt HP1.out.st _ W ((HTT.out.below h).mono h.size))
          obtain ⟨TT, hTT⟩ : ∃ Y : ByteArray, Y = ⟨(L.tyP x.t).toArray⟩ := ⟨_, rfl⟩
          rw [← hTT] at HTP
          have zTT : TT.size ≤ 18000 := by rw [hTT]; show (L.tyP x.t).toArray.size ≤ _; rw [List.size_toArray]; exact hTS
          have hpu := (E.snd14 hsnd kx).2.1
          have hul0 : (0 : Int) < (ul : Int) := by
            have := HUL.out
            have h0 : x.u ≠ [] := E.plain_ne hpu
            have := List.length_pos_iff.2 h0
            omega
          have hUS := E.tyPL hpu HP1.out.su HP1.out.lu
          have HUP := hid (fun (W : World) (h : Below w.heap.size w W) => rtprint_any x.u hpu HP1.out.su _ W ((HUU.out.below h).mono h.size))
          obtain ⟨UU, hUU⟩ : ∃ Y : ByteArray, Y = ⟨(L.tyP x.u).toArray⟩ := ⟨_, rfl⟩
          rw [← hUU] at HUP
          have zUU : UU.size ≤ 18000 := by rw [hUU]; show (L.tyP x.u).toArray.size ≤ _; rw [List.size_toArray]; exact hUS
          have HS : Hid ((⟨(E.prT x (E.Fo.cons c kc .nil)).toArray⟩ : ByteArray) = (⟨#[60]⟩ : ByteArray) ++ Y0 ++ (⟨#[58, 32]⟩ : ByteArray) ++ TT ++ (⟨#[32, 61, 62, 32]⟩ : ByteArray) ++ UU ++ (⟨#[62]⟩ : ByteArray)) := hid (ba_of (by
            rw [hform]
            simp [hY0, hTT, hUU]))
          have q1 : ((⟨#[60]⟩ : ByteArray) ++ Y0).size ≤ 9000001 := by rw [ByteArray.size_append]; show ((⟨#[60]⟩ : ByteArray)).size + Y0.size ≤ _; have : ((⟨#[60]⟩ : ByteArray)).size = 1 := rfl; omega
          have q2 : ((⟨#[60]⟩ : ByteArray) ++ Y0 ++ (⟨#[58, 32]⟩ : ByteArray)).size ≤ 9000003 := by rw [ByteArray.size_append]; show ((⟨#[60]⟩ : ByteArray) ++ Y0).size + 2 ≤ _; omega
          have q3 : ((⟨#[60]⟩ : ByteArray) ++ Y0 ++ (⟨#[58, 32]⟩ : ByteArray) ++ TT).size ≤ 9018003 := by rw [ByteArray.size_append]; show ((⟨#[60]⟩ : ByteArray) ++ Y0 ++ (⟨#[58, 32]⟩ : ByteArray)).size + TT.size ≤ _; omega
          have q4 : ((⟨#[60]⟩ : ByteArray) ++ Y0 ++ (⟨#[58, 32]⟩ : ByteArray) ++ TT ++ (⟨#[32, 61, 62, 32]⟩ : ByteArray)).size ≤ 9018007 := by rw [ByteArray.size_append]; show ((⟨#[60]⟩ : ByteArray) ++ Y0 ++ (⟨#[58, 32]⟩ : ByteArray) ++ TT).size + 4 ≤ _; omega
          have q5 : ((⟨#[60]⟩ : ByteArray) ++ Y0 ++ (⟨#[58, 32]⟩ : ByteArray) ++ TT ++ (⟨#[32, 61, 62, 32]⟩ : ByteArray) ++ UU).size ≤ 9036007 := by rw [ByteArray.size_append]; show ((⟨#[60]⟩ : ByteArray) ++ Y0 ++ (⟨#[58, 32]⟩ : ByteArray) ++ TT ++ (⟨#[32, 61, 62, 32]⟩ : ByteArray)).size + UU.size ≤ _; omega
          have q6 : ((⟨#[60]⟩ : ByteArray) ++ Y0 ++ (⟨#[58, 32]⟩ : ByteArray) ++ TT ++ (⟨#[32, 61, 62, 32]⟩ : ByteArray) ++ UU ++ (⟨#[62]⟩ : ByteArray)).size ≤ 9036008 := by rw [ByteArray.size_append]; show ((⟨#[60]⟩ : ByteArray) ++ Y0 ++ (⟨#[58, 32]⟩ : ByteArray) ++ TT ++ (⟨#[32, 61, 62, 32]⟩ : ByteArray) ++ UU).size + 1 ≤ _; omega
          clear hlen hform hxp hyc hm0 hcount hsnd kx hY0 hTT hUU hpt hTS hpu hUS
          subst hk
          have cN := fun j => Lib.cell_of_heap NR.out j
          go_wp2_with fail
          refine (HTP.out _ hBW.out).mono ?_
          rintro e w2 ⟨rfl, h2⟩
          have Nw2 := hid ((h2.block _ (by have := heap_lt NR.out; omega)).trans NR.out)
          have Bw2 := hid (hBW.out.trans (h2.mono hBW.out.size))
          replace y0 := (h2.cell (p := ⟨gx, 0, none⟩) hgl).trans y0
          replace hgl : gx < w2.heap.size := by have := h2.size; omega
          clear cN h2
          have cN := fun j => Lib.cell_of_heap Nw2.out j
          go_wp2_with fail
          refine (HUP.out _ Bw2.out).mono ?_
          rintro e w3 ⟨rfl, h2⟩
          have Nw3 := hid ((h2.block _ (by have := heap_lt Nw2.out; omega)).trans Nw2.out)
          have Bw3 := hid (Bw2.out.trans (h2.mono Bw2.out.size))
          replace y0 := (h2.cell (p := ⟨gx, 0, none⟩) hgl).trans y0
          replace hgl : gx < w3.heap.size := by have := h2.size; omega
          clear cN h2
          have cN := fun j => Lib.cell_of_heap Nw3.out j
          go_wp2
          go_ret
          first | exact ⟨by rw [HS.out] <;> rfl, Bw3.out⟩ | exact ⟨by rw [HS.out] <;> rfl, below_drewN Bw3.out _⟩
        have nk14 := hk
        clear hk
        by_cases hk : k1 = 0
        · have kx : x.kind = 0 := HK1.out.symm.trans hk
          have hsnd := HSND.out
          have hm0 : E.many x = 0 := by
            obtain ⟨_, _, _, _, hm, _⟩ := E.snd0 hsnd kx
            exact E.many_of kx (by decide) (by decide) (by decide) hm
          have hcount : ks.count = 0 := by have := HMN.out; omega
          obtain rfl := E.count0 hcount
          obtain ⟨nd, hnd, hun, -, -, hnn, hn0, hnk⟩ := E.snd0 hsnd kx
          have hpt : E.plain x.t = true := E.lit_plain hsnd kx
          have htl1 : tl = 1 := by rw [HTL.out, hnd]; rfl
          have hul0 : ul = 0 := by rw [HUL.out, hun]; rfl
          have HTP := hid (fun (W : World) (h : Below w.heap.size w W) => rtprint_any x.t hpt HP1.out.st _ W ((HTT.out.below h).mono h.size))
          have HLI := hid (fun (W : World) (h : Below w.heap.size w W) => rlit_any x hsnd kx (by rw [← HS2.out]; exact z2) A1 A2 c1 c2 W (by rw [← HTL.out]; exact (HTT.out.below h).mono h.size))
          unfold partV at HLI
          rw [← HK1.out, ← HS1.out, ← HS2.out, ← HS3.out, ← HN1.out, ← HN2.out, ← HTL.out, ← HUL.out] at HLI
          have HS : Hid ((⟨(E.prT x .nil).toArray⟩ : ByteArray) = ⟨(E.litP x).toArray⟩) := hid (by rw [E.pr_leaf (Or.inl kx)]; unfold E.firstP; rw [if_pos kx])
          obtain ⟨LT, hLT⟩ : ∃ Y : ByteArray, Y = ⟨(E.litP x).toArray⟩ := ⟨_, rfl⟩
          obtain ⟨TT, hTT⟩ : ∃ Y : ByteArray, Y = ⟨(L.tyP x.t).toArray⟩ := ⟨_, rfl⟩
          rw [← hLT] at HLI HS
          rw [← hTT] at HTP
          have hSLy : (E.prints E.Fo.nil).length = 0 := rfl
          clear hLT hTT hnd hun hnn hn0 hnk hpt hm0 hcount hsnd kx
          subst htl1
          subst hul0
          subst hk
          have cN := fun j => Lib.cell_of_heap NR.out j
          go_wp2_with fail
          refine (HTP.out _ hBW.out).mono ?_
          rintro e w2 ⟨rfl, h2⟩
          have Nw2 := hid ((h2.block _ (by have := heap_lt NR.out; omega)).trans NR.out)
          have Bw2 := hid (hBW.out.trans (h2.mono hBW.out.size))
          clear cN h2
          have cN := fun j => Lib.cell_of_heap Nw2.out j
          go_wp2_with fail
          refine (HLI.out _ Bw2.out).mono ?_
          rintro e w3 ⟨rfl, h3⟩
          go_wp2
          go_ret
          exact ⟨by rw [HS.out] <;> rfl, Bw2.out.trans (h3.mono Bw2.out.size)⟩
        have nk0 := hk
        clear hk
        by_cases hk : k1 = 1
        · have kx : x.kind = 1 := HK1.out.symm.trans hk
          have hsnd := HSND.out
          have hm0 : E.many x = 0 := E.many_of kx (by decide) (by decide) (by decide) (E.snd1 hsnd kx).2.2.1
          have hcount : ks.count = 0 := by have := HMN.out; omega
          obtain rfl := E.count0 hcount
          have HS : Hid ((⟨(E.prT x .nil).toArray⟩ : ByteArray) = s2) := hid (ba_of (by rw [E.pr_leaf (Or.inr kx)]; unfold E.firstP; rw [if_neg (by omega), if_pos kx, ← HS2.out]))
          have htl0 : tl = 0 := by rw [HTL.out, (E.snd1 hsnd kx).2.2.2.2.1]; rfl
          have hul0 : ul = 0 := by rw [HUL.out, (E.snd1 hsnd kx).2.2.2.2.2]; rfl
          clear hm0 hcount hsnd kx
          subst htl0
          subst hul0
          subst hk
          have cN := fun j => Lib.cell_of_heap NR.out j
          go_wp2
          go_ret
          exact ⟨by rw [HS.out] <;> rfl, hBW.out⟩
        have nk1 := hk
        clear hk
        by_cases hk : k1 = 7
        · have kx : x.kind = 7 := HK1.out.symm.trans hk
          have hsnd := HSND.out
          have hm2 : 2 ≤ ks.count := by
            have h1 := HMN.out
            have h2 := hsnd
            unfold E.sound at h2
            simp only [kx, Int.reduceEq, if_true, if_false, Bool.and_eq_true, decide_eq_true_eq] at h2
            unfold E.many at h1
            rw [if_neg (by omega), kx] at h1
            have hb : E.base 7 = 1 := rfl
            have := h2.1
            omega
          obtain ⟨c, kc, R, rfl, hR1⟩ := E.count_more (n := 1) hm2
          have htl0 : tl = 0 := by rw [HTL.out, (E.snd7 hsnd (Or.inl kx)).2.2.2.1]; rfl
          have hul0 : ul = 0 := by rw [HUL.out, (E.snd7 hsnd (Or.inl kx)).2.2.2.2]; rfl
          have HFM := hid (E.pr_case_br2 kx c kc hR1)
          obtain ⟨gx, hAx, hgx, hgl, hyc⟩ := hW.out.cells (by simp [E.prints])
          subst hAx
          have y0 : wr.cell? ⟨gx, 0, none⟩ = some (.string ⟨(E.prT c kc).toArray⟩) := hyc 0 (by simp [E.prints])
          obtain ⟨Y0, hY0⟩ : ∃ Y : ByteArray, Y = ⟨(E.prT c kc).toArray⟩ := ⟨_, rfl⟩
          rw [← hY0] at y0
          have hlen := congrArg List.length HFM.out
          simp only [List.length_append, List.length_cons, List.length_nil] at hlen
          have hxp := HXP.out
          have zY0 : Y0.size ≤ 9000000 := by rw [hY0]; show (E.prT c kc).toArray.size ≤ _; rw [List.size_toArray]; omega
          have q1 : ((⟨#[40, 99, 97, 115, 101, 32]⟩ : ByteArray) ++ Y0).size ≤ 9000006 := by rw [ByteArray.size_append]; show 6 + Y0.size ≤ _; omega
          have HY0 := hid hY0
          obtain ⟨n7, hn7⟩ : ∃ n7, n7 = (E.prints (E.Fo.cons c kc R)).length := ⟨_, rfl⟩
          have HN7 := hid hn7
          rw [← hn7]
          have hn70 : n7 ≤ 60 ∧ 1 ≤ n7 ∧ n7 = kl.length := by rw [hn7]; have := HKC2.out; rw [E.prints_len]; simp only [E.Fo.count] at this ⊢; omega
          obtain ⟨hn71, hn72, hn73⟩ := hn70
          have HN73 := hid hn73
          clear hn7 hn73 hY0 hlen hxp hsnd kx hm2 hSLx
          subst htl0
          subst hul0
          subst hk
          have cN := fun j => Lib.cell_of_heap NR.out j
          have hn7z : (0 : Int) < (n7 : Int) := by omega
          go_wp2
          go_loop [11, 12] (fun va vk => ∃ (k : Nat) (acc : ByteArray) (g : E.Fo), va = .string acc ∧ vk = .int .i64 k ∧ 1 ≤ k ∧ k + g.count = n7 ∧ Hid ((E.prints (E.Fo.cons c kc R)).drop k = E.prints g ∧ acc.data.toList ++ (E.brF k g ++ [32, 101, 110, 100, 41]) = E.prT x (E.Fo.cons c kc R))) (fun _ vk => n7 - (intOf vk).toNat)
          case atStart =>
            refine ⟨1, _, R, rfl, rfl, by omega, ?_, hid ⟨rfl, ?_⟩⟩
            · have := HN7.out
              rw [E.prints_len] at this
              simp only [E.Fo.count] at this
              omega
            · rw [HFM.out]
              simp [HY0.out]
          case round =>
            obtain ⟨k, acc, g, rfl, rfl, hk1, hkg, hI⟩ := hrel
            cases g with
            | nil =>
              have hk2 : k = n7 := by simpa [E.Fo.count] using hkg
              have hkz : ¬ (k : Int) < (n7 : Int) := by omega
              have hfin := hI.out.2
              have hel := congrArg List.length hfin
              have hxp := HXP.out
              have hacc : acc.data.toList.length = acc.size := by simp
              simp only [List.length_append] at hel
              have hz : acc.size ≤ 9000000 := by omega
              have HS : Hid ((⟨(E.prT x (E.Fo.cons c kc R)).toArray⟩ : ByteArray) = acc ++ (⟨#[32, 101, 110, 100, 41]⟩ : ByteArray)) := hid (ba_of (by rw [← hfin]; simp [E.brF]))
              clear hfin hel hxp hacc hI
              go_wp2
              go_ret
              exact ⟨by rw [HS.out] <;> rfl, hBW.out⟩
            | cons d kd g2 =>
              simp only [E.Fo.count] at hkg
              have hlt : k < (E.prints (E.Fo.cons c kc R)).length := by rw [← HN7.out]; omega
              have hyk := hyc k hlt
              have hPk : (E.prints (E.Fo.cons c kc R))[k] = ⟨(E.prT d kd).toArray⟩ := by
                have := List.drop_eq_getElem_cons hlt
                rw [hI.out.1, E.prints] at this
                injection this with h1 _
                exact h1.symm
              have HPN : Hid ((E.prints (E.Fo.cons c kc R)).drop (k + 1) = E.prints g2) := hid (by
                have := List.drop_eq_getElem_cons hlt
                rw [hI.out.1, E.prints] at this
                injection this with _ h2
                exact h2.symm)
              rw [hPk] at hyk
              have hEE := hI.out.2
              have hel := congrArg List.length hEE
              rw [E.brF] at hel
              simp only [List.length_append, List.length_cons, List.length_nil] at hel
              have hxp := HXP.out
              have hacc : acc.data.toList.length = acc.size := by simp
              obtain ⟨Y, hY⟩ : ∃ Y : ByteArray, Y = ⟨(E.prT d kd).toArray⟩ := ⟨_, rfl⟩
              rw [← hY] at hyk
              have hYs : Y.size = (E.prT d kd).length := by rw [hY]; show (E.prT d kd).toArray.size = _; rw [List.size_toArray]
              have hYd : Y.data.toList = E.prT d kd := by rw [hY]
              have hkz : (k : Int) < (n7 : Int) := by have := HN7.out; rw [← this] at hlt; omega
              by_cases h1k : k = 1
              · subst h1k
                have HA : Hid ((acc ++ Y).data.toList ++ (E.brF (1 + 1) g2 ++ [32, 101, 110, 100, 41]) = E.prT x (E.Fo.cons c kc R)) := hid (by rw [← hEE, E.brF]; simp [hYd])
                have hz : acc.size ≤ 9000000 := by omega
                have hz2 : Y.size ≤ 9000000 := by omega
                clear hEE hel hxp hacc hYs hYd hY hPk hI hlt
                go_wp2
                go_round
                case rel => exact ⟨1 + 1, acc ++ Y, g2, rfl, by go_num, by omega, by omega, hid ⟨HPN.out, HA.out⟩⟩
                case measure => simp [intOf]; omega
              · have hk2z : (1 : Int) < (k : Int) := by omega
                have HA : Hid (((acc ++ (⟨#[32, 124, 32]⟩ : ByteArray)) ++ Y).data.toList ++ (E.brF (k + 1) g2 ++ [32, 101, 110, 100, 41]) = E.prT x (E.Fo.cons c kc R)) := hid (by rw [← hEE, E.brF, if_pos (by omega)]; simp [hYd])
                have hz : acc.size ≤ 9000000 := by omega
                have hz2 : Y.size ≤ 9000000 := by omega
                have q2 : (acc ++ (⟨#[32, 124, 32]⟩ : ByteArray)).size ≤ 9000003 := by rw [ByteArray.size_append]; show acc.size + 3 ≤ _; omega
                clear hEE hel hxp hacc hYs hYd hY hPk hI hlt h1k
                go_wp2
                go_round
                case rel => exact ⟨k + 1, (acc ++ (⟨#[32, 124, 32]⟩ : ByteArray)) ++ Y, g2, rfl, by go_num, by omega, by omega, hid ⟨HPN.out, HA.out⟩⟩
                case measure => simp [intOf]; omega
        have nk7 := hk
        clear hk
        by_cases hk : k1 = 10
        · obtain ⟨w9, hw9⟩ : ∃ w9, w9 = wr := ⟨_, rfl⟩
          subst hw9
          have kx : x.kind = 10 := HK1.out.symm.trans hk
          have hsnd := HSND.out
          have htl0 : tl = 0 := by rw [HTL.out, (E.snd7 hsnd (Or.inr kx)).2.2.2.1]; rfl
          have hul0 : ul = 0 := by rw [HUL.out, (E.snd7 hsnd (Or.inr kx)).2.2.2.2]; rfl
          have HFM := hid (E.pr_rows kx ks)
          have HKX := hid kx
          have HNL : Hid ((E.prints ks).length = kl.length) := hid (by rw [E.prints_len, HKC2.out])
          obtain ⟨n7, hn7⟩ : ∃ n7, n7 = (E.prints ks).length := ⟨_, rfl⟩
          have HN7 := hid hn7
          rw [← hn7]
          have hn71 : n7 ≤ 60 := by rw [hn7, HNL.out]; exact hkc60
          have hn7k : n7 = kl.length := by rw [hn7, HNL.out]
          have HN7K := hid hn7k
          have WR := hid (show OwnS (w.heap.size + 1) (.slice Ax n7 cx) (E.prints ks) w9 by rw [hn7]; exact hW.out)
          clear hn7 hn7k hsnd kx hSLx hW
          subst htl0
          subst hul0
          subst hk
          have cN := fun j => Lib.cell_of_heap NR.out j
          go_wp2
          clear cN
          go_loopw [13, 14] (fun va vk wz => ∃ (k p : Nat) (acc : ByteArray) (g : E.Fo), va = .string acc ∧ vk = .int .i64 k ∧ k + g.count = n7 ∧ Hid (g.ok = true ∧ l.drop p = g.flat ++ rest ∧ kl.drop k = E.kidsL l g.count p ∧ (E.prints ks).drop k = E.prints g ∧ acc.data.toList ++ (g.pr x k ++ [125]) = E.prT x ks) ∧ Hid (Below w9.heap.size w9 wz)) (fun _ vk _ => n7 - (intOf vk).toNat)
          case atStart =>
            refine ⟨0, q + 1, _, ks, rfl, rfl, ?_, hid ⟨HOK.out, HDN.out, by rw [List.drop_zero]; exact HKL.out, by rw [List.drop_zero], ?_⟩, hid (Below.refl _ _)⟩
            · rw [HN7K.out, HKC2.out]; omega
            · rw [HFM.out]
              simp
          case round =>
            obtain ⟨k, p, acc, g, rfl, rfl, hkg, hI, hBZ⟩ := hrel
            obtain ⟨gok, gd, gk, gs, hEE⟩ := hI.out
            have hxp := HXP.out
            have hacc : acc.data.toList.length = acc.size := by simp
            have hBF := hid (hBW.out.trans (hBZ.out.mono hBW.out.size))
            cases g with
            | nil =>
              have hk2 : k = n7 := by simpa [E.Fo.count] using hkg
              have hkz : ¬ (k : Int) < (n7 : Int) := by omega
              have hel := congrArg List.length hEE
              simp only [List.length_append] at hel
              have hz : acc.size ≤ 9000000 := by omega
              have HS : Hid ((⟨(E.prT x ks).toArray⟩ : ByteArray) = acc ++ (⟨#[125]⟩ : ByteArray)) := hid (ba_of (by rw [← hEE]; simp [E.Fo.pr]))
              clear hel hEE hxp hacc gok gd gk gs hI
              go_wp2
              go_ret
              exact ⟨by rw [HS.out] <;> rfl, hBF.out⟩
            | cons c kc r =>
              simp only [E.Fo.count] at hkg
              obtain ⟨m1, m2, m3, m4, m5⟩ := E.ok_cons gok
              have hdc : l.drop p = c :: (kc.flat ++ (r.flat ++ rest)) := by rw [gd]; simp [E.Fo.flat]
              obtain ⟨ks1, ks2⟩ := E.kidsL_step gok (by rw [hdc] : l.drop p = c :: (kc.flat ++ (r.flat ++ rest)))
              have hkl : k < kl.length := by have := HN7K.out; omega
              have hkd := List.drop_eq_getElem_cons hkl
              rw [gk, ks1] at hkd
              injection hkd with hkk hkr
              have HNX : Hid (r.ok = true ∧ l.drop (p + (kc.flat.length + 1)) = r.flat ++ rest ∧ kl.drop (k + 1) = E.kidsL l r.count (p + (kc.flat.length + 1))) := hid ⟨m5, by
                have := E.drop_more (l := l) (a := c :: kc.flat) (b := r.flat ++ rest) (p := p) (by rw [hdc]; simp)
                simpa using this, by rw [← hkr, show p + (kc.flat.length + 1) = p + 1 + kc.flat.length by omega]⟩
              have hlt : k < (E.prints ks).length := by rw [HNL.out]; exact hkl
              have hPk : (E.prints ks)[k] = ⟨(E.prT c kc).toArray⟩ := by
                have := List.drop_eq_getElem_cons hlt
                rw [gs, E.prints] at this
                injection this with h1 _
                exact h1.symm
              have HPN : Hid ((E.prints ks).drop (k + 1) = E.prints r) := hid (by
                have := List.drop_eq_getElem_cons hlt
                rw [gs, E.prints] at this
                injection this with _ h2
                exact h2.symm)
              obtain ⟨gx, hAx, hgx, hgl, hyc⟩ := (show OwnS (w.heap.size + 1) (.slice Ax (E.prints ks).length cx) (E.prints ks) w9 by rw [← HN7.out]; exact WR.out).cells (by rintro h0; rw [h0] at hlt; simp at hlt)
              subst hAx
              have hyk := (hBZ.out.cell (p := ⟨gx, k, none⟩) hgl).trans (hyc k hlt)
              rw [hPk] at hyk
              obtain ⟨g5, c6, hv6, hg5, hcell5⟩ := hKI.out.rd.cell (by omega)
              simp only [Value.slice.injEq, true_and] at hv6
              obtain ⟨rfl, rfl⟩ := hv6
              have ck := (hBZ.out.cell (p := ⟨g5, k, none⟩) hg5).trans (hcell5 k hkl)
              rw [← hkk] at ck
              obtain ⟨hpq, hlp, -⟩ := drop_atP hdc
              obtain ⟨-, -, -, e1, -⟩ := HCX.out p hpq
              rw [hlp] at e1
              have e1 := (hBF.out.cell (p := ⟨b, o + p * 8 + 1, none⟩) hb).trans e1
              have hform := E.Fo.pr_cons c kc r x k
              have h10 := HKX.out
              rw [if_pos h10] at hform
              have hbt : E.betwP x k = [44, 32] := by unfold E.betwP; simp only [h10, Int.reduceEq, if_true, if_false, or_false]
              rw [hbt] at hform
              rw [hform] at hEE
              have hel := congrArg List.length hEE
              simp only [List.length_append, List.length_cons, List.length_nil] at hel
              obtain ⟨Y, hY⟩ : ∃ Y : ByteArray, Y = ⟨(E.prT c kc).toArray⟩ := ⟨_, rfl⟩
              rw [← hY] at hyk
              have hYs : Y.size = (E.prT c kc).length := by rw [hY]; show (E.prT c kc).toArray.size = _; rw [List.size_toArray]
              have hYd : Y.data.toList = E.prT c kc := by rw [hY]
              obtain ⟨LB, hLB⟩ : ∃ LB, LB = c.label := ⟨_, rfl⟩
              rw [← hLB] at e1 hEE hel
              have hLs : LB.data.toList.length = LB.size := by simp
              have hkz : (k : Int) < (n7 : Int) := by have := HN7K.out; omega
              have hkz2 : (k : Int) < (kl.length : Int) := by omega
              have hpz : (p : Int) < (l.length : Int) := by omega
              have hz : acc.size ≤ 9000000 := by omega
              have hz2 : Y.size ≤ 9000000 := by omega
              have hz3 : LB.size ≤ 9000000 := by omega
              by_cases hk0 : k = 0
              · subst hk0
                have HA : Hid ((((acc ++ LB) ++ (⟨#[32, 61, 32]⟩ : ByteArray)) ++ Y).data.toList ++ (r.pr x (0 + 1) ++ [125]) = E.prT x ks) := hid (by rw [← hEE]; simp [hYd])
                have q1 : (acc ++ LB).size ≤ 18000000 := by rw [ByteArray.size_append]; omega
                have q2 : ((acc ++ LB) ++ (⟨#[32, 61, 32]⟩ : ByteArray)).size ≤ 18000003 := by rw [ByteArray.size_append]; show (acc ++ LB).size + 3 ≤ _; omega
                clear hEE hel hxp hacc hYs hYd hY hPk hI hlt hform hbt h10 hLB hLs hlp hdc gok gd gk gs m1 m2 m3 m4 m5 ks1 ks2 hkk hkr hyc hcell5
                go_wp2
                go_quiet (fail)
                go_wp2
                go_roundw
                case rel => first | exact ⟨0 + 1, p + (kc.flat.length + 1), _, r, rfl, by go_num, by omega, hid ⟨HNX.out.1, HNX.out.2.1, HNX.out.2.2, HPN.out, HA.out⟩, hBZ⟩ | exact ⟨0 + 1, p + (kc.flat.length + 1), _, r, rfl, by go_num, by omega, hid ⟨HNX.out.1, HNX.out.2.1, HNX.out.2.2, HPN.out, HA.out⟩, hid (below_drewN hBZ.out _)⟩
                case measure => simp [intOf]; omega
              · have hkp : (0 : Int) < (k : Int) := by omega
                rw [if_pos (by omega)] at hEE hel
                simp only [List.length_cons, List.length_nil] at hel
                have HA : Hid (((((acc ++ (⟨#[44, 32]⟩ : ByteArray)) ++ LB) ++ (⟨#[32, 61, 32]⟩ : ByteArray)) ++ Y).data.toList ++ (r.pr x (k + 1) ++ [125]) = E.prT x ks) := hid (by rw [← hEE]; simp [hYd])
                have q0 : (acc ++ (⟨#[44, 32]⟩ : ByteArray)).size ≤ 9000002 := by rw [ByteArray.size_append]; show acc.size + 2 ≤ _; omega
                have q1 : ((acc ++ (⟨#[44, 32]⟩ : ByteArray)) ++ LB).size ≤ 18000002 := by rw [ByteArray.size_append]; omega
                have q2 : (((acc ++ (⟨#[44, 32]⟩ : ByteArray)) ++ LB) ++ (⟨#[32, 61, 32]⟩ : ByteArray)).size ≤ 18000005 := by rw [ByteArray.size_append]; show ((acc ++ (⟨#[44, 32]⟩ : ByteArray)) ++ LB).size + 3 ≤ _; omega
                clear hEE hel hxp hacc hYs hYd hY hPk hI hlt hform hbt h10 hLB hLs hlp hdc gok gd gk gs m1 m2 m3 m4 m5 ks1 ks2 hkk hkr hyc hcell5 hk0
                go_wp2
                go_quiet (fail)
                go_wp2
                go_roundw
                case rel => first | exact ⟨k + 1, p + (kc.flat.length + 1), _, r, rfl, by go_num, by omega, hid ⟨HNX.out.1, HNX.out.2.1, HNX.out.2.2, HPN.out, HA.out⟩, hBZ⟩ | exact ⟨k + 1, p + (kc.flat.length + 1), _, r, rfl, by go_num, by omega, hid ⟨HNX.out.1, HNX.out.2.1, HNX.out.2.2, HPN.out, HA.out⟩, hid (below_drewN hBZ.out _)⟩
                case measure => simp [intOf]; omega
        have nk10 := hk
        clear hk
        exfalso
        have := E.kind_bound HSND.out
        have := HK1.out
        omega

end Go.Proofs.YthbieinbpfjgkaaGreatDoor
