/-
  The walk of term.Put. Conditions: types of at most 10000 nodes, whose labels have at most 100 bytes.
-/
import Derived.Test.YtkkigdbinnfbfaaTmU2
import Derived.Test.YtkkigdbinnfbfaaTmU3
import Derived.Test.YtkkigdbinnfbfaaTmX4
import Derived.Test.YtkkigdbinnfbfaaTmG1
namespace Go.Proofs.Ytkkigdbinnfbfaa.L
open Go
theorem extL_mem {n : Int} {kl more : List (List Nd)} {l : List Nd} (h : l ∈ extL n kl more) : l ∈ kl ∨ l ∈ more := by
  unfold extL at h
  split at h
  · rcases mergeL_mem.1 h with h | h
    · exact Or.inl (List.dropLast_subset _ h)
    · exact Or.inr h
  · exact Or.inl h
theorem setName_mem {u : List Nd} {s : ByteArray} {z : Nd} (h : z ∈ setName u s) : z.name = s ∨ z ∈ u := by
  cases u with
  | nil => cases h
  | cons y r =>
    simp only [setName, List.mem_cons] at h
    rcases h with rfl | h
    · exact Or.inl rfl
    · exact Or.inr (List.mem_cons_of_mem _ h)
theorem rows_mem {f : Fo} {l : List Nd} (h : l ∈ f.rows) {z : Nd} (hz : z ∈ l) : z ∈ f.flat := by
  rw [← rows_flat]
  exact List.mem_flatten.2 ⟨l, h, hz⟩
theorem putK_short {n : Int} {u : List Nd} {more : List (List Nd)} (hu : Short u) (hm : ∀ l ∈ more, Short l) : ∀ (f : Fo), Short f.flat → ∀ l ∈ putK n u more f, Short l
  | .nil, _, l, h => by cases h
  | .cons x ks r, hs, l, h => by
    have hx : x.name.size ≤ 100 := hs x (by simp [Fo.flat])
    have ik := putK_short (n := n) hu hm ks (fun y hy => hs y (by simp [Fo.flat, hy]))
    have ir := putK_short (n := n) hu hm r (fun y hy => hs y (by simp [Fo.flat, hy]))
    rw [putK_cons] at h
    rcases List.mem_cons.1 h with rfl | h
    · intro z hz
      unfold putJ at hz
      split at hz
      · rcases setName_mem hz with e | g
        · rw [e]; exact hx
        · exact hu z g
      · rcases List.mem_cons.1 hz with rfl | hz
        · exact hx
        · obtain ⟨l2, h2, h3⟩ := List.mem_flatten.1 hz
          rcases extL_mem h2 with g | g
          · exact ik l2 g z h3
          · exact hm l2 g z h3
    · exact ir l h
/-- What Put tells: the nodes, and what is wrong. -/
def putRes (n : Int) (u : Nd) (uk f : Fo) : List Nd × Int :=
  if n < 0 then ([], 1) else
  if codeE (anyF (fun x ks => q1 n u.kind x ks.tops1) f) (anyF (fun _ ks => q2 n uk.rows ks.tops1) f) (anyF (fun _ ks => q3 n uk.rows ks.tops1) f) ≠ 0 then ([], codeE (anyF (fun x ks => q1 n u.kind x ks.tops1) f) (anyF (fun _ ks => q2 n uk.rows ks.tops1) f) (anyF (fun _ ks => q3 n uk.rows ks.tops1) f)) else
  if 10000 < (putK n (u :: uk.flat) uk.rows f).flatten.length then ([], 4) else
  if rightL (putK n (u :: uk.flat) uk.rows f).flatten = true then ((putK n (u :: uk.flat) uk.rows f).flatten, 0) else ([], 4)
end Go.Proofs.Ytkkigdbinnfbfaa.L
namespace Go.Proofs.Ytkkigdbinnfbfaa
open Go.RowKit

theorem all_pz {n : Int} {u : Nat} {U : L.Nd} {uk : L.Fo} (hu9 : U.kind ≠ 9) : ∀ (f : L.Fo), f.ok = true → (∀ x ∈ f.flat, x.n ≤ 9223372036854775807) → (L.putK n (U :: uk.flat) uk.rows f).flatten.length ≤ 10000 → L.Fo.all (PZ n (U :: uk.flat) uk.rows) f
  | .nil, _, _, _ => trivial
  | .cons x ks r, h, hw, hl => by
    have h' := h
    simp only [L.Fo.ok, Bool.and_eq_true, decide_eq_true_eq] at h
    obtain ⟨⟨⟨⟨hn, hm⟩, hs⟩, hk⟩, hr⟩ := h
    rw [L.putK_cons, List.flatten_cons, List.length_append] at hl
    simp only [L.Fo.flat, List.mem_cons, List.mem_append] at hw
    have hge := L.extL_flat_ge (n := n) (kl := L.putK n (U :: uk.flat) uk.rows ks) (more := uk.rows) (fun l hl h9 => Nat.le_of_eq (L.putK_tail (by simp) (by simpa [L.hd0] using hu9) uk.rows ks hk l hl (by rw [h9])))
    have hself : (L.extL n (L.putK n (U :: uk.flat) uk.rows ks) uk.rows).flatten.length + 1 ≤ 10000 := by
      unfold L.putJ at hl
      by_cases h8 : x.kind = 8 ∧ x.n = n
      · obtain rfl := L.kids_none hm (Or.inl h8.1)
        simp [L.putK_nil, L.extL_nil]
      · rw [if_neg h8, List.length_cons] at hl
        omega
    refine ⟨⟨?_, hw x (Or.inl rfl), by omega⟩, all_pz (u := u) hu9 ks hk (fun y hy => hw y (Or.inr (Or.inl hy))) (by omega), all_pz (u := u) hu9 r hr (fun y hy => hw y (Or.inr (Or.inr hy))) (by omega)⟩
    simp only [L.Fo.ok, Bool.and_eq_true] at h' ⊢
    exact ⟨h'.1, trivial⟩

theorem catT_map' (ts : List VT) : catT ts = (ts.map (·.2)).flatten := by
  unfold catT
  rw [List.flatMap_def]
/-- What is asked of a type that comes in. -/
structure TyIn (x : L.Nd) (ks : L.Fo) : Prop where
  ok : (L.Fo.cons x ks .nil).ok = true
  k9 : x.kind ≠ 9
  len : (x :: ks.flat).length ≤ 10000
  sh : L.Short (x :: ks.flat)
  num : ∀ z ∈ x :: ks.flat, z.n ≤ 9223372036854775807

def PutPost (r : List L.Nd × Int) (w : World) (e : Ending) (w' : World) : Prop := ∃ v', e = .returned (.tuple #[v', .int .i64 r.2]) ∧ Own w.heap.size v' r.1 w' ∧ Below w.heap.size w w'

set_option maxHeartbeats 8000000 in
set_option maxRecDepth 100000 in
theorem put_any (x : L.Nd) (ks : L.Fo) (hT : TyIn x ks) (y : L.Nd) (yk : L.Fo) (hU : TyIn y yk) (n : Int) (vt vu : Value) (w : World) (hx : Rd w w.heap.size vt (x :: ks.flat)) (hu : Rd w w.heap.size vu (y :: yk.flat)) :
    Calls Try.prog 8 #[vt, .int .i64 n, vu] w (PutPost (L.putRes n y yk (.cons x ks .nil)) w) := by
  have HX := hid hx
  have HU := hid hu
  have HTI := hid hT
  have HUI := hid hU
  obtain ⟨A1, c1, rfl, hl1, hl2⟩ := hx.len
  obtain ⟨A2, c2, rfl, hl3, hl4⟩ := hu.len
  have hlt := hT.len
  have hlu := hU.len
  unfold maxLen at hl2 hl4
  obtain ⟨l, hl⟩ : ∃ l, x :: ks.flat = l := ⟨_, rfl⟩
  obtain ⟨m, hm⟩ : ∃ m, y :: yk.flat = m := ⟨_, rfl⟩
  have HL := hid hl
  have HM := hid hm
  rw [hl] at HX hl1 hlt ⊢
  rw [hm] at HU hl3 hlu ⊢
  clear hx hu hT hU hl hm
  by_cases h0 : n < 0
  · have HR : Hid (L.putRes n y yk (.cons x ks .nil) = ([], 1)) := hid (by unfold L.putRes; rw [if_pos h0])
    go_enter Try.func8, Try.ntmps8
    go_wp2_with fail
    refine bodyPost_ret (v := .tuple #[.slice none 0 0, .int .i64 1]) (by simp [results, Try.results8, go_sem]) rfl ?_
    rw [HR.out]
    exact ⟨_, rfl, Own.nil _ _, below_new _ |>.trans ((below_new _).mono (by simp))⟩
  have hfl : (L.Fo.cons x ks .nil).flat = l := by rw [← HL.out]; simp [L.Fo.flat]
  have HFL := hid hfl
  obtain ⟨P, hP⟩ : ∃ P, (L.putK n (y :: yk.flat) yk.rows (.cons x ks .nil)).flatten = P := ⟨_, rfl⟩
  obtain ⟨cd, hcd⟩ : ∃ c, L.codeE (putO n y.kind (.cons x ks .nil)) (putT n yk.rows (.cons x ks .nil)) (putL n yk.rows (.cons x ks .nil)) = c := ⟨_, rfl⟩
  have HRES : Hid (L.putRes n y yk (.cons x ks .nil) = if cd ≠ 0 then ([], cd) else if 10000 < P.length then ([], 4) else if L.rightL P = true then (P, 0) else ([], 4)) := hid (by
    unfold L.putRes
    rw [if_neg h0, hP]
    unfold putO putT putL at hcd
    rw [hcd])
  have HPS : Hid ((P.length : Int) = L.sizeL n m.length l) := hid (by
    rw [← hP, L.put_size HUI.out.k9 HTI.out.ok HTI.out.k9, HL.out, ← HM.out]
    simp)
  have HPN : Hid (∀ z ∈ P, z.name.size ≤ 9223372036854775807) := hid (fun z hz => by
    rw [← hP] at hz
    obtain ⟨l2, h2, h3⟩ := List.mem_flatten.1 hz
    have := L.putK_short (n := n) HUI.out.sh (fun l hl z hz => HUI.out.sh z (List.mem_cons_of_mem _ (L.rows_mem hl hz))) (.cons x ks .nil) (by rw [HFL.out, ← HL.out]; exact HTI.out.sh) l2 h2 z h3
    omega)
  have HTO : Hid (L.TailOk l) := hid (by
    rw [← HFL.out]
    refine L.tailOk_row _ HTI.out.ok fun l2 h2 z hz h9 => ?_
    simp only [L.Fo.tops1, List.mem_cons, List.not_mem_nil, or_false] at h2
    subst h2
    rw [List.mem_singleton] at hz
    subst hz
    exact absurd h9 HTI.out.k9)
  have HAP := hid (fun (h : P.length ≤ 10000) => all_pz (n := n) (u := 0) HUI.out.k9 (.cons x ks .nil) HTI.out.ok (fun z hz => HTI.out.num z (by rw [HL.out, ← HFL.out]; exact hz)) (by rw [hP]; exact h))
  have HCD := hid hcd
  have HPP := hid hP
  have hb0 := two_below w (.cells #[.int .i64 n] 3) (.cells #[.slice A2 m.length c2] 23)
  have HB0 := hid hb0
  have hn0 : ((w.alloc (.cells #[.int .i64 n] 3)).alloc (.cells #[.slice A2 m.length c2] 23)).heap[w.heap.size]? = some (.cells #[.int .i64 n] 3 (0, 0)) := (heap_alloc_old _ _ (by simp)).trans (heap_alloc_new _ _)
  have HN0 := hid hn0
  have HN1 := hid (two_alloc w (.cells #[.int .i64 n] 3) (.cells #[.slice A2 m.length c2] 23))
  have HKO := hid (kidsOf_any y yk HUI.out.ok HUI.out.len (.slice A2 m.length c2) _ (by rw [HM.out]; exact (HU.out.below hb0).mono hb0.size))
  clear hfl hP hcd hb0 hn0
  go_enter Try.func8, Try.ntmps8
  go_wp2_with fail
  refine (HKO.out).mono ?_
  rintro e w1 ⟨ts, hts, v1, rfl, hr1, hb1⟩
  have HB1 := hid (HB0.out.trans (hb1.mono HB0.out.size))
  have hsz1 := hb1.size
  simp at hsz1
  obtain ⟨A3, c3, rfl, -⟩ := hr1.val
  have HPK := hid (show PK w.heap.size w1.heap.size n (.slice A2 m.length c2) m (.slice A3 ts.length c3) ts (w1.alloc (.cells #[.slice A3 ts.length c3] 27)) from
    ⟨(heap_alloc_old _ _ (by omega)).trans ((hb1.block _ (by simp; omega)).trans HN0.out), (heap_alloc_old _ _ (by omega)).trans ((hb1.block _ (by simp)).trans HN1.out), heap_alloc_new _ _, (HU.out.low HB1.out).alloc _, hr1.below (below_new _), by omega⟩)
  have HB2 := hid (HB1.out.trans ((below_new (w := w1) (.cells #[.slice A3 ts.length c3] 27)).mono HB1.out.size))
  have hsz2 : w.heap.size ≤ (w1.alloc (.cells #[.slice A3 ts.length c3] 27)).heap.size := HB2.out.size
  have HTS := hid hts
  have HRE := hid (rowErrno_any (.cons x ks .nil) HTI.out.ok (by rw [HFL.out]; exact hlt) (by rw [HFL.out, ← HL.out]; exact HTI.out.sh) y yk HUI.out.ok HUI.out.len HUI.out.sh n (.slice A1 l.length c1) (.slice A2 m.length c2) (.slice A3 ts.length c3) ts hts _ (by rw [HFL.out]; exact (HX.out.low HB2.out).mono hsz2) (by rw [HM.out]; exact (HU.out.low HB2.out).mono hsz2) (HPK.out.rm.mono (by simp)))
  rw [HCD.out] at HRE
  have cN := Lib.cell_of_heap HPK.out.bn 0
  have cU := Lib.cell_of_heap HPK.out.bu 0
  have cM := Lib.cell_of_heap HPK.out.bb 0
  clear hr1 hb1 hts HKO
  go_wp2_with fail
  refine (HRE.out).mono ?_
  rintro e w3 ⟨rfl, hb3⟩
  have HB3 := hid (HB2.out.trans (hb3.mono HB2.out.size))
  have HK3 := hid (HPK.out.below hb3)
  clear hb3 HRE cN cU cM
  by_cases hc1 : ¬ cd = 0
  · have hc0 := hc1
    have HR : Hid (L.putRes n y yk (.cons x ks .nil) = ([], cd)) := hid (by rw [HRES.out, if_pos hc0])
    have ec : (cd != 0) = true := by simpa using hc0
    clear hc0 hc1
    go_wp2_with fail
    refine bodyPost_ret (v := .tuple #[.slice none 0 0, .int .i64 cd]) (by simp [results, Try.results8, go_sem]) rfl ?_
    rw [HR.out]
    exact ⟨_, rfl, Own.nil _ _, HB3.out⟩
  have hc0 : cd = 0 := Decidable.not_not.1 hc1
  rw [if_neg (fun g => g hc0)] at HRES
  have ec : (cd != 0) = false := by simp [hc0]
  have HS := hid (size_any l (by omega) HTO.out n (.slice A1 l.length c1) A2 m.length c2 hlu w3 ((HX.out.low HB3.out).mono HB3.out.size))
  rw [← HPS.out] at HS
  have cN := Lib.cell_of_heap HK3.out.bn 0
  have cU := Lib.cell_of_heap HK3.out.bu 0
  clear hc0 hc1
  go_wp2_with fail
  refine (HS.out).mono ?_
  rintro e w4 ⟨rfl, hb4⟩
  have HB4 := hid (HB3.out.trans (hb4.mono HB3.out.size))
  have HK4 := hid (HK3.out.below hb4)
  clear hb4 HS cN cU
  obtain ⟨pl, hpl⟩ : ∃ pl, P.length = pl := ⟨_, rfl⟩
  have HPL := hid hpl
  rw [hpl]
  clear hpl
  by_cases hp : 10000 < pl
  · have HR : Hid (L.putRes n y yk (.cons x ks .nil) = ([], 4)) := hid (by rw [HRES.out, if_pos (by rw [HPL.out]; exact hp)])
    have hp2 : (10000 : Int) < (pl : Int) := by omega
    go_wp2_with fail
    refine bodyPost_ret (v := .tuple #[.slice none 0 0, .int .i64 4]) (by simp [results, Try.results8, go_sem]) rfl ?_
    rw [HR.out]
    exact ⟨_, rfl, Own.nil _ _, HB4.out⟩
  have hp2 : ¬ (10000 : Int) < (pl : Int) := by omega
  rw [if_neg (by rw [HPL.out]; exact hp)] at HRES
  have hbm4 : w1.heap.size < w4.heap.size := heap_lt HK4.out.bb
  have HFO := hid (fold_any (L.putJ' n m (ts.map (·.2))) (fun _ => PK w.heap.size w1.heap.size n (.slice A2 m.length c2) m (.slice A3 ts.length c3) ts) (fun _ => False) (PZ n m (ts.map (·.2))) 21 #[.pointer (some ⟨w.heap.size, 0, none⟩), .pointer (some ⟨w.heap.size + 1, 0, none⟩), .pointer (some ⟨w1.heap.size, 0, none⟩)] enter_put1 w4 (fun _ g => g.elim)
    (fun _ W W' h hf => h.keep hf fun i g => by omega) (put_join w.heap.size w1.heap.size n (.slice A2 m.length c2) (.slice A3 ts.length c3) m (by rw [← HM.out]; simp) (by omega) ts (fun t ht => L.rows_ne yk t.2 (by rw [← HTS.out]; exact List.mem_map_of_mem ht)) (by
      have h1 := congrArg List.length HTS.out
      rw [List.length_map, L.rows_len] at h1
      have h2 := HUI.out.ok
      simp only [L.Fo.ok, Bool.and_eq_true, decide_eq_true_eq] at h2
      have := L.many_of_numbered h2.1.1.1.1
      omega)) (.cons x ks .nil) HTI.out.ok (by rw [HTS.out, ← HM.out]; exact HAP.out (by rw [HPL.out]; omega)) (by rw [HFL.out]; omega) (.slice A1 l.length c1) (by rw [HFL.out]; exact (HX.out.low HB4.out).mono HB4.out.size) (fun _ _ g => g) () HK4.out)
  go_wp2_with fail
  refine (HFO.out).mono ?_
  rintro e w5 ⟨v5, tk, rfl, hfk, hr5, -, hf5⟩
  have HB5 := hid (HB4.out.trans ((hf5.below (B := w4.heap.size) (Nat.le_refl _) (fun _ _ g => g)).mono HB4.out.size))
  have HC5 := hid (show Calls Try.prog 19 #[v5] w5 (OwnPost P w5) from by
    have h1 : tk.map (·.2) = L.putK n (y :: yk.flat) yk.rows (.cons x ks .nil) := by
      have := congrArg (·.2) hfk
      rw [HTS.out, ← HM.out] at this
      exact this.symm
    have h2 : catT tk = P := by rw [catT_map', h1, HPP.out]
    have h3 : tk.length = 1 := by
      rw [← List.length_map (f := fun t : VT => t.2), h1, L.putK_len]
      rfl
    have h := concat_all tk v5 w5 hr5.rdr (by omega) (by rw [h2, HPL.out]; omega)
    rwa [h2] at h)
  obtain ⟨A5, c5, rfl, -⟩ := hr5.val
  clear hfk hr5 hf5 HFO
  go_wp2_with fail
  refine (HC5.out).mono ?_
  rintro e w6 ⟨v6, rfl, hO6, hb6⟩
  have HB6 := hid (HB5.out.trans (hb6.mono HB5.out.size))
  have HO6 := hid (hO6.more HB5.out.size)
  have HRI := hid (right_any P HPN.out v6 w6 hO6.rd)
  obtain ⟨A6, c6, rfl, -⟩ := hO6.rd.len
  clear hO6 hb6 HC5
  go_wp2_with fail
  refine (HRI.out).mono ?_
  rintro e w7 ⟨rfl, hb7⟩
  have HB7 := hid (HB6.out.trans (hb7.mono HB6.out.size))
  have HO7 := hid (HO6.out.below hb7)
  clear hb7 HRI
  cases hri : L.rightL P with
  | true =>
    rw [hri, if_pos rfl] at HRES
    clear hri
    go_wp2_with fail
    refine bodyPost_ret (v := .tuple #[.slice A6 P.length c6, .int .i64 0]) (by simp [results, Try.results8, go_sem]) rfl ?_
    rw [HRES.out]
    exact ⟨_, rfl, HO7.out, HB7.out⟩
  | false =>
    rw [hri, if_neg (by simp)] at HRES
    clear hri
    go_wp2_with fail
    refine bodyPost_ret (v := .tuple #[.slice none 0 0, .int .i64 4]) (by simp [results, Try.results8, go_sem]) rfl ?_
    rw [HRES.out]
    exact ⟨_, rfl, Own.nil _ _, HB7.out⟩
end Go.Proofs.Ytkkigdbinnfbfaa
