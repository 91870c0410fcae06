/-
  The walk of graph's arranged. Conditions: few modules; rows of few numbers, and these turned; names unlike.
-/
import Derived.Test.YtahaflapkdjmhaaGrI
import Derived.Test.YtahaflapkdjmhaaGrC3
import Derived.Test.YtahaflapkdjmhaaGrQ
namespace Go.Proofs.Ytahaflapkdjmhaa
open Go.RowKit Go.Deep

namespace Gr
theorem Wt.congr {nx : Nat → List Nat} {n : Nat} {out : List Nat} {w w' : Nat → Nat} {q : List Nat} (h : Wt nx n out w q) (e : ∀ i, i < n → w i = w' i) : Wt nx n out w' q where
  nd := h.nd
  mem := fun x => by
    rw [h.mem]
    constructor
    · rintro ⟨a, b, c⟩; exact ⟨a, b, by rw [← e x a]; exact c⟩
    · rintro ⟨a, b, c⟩; exact ⟨a, b, by rw [e x a]; exact c⟩
  ws := fun k hk => by rw [← e k hk]; exact h.ws k hk
/-- The first loop: how many each of the first k has. -/
def CntK (rows : List (List Nat)) (k : Nat) (ws : List Nat) : Prop := ∀ i, i < rows.length → fn ws i = if i < k then (rowsF rows i).length else 0
theorem CntK.step {rows : List (List Nat)} {k : Nat} {ws : List Nat} (h : CntK rows k ws) (hk : k < rows.length) (hl : ws.length = rows.length) : CntK rows (k + 1) (ws.set k rows[k].length) := by
  intro i hi
  have h1 := h i hi
  simp only [fn, List.getD, List.getElem?_set] at h1 ⊢
  by_cases e : k = i
  · subst e
    simp [hl, hk, rowsF]
  · rw [if_neg e, h1]
    have : i < k + 1 ↔ i < k := by omega
    simp [this]
def zeroK (rows : List (List Nat)) (k : Nat) : List Nat := (List.range k).filter fun i => (rowsF rows i).length == 0
theorem zeroK_yes {rows : List (List Nat)} {k : Nat} (hk : k < rows.length) (h : rows[k].length = 0) : zeroK rows (k + 1) = zeroK rows k ++ [k] := by
  simp [zeroK, List.range_succ, rowsF, hk]
  exact List.eq_nil_of_length_eq_zero h
theorem zeroK_no {rows : List (List Nat)} {k : Nat} (hk : k < rows.length) (h : rows[k].length ≠ 0) : zeroK rows (k + 1) = zeroK rows k := by
  simp [zeroK, List.range_succ, rowsF, hk]
  intro e
  rw [e] at h
  exact h rfl
theorem zeroK_len (rows : List (List Nat)) (k : Nat) : (zeroK rows k).length ≤ k := by
  have := List.length_filter_le (fun i => (rowsF rows i).length == 0) (List.range k)
  rw [List.length_range] at this
  exact this
theorem zeroK_lt {rows : List (List Nat)} {k a : Nat} (h : a ∈ zeroK rows k) : a < k := List.mem_range.1 (List.mem_filter.1 h).1
theorem fn_set (ws : List Nat) (k : Nat) (hk : k < ws.length) : fn (ws.set k (fn ws k - 1)) = less1 (fn ws) k := by
  funext i
  simp only [fn, less1, List.getD, List.getElem?_set]
  by_cases e : k = i
  · subst e; simp [hk]
  · have : ¬ i = k := fun h => e h.symm
    simp [e, this]
/-- No two names are alike. -/
def Unlike (l : List Md) : Prop := ∀ a b, a < l.length → b < l.length → a ≠ b → nm l a ≠ nm l b
theorem Unlike.lt {l : List Md} (h : Unlike l) {a b : Nat} (ha : a < l.length) (hb : b < l.length) (hne : a ≠ b) (hle : nle l a b) : nlt l a b = true := by
  cases e : nlt l a b with
  | true => rfl
  | false => exact absurd (nlt_same e hle) (h a b ha hb hne)
theorem heap_nil (le : Nat → Nat → Prop) (f : Nat → Nat) : Hp.Heap le f 0 := fun k _ h => by omega
end Gr

theorem ArS.start (w : World) (lv : Value) (n : Nat) (hn : n ≤ 1000) : ArS ((w.alloc (.cells #[lv, .slice none 0 0] 48)).alloc (.cells (madeCells #[.int .i64 0] n) 3)) w.heap.size w.heap.size (w.heap.size + 1) n lv none 0 [] none 0 [] (List.replicate n 0) where
  qu := ⟨(Below.heap_alloc _ _ _ (by simp)).trans (heap_alloc_new w _), World.ownsRow_nil _ _ _ _, by simp, Nat.le_refl _⟩
  wait := by
    have := World.ownsRow_lit (base := w.heap.size) (e := 3) (size := 1) (w.alloc (.cells #[lv, .slice none 0 0] 48)) (madeCells #[.int .i64 0] n) n (by simp) (by unfold maxLen; omega) (by simp [size_madeCells])
    rw [toList_madeCells_one] at this
    have e : numV (List.replicate n 0) = List.replicate n (.int .i64 0) := by simp [numV]
    rw [e]
    simpa using this
  ord := World.ownsRow_nil _ _ _ _
  wq := by omega
  wA := by simp
  oq := by simp
  ow := by simp
  oA := fun g hg => by simp at hg

def lenOf : Value → Nat | .slice _ n _ => n | _ => 0

set_option maxHeartbeats 8000000 in
set_option maxRecDepth 1000000 in
theorem arranged_any (l : List Gr.Md) (hn : l.length ≤ 20) (hun : Gr.Unlike l) (rows us : List (List Nat)) (hrl : rows.length = l.length) (hul : us.length = l.length) (hr : ∀ r ∈ rows, ∀ k ∈ r, k < l.length) (hu : ∀ r ∈ us, ∀ k ∈ r, k < l.length)
    (hr20 : ∀ r ∈ rows, r.length ≤ 20) (hu400 : ∀ r ∈ us, r.length ≤ 400) (hcnt : ∀ i k, i < l.length → k < l.length → (Gr.rowsF us i).count k = (Gr.rowsF rows k).count i)
    (lv iv uv : Value) (w : World) (hx : RdM w w.heap.size lv l) (hi : RdG w w.heap.size iv rows) (hv : RdG w w.heap.size uv us) :
    Calls Try.prog 15 #[lv, iv, uv] w fun e w' => ∃ v out wt, e = .returned v ∧ RdN w' w'.heap.size v out ∧ Below w.heap.size w w' ∧ Gr.Greedy (fun a b => Gr.nlt l a b = true) (Gr.rowsF rows) l.length out ∧ Gr.Wt (Gr.rowsF rows) l.length out wt [] := by
  have HX := hid hx
  have HI := hid hi
  have HV := hid hv
  have HUN := hid hun
  have HR := hid hr
  have HU := hid hu
  have HR20 := hid hr20
  have HU400 := hid hu400
  have HCNT := hid hcnt
  have HRL := hid hrl
  have HUL := hid hul
  obtain ⟨i0, hi0, hz0, hz1, hz2⟩ := info_parts info_int
  obtain ⟨Al, capl, rfl, -, -, -⟩ := hx
  obtain ⟨bi, rfl, hbi, -⟩ := hi
  obtain ⟨bu, rfl, hbu, -⟩ := hv
  rw [hrl] at HI ⊢
  rw [hul] at HV ⊢
  clear hun hr hu hr20 hu400 hcnt hrl hul
  have hta := run_assert
  have hmk := run_make_row' (P := Try.prog) 30 3 (.int .i64 0) 8 Try.underlying30 info_int rfl .i64 .i64 l.length (by omega) (by omega)
  have HS0 := hid (ArS.start w (.slice Al l.length capl) l.length (by omega))
  have HB0 := hid (((Below.refl w.heap.size w).alloc (Nat.le_refl _) (.cells #[.slice Al l.length capl, .slice none 0 0] 48)).alloc (by simp) (.cells (madeCells #[.int .i64 0] l.length) 3))
  have HGR : Hid (∀ out, Gr.Greedy (fun a b => Gr.nlt l a b = true) (Gr.rowsF rows) l.length out → out.length ≤ l.length) := hid (fun out g => g.len_le)
  have HNX : Hid (∀ i, i < l.length → ∀ k ∈ Gr.rowsF rows i, k < l.length) := hid (fun i hi k hk => by
    have h1 : i < rows.length := by rw [HRL.out]; exact hi
    simp only [Gr.rowsF, List.getElem?_eq_getElem h1, Option.getD_some] at hk
    exact HR.out _ (List.getElem_mem h1) k hk)
  go_enter Try.func15, Try.ntmps15
  go_wp2_with fail
  go_loopw [23] (fun vi wr => ∃ (k : Nat) (ws its : List Nat) (A : Option Addr) (c : Nat), vi = .int .i64 k ∧ k ≤ l.length ∧ Hid (Gr.CntK rows k ws ∧ its.Perm (Gr.zeroK rows k) ∧ Hp.Heap (Gr.nle l) (Gr.fn its) its.length) ∧ ArS wr w.heap.size w.heap.size (w.heap.size + 1) l.length (.slice Al l.length capl) A c its none 0 [] ws ∧ Below w.heap.size w wr) (fun vi _ => l.length - (intOf vi).toNat)
  case atStart => exact ⟨0, _, [], none, 0, rfl, by omega, hid ⟨fun i hi => by simp [Gr.fn, List.getD, List.getElem?_replicate]; split <;> rfl, .refl _, Gr.heap_nil _ _⟩, HS0.out, HB0.out⟩
  case round =>
    obtain ⟨k, ws, its, A, c, rfl, hk, hE, hA, hbel⟩ := hrel
    have HA := hid hA
    have HB := hid hbel
    have hsz := hbel.size
    clear hA hbel
    by_cases hlt : k < l.length
    · have hkz : (k : Int) < (l.length : Int) := by omega
      have hkr : k < rows.length := by rw [HRL.out]; exact hlt
      obtain ⟨Ai, ci, -, x0, -⟩ := HI.out.atv HB.out hkr
      obtain ⟨y1, y2⟩ := HA.out.cell hlt
      have HM20 := HR20.out _ (List.getElem_mem hkr)
      have HC1 := hid (hE.out.1.step hkr (HA.out.ws_len.trans HRL.out.symm))
      have HZY := hid (Gr.zeroK_yes (rows := rows) hkr)
      have HZN := hid (Gr.zeroK_no (rows := rows) hkr)
      obtain ⟨m, hm⟩ : ∃ m, m = rows[k].length := ⟨_, rfl⟩
      rw [← hm] at x0 HC1 HZY HZN HM20
      clear hm
      have HA1 := hid (HA.out.set k m)
      have HB1 := hid (HB.out.setCell (p := ⟨w.heap.size + 1, k, none⟩) (by simp) (.int .i64 (m : Int)))
      obtain ⟨v0, hv0⟩ : ∃ v0, v0 = ws.getD k 0 := ⟨_, rfl⟩
      rw [← hv0] at y1
      clear hv0
      by_cases hm0 : m = 0
      · have hmz : ((m : Int) == 0) = true := by simp [hm0]
        have hlen := hE.out.2.1.length_eq
        have hzl := Gr.zeroK_len rows k
        have HP := hid (hpush_any HA1.out.qu (by omega) (l := l) (HX.out.below HB1.out) (by simp; omega) (fun a ha => by have := Gr.zeroK_lt (hE.out.2.1.mem_iff.1 ha); omega) hE.out.2.2 hlt)
        have HM := hid (HZY.out hm0)
        clear hm0 hlen hzl
        go_wp2_with fail
        refine (HP.out).mono ?_
        rintro e w1 ⟨rfl, A1, c1, its1, hp1, hh1, hq1, hk1⟩
        have HE1 := hid (show ArS w1 w.heap.size w.heap.size (w.heap.size + 1) l.length (.slice Al l.length capl) A1 c1 its1 none 0 [] (ws.set k m) ∧ Below w.heap.size w w1 ∧ its1.Perm (Gr.zeroK rows (k + 1)) ∧ Hp.Heap (Gr.nle l) (Gr.fn its1) its1.length from
          ⟨HA1.out.turned hq1 hk1, HB1.out.trans (hk1.below (Nat.le_refl _) (fun g hg => (HA1.out.qu.rowlo g hg).1) (by simp; omega)), by rw [HM.out]; exact hp1.trans ((hE.out.2.1.cons k).trans (List.perm_append_singleton k _).symm), hh1⟩)
        clear hp1 hh1 hq1 hk1
        go_wp2_with fail
        go_roundw
        case rel => exact ⟨k + 1, _, its1, A1, c1, by go_num, by omega, hid ⟨HC1.out, HE1.out.2.2.1, HE1.out.2.2.2⟩, HE1.out.1, HE1.out.2.1⟩
        case measure => simp [intOf]; omega
      · have hmz : ((m : Int) == 0) = false := by simp [hm0]
        have HM := hid (HZN.out hm0)
        clear hm0
        go_wp2_with fail
        go_roundw
        case rel => exact ⟨k + 1, _, its, A, c, by go_num, by omega, hid ⟨HC1.out, by rw [HM.out]; exact hE.out.2.1, hE.out.2.2⟩, HA1.out, HB1.out⟩
        case measure => simp [intOf]; omega
    · have hkz : ¬ (k : Int) < (l.length : Int) := by omega
      have HW0 : Hid (Gr.Wt (Gr.rowsF rows) l.length [] (Gr.fn ws) its) := hid (by
        have e : k = l.length := by omega
        subst e
        have h1 := hE.out.2.1
        unfold Gr.zeroK at h1
        refine (Gr.Wt.start h1).congr (fun i hi => ?_)
        have := hE.out.1 i (by rw [HRL.out]; exact hi)
        rw [if_pos hi] at this
        exact this.symm)
      have HH0 := hid hE.out.2.2
      clear hE
      go_wp2_with fail
      go_loopw [7] (fun vo wr => ∃ (out ws its : List Nat) (A : Option Addr) (c : Nat) (Ao : Option Addr) (co : Nat), vo = .slice Ao out.length co ∧ Hid (Gr.Greedy (fun a b => Gr.nlt l a b = true) (Gr.rowsF rows) l.length out ∧ Gr.Wt (Gr.rowsF rows) l.length out (Gr.fn ws) its ∧ Hp.Heap (Gr.nle l) (Gr.fn its) its.length) ∧ ArS wr w.heap.size w.heap.size (w.heap.size + 1) l.length (.slice Al l.length capl) A c its Ao co out ws ∧ Below w.heap.size w wr) (fun vo _ => l.length - lenOf vo)
      case atStart => exact ⟨[], ws, its, A, c, none, 0, rfl, hid ⟨.nil, HW0.out, HH0.out⟩, HA.out, HB.out⟩
      case round =>
        clear HW0 HH0 HA HB
        obtain ⟨out, ws, its, A, c, Ao, co, rfl, hE, hA, hbel⟩ := hrel
        have HA := hid hA
        have HB := hid hbel
        have hsz := hbel.size
        obtain ⟨wo, hwo⟩ : ∃ wo : World, wo = wr := ⟨_, rfl⟩
        subst hwo
        have HL := hid (len_any hA.qu)
        have hil : its.length ≤ l.length := Gr.nodup_le _ its hE.out.2.1.nd (fun x hx => ((hE.out.2.1.mem x).1 hx).1)
        have hol := HGR.out _ hE.out.1
        obtain ⟨m, hm⟩ : ∃ m, m = its.length := ⟨_, rfl⟩
        rw [← hm] at HL hil
        have HM := hid hm
        clear hA hbel hm
        by_cases h0 : 0 < m
        · have h0z : (0 : Int) < (m : Int) := by omega
          have HP := hid (hpop_any HA.out.qu (by rw [← HM.out]; omega) (l := l) (HX.out.below HB.out) hsz (fun a ha => ((hE.out.2.1.mem a).1 ha).1) hE.out.2.2 (by rw [← HM.out]; omega))
          go_wp2_with fail
          refine (HL.out).mono ?_
          rintro e w1 ⟨rfl, rfl⟩
          go_wp2_with fail
          refine (HP.out).mono ?_
          rintro e w1 ⟨x, its1, rfl, hp1, hle1, hh1, hq1, hk1⟩
          have HA1 := hid (HA.out.turned hq1 hk1)
          have HB1 := hid (HB.out.trans (hk1.below (Nat.le_refl _) (fun g hg => (HA.out.qu.rowlo g hg).1) hsz))
          have HH1 := hid hh1
          have hsz1 := HB1.out.size
          have hxl : x < l.length := ((hE.out.2.1.mem x).1 (hp1.mem_iff.2 (by simp))).1
          have HLS : Hid (Gr.Least (fun a b => Gr.nlt l a b = true) l.length (Gr.May (Gr.rowsF rows) out) x) := hid (hE.out.2.1.least hp1 (fun y hy => by
            have hyl : y < l.length := ((hE.out.2.1.mem y).1 (hp1.mem_iff.2 (List.mem_cons_of_mem _ hy))).1
            have hne : x ≠ y := by
              have hnd := hp1.nodup_iff.1 hE.out.2.1.nd
              rw [List.nodup_cons] at hnd
              exact fun e => hnd.1 (e ▸ hy)
            exact HUN.out.lt hxl hyl hne (hle1 y hy)))
          have HMD := hid (hE.out.2.1.take hp1)
          have HORD := hid hE.out.1.ord
          have HROW := hid HA1.out.ord
          have hxu : x < us.length := by rw [HUL.out]; exact hxl
          have hxz : (x : Int) < (l.length : Int) := by omega
          have HCX := hid (fun k hk => HCNT.out x k hxl hk)
          have HKL := hid (HU.out _ (List.getElem_mem hxu))
          have HK4 := HU400.out _ (List.getElem_mem hxu)
          have HRF : Hid (Gr.rowsF us x = us[x]) := hid (by simp [Gr.rowsF, hxu])
          have HVX := hid (fun (W : World) (hW : Below w.heap.size w W) => HV.out.atv hW hxu)
          obtain ⟨ks, hks⟩ : ∃ ks, us[x] = ks := ⟨_, rfl⟩
          rw [hks] at HKL HRF HVX HK4
          have HCX2 : Hid (∀ k, k < l.length → ks.count k = (Gr.rowsF rows k).count x) := hid (fun k hk => by rw [← HRF.out]; exact HCX.out k hk)
          clear hp1 hle1 hh1 hq1 hk1 hks HCX HRF HL HP
          go_wp2_with (at_builtin; refine wpList_append_own_at _ rfl _ _ 30 rfl w.heap.size 3 i0 (.int .i64 0) 1 8 Try.underlying30 hi0 hz0 hz1 hz2 rfl (by decide) _ _ _ rfl (HROW.out.alloc _) ⟨w1.heap.size, 0, none⟩ 1 1 [.int .i64 (x : Int)] rfl rfl (cell_one_new _ _ _) (ints_oneCell .i64 [(x : Int)]) (by unfold maxLen; omega) (by omega) (by simp; omega) ?_; intro v' w2 hown' hgrow hnil hloc; obtain ⟨g', cap', rfl⟩ := row_succ hown'; have HA2 := hid (HA1.out.more hown' hgrow hloc); have HB2 := hid (HB1.out.trans (((Below.refl w.heap.size w1).alloc hsz1 _).grown hgrow (by simp; omega) (fun k hk => (HROW.out.lt k hk).1))); obtain ⟨Au, cu, hbu2, u0, HKS⟩ := HVX.out _ HB2.out; have HKS := hid HKS; clear hown' hgrow hnil hloc)
          go_loopw [58] (fun vj wi => ∃ (j : Nat) (ws its : List Nat) (A : Option Addr) (c : Nat), vj = .int .i64 j ∧ j ≤ ks.length ∧ Hid (Gr.Md2 (Gr.rowsF rows) l.length out x (ks.take j) (Gr.fn ws) its ∧ Hp.Heap (Gr.nle l) (Gr.fn its) its.length) ∧ ArS wi w.heap.size w.heap.size (w.heap.size + 1) l.length (.slice Al l.length capl) A c its (some ⟨g', 0, none⟩) cap' (out ++ [x]) ws ∧ Below w.heap.size w wi) (fun vj _ => ks.length - (intOf vj).toNat)
          case atStart => exact ⟨0, ws, its1, A, c, rfl, by omega, hid ⟨HMD.out, HH1.out⟩, HA2.out, HB2.out⟩
          case round =>
            clear HA2 HB2 HA1 HB1 HMD HH1 HA HB HROW
            obtain ⟨j, ws, its, A, c, rfl, hj, hM, hA, hbel⟩ := hrel
            have HA := hid hA
            have HB := hid hbel
            have hsz3 := hbel.size
            obtain ⟨wj, hwj⟩ : ∃ wj : World, wj = wr := ⟨_, rfl⟩
            subst hwj
            clear hA hbel
            by_cases hjl : j < ks.length
            · have hjz : (j : Int) < (ks.length : Int) := by omega
              obtain ⟨bk, rfl, -, z0⟩ := HKS.out.atv HB.out hjl
              have hql := HKL.out ks[j] (List.getElem_mem hjl)
              have hsplit : ks = ks.take j ++ ks[j] :: ks.drop (j + 1) := by rw [← List.drop_eq_getElem_cons hjl, List.take_append_drop]
              have hpos := hM.out.1.pos (vs := ks.drop (j + 1)) hql HLS.out.so.1 (by rw [← hsplit]; exact Nat.le_of_eq (HCX2.out _ hql))
              have HSTEP := hid (fun q2 => hM.out.1.step (q' := q2) hql HORD.out.1 HLS.out.so.2 hpos)
              have htk : ks.take (j + 1) = ks.take j ++ [ks[j]] := by rw [List.take_succ_eq_append_getElem hjl]
              rw [← htk] at HSTEP
              have HF := hid (Gr.fn_set ws ks[j] (by rw [HA.out.ws_len]; exact hql))
              obtain ⟨y1, y2⟩ := HA.out.cell hql
              have hil2 : its.length ≤ l.length := Gr.nodup_le _ its hM.out.1.nd (fun x hx => ((hM.out.1.mem x).1 hx).1)
              have hqlz : (ks[j] : Int) < (l.length : Int) := by omega
              have hv20 : Gr.fn ws ks[j] ≤ 20 := by
                have h1 := hM.out.1.ws _ hql
                have h2 : Gr.rest (Gr.rowsF rows) out ks[j] ≤ (Gr.rowsF rows ks[j]).length := List.countP_le_length
                have h3 : ks[j] < rows.length := by rw [HRL.out]; exact hql
                have h4 := HR20.out _ (List.getElem_mem h3)
                rw [Gr.rowsF, List.getElem?_eq_getElem h3] at h2
                simp only [Option.getD_some] at h2
                omega
              obtain ⟨q, hq⟩ : ∃ q, ks[j] = q := ⟨_, rfl⟩
              simp only [hq] at z0 hql hpos HSTEP HF y1 y2 hqlz hv20
              clear hsplit htk hq
              obtain ⟨v, hv⟩ : ∃ v, Gr.fn ws q = v := ⟨_, rfl⟩
              rw [show ws.getD q 0 = Gr.fn ws q from rfl, hv] at y1
              rw [hv] at hpos HSTEP HF hv20
              obtain ⟨v', hv'⟩ : ∃ v', v - 1 = v' := ⟨_, rfl⟩
              rw [hv'] at HSTEP HF
              have ev : (v : Int) - 1 = (v' : Int) := by omega
              have hv20' : v' ≤ 20 := by omega
              have HA1 := hid (HA.out.set q v')
              have HB1 := hid (HB.out.setCell (p := ⟨w.heap.size + 1, q, none⟩) (by simp) (.int .i64 (v' : Int)))
              have y3 : (wj.setCell ⟨w.heap.size + 1, q, none⟩ (.int .i64 (v' : Int))).cell? ⟨w.heap.size + 1, q, none⟩ = some (.int .i64 (v' : Int)) := World.cell?_setCell_same _ _ _ y1
              clear hv hv'
              by_cases hv0 : v' = 0
              · have hvz : ((v' : Int) == 0) = true := by simp [hv0]
                have HP := hid (hpush_any HA1.out.qu (by omega) (l := l) (HX.out.below HB1.out) (by simp; omega) (fun a ha => ((hM.out.1.mem a).1 ha).1) hM.out.2 hql)
                have HS2 := hid (fun q2 (hp : q2.Perm (q :: its)) => HSTEP.out q2 (by rw [if_pos hv0]; exact hp))
                clear hv0
                go_wp2_with fail
                refine (HP.out).mono ?_
                rintro e w3 ⟨rfl, A1, c1, its2, hp1, hh1, hq1, hk1⟩
                have HE1 := hid (show ArS w3 w.heap.size w.heap.size (w.heap.size + 1) l.length (.slice Al l.length capl) A1 c1 its2 (some ⟨g', 0, none⟩) cap' (out ++ [x]) (ws.set q v') ∧ Below w.heap.size w w3 ∧ Gr.Md2 (Gr.rowsF rows) l.length out x (ks.take (j + 1)) (Gr.fn (ws.set q v')) its2 ∧ Hp.Heap (Gr.nle l) (Gr.fn its2) its2.length from
                  ⟨HA1.out.turned hq1 hk1, HB1.out.trans (hk1.below (Nat.le_refl _) (fun g hg => (HA1.out.qu.rowlo g hg).1) (by simp; omega)), by rw [HF.out]; exact HS2.out its2 hp1, hh1⟩)
                clear hp1 hh1 hq1 hk1
                go_wp2_with fail
                go_roundw
                case rel => exact ⟨j + 1, _, its2, A1, c1, by go_num, by omega, hid ⟨HE1.out.2.2.1, HE1.out.2.2.2⟩, HE1.out.1, HE1.out.2.1⟩
                case measure => simp [intOf]; omega
              · have hvz : ((v' : Int) == 0) = false := by simp [hv0]
                have HS2 := hid (HSTEP.out its (by rw [if_neg hv0]))
                clear hv0
                go_wp2_with fail
                go_roundw
                case rel => exact ⟨j + 1, _, its, A, c, by go_num, by omega, hid ⟨by rw [HF.out]; exact HS2.out, hM.out.2⟩, HA1.out, HB1.out⟩
                case measure => simp [intOf]; omega
            · have hjz : ¬ (j : Int) < (ks.length : Int) := by omega
              have HD := hid (show Gr.Wt (Gr.rowsF rows) l.length (out ++ [x]) (Gr.fn ws) its from by
                have e : j = ks.length := by omega
                subst e
                have h1 := hM.out.1
                rw [List.take_length] at h1
                exact h1.done HLS.out.so.1 HCX2.out)
              have HHH := hid hM.out.2
              clear hM hjl
              go_wp2_with fail
              go_roundw
              case rel => exact ⟨out ++ [x], ws, its, A, c, some ⟨g', 0, none⟩, cap', by simp, hid ⟨hE.out.1.snoc HLS.out, HD.out, HHH.out⟩, HA.out, HB.out⟩
              case measure =>
                have := HGR.out _ (hE.out.1.snoc HLS.out)
                simp at this
                simp [lenOf]
                omega
        · have h0z : ¬ (0 : Int) < (m : Int) := by omega
          have hi0 : its = [] := List.eq_nil_of_length_eq_zero (by rw [← HM.out]; omega)
          subst hi0
          have HV := hid (own_rd HA.out.ord)
          have HG := hid (show Gr.Greedy (fun a b => Gr.nlt l a b = true) (Gr.rowsF rows) l.length out ∧ Gr.Wt (Gr.rowsF rows) l.length out (Gr.fn ws) [] from ⟨hE.out.1, hE.out.2.1⟩)
          clear hE
          go_wp2_with fail
          refine (HL.out).mono ?_
          rintro e w1 ⟨rfl, rfl⟩
          go_wp2_with fail
          go_ret
          exact ⟨_, out, Gr.fn ws, rfl, HV.out, HB.out, HG.out.1, HG.out.2⟩

end Go.Proofs.Ytahaflapkdjmhaa
