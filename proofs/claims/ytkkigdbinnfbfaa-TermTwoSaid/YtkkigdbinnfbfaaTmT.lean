/-
  What Put makes, on trees as the program builds them; two puts in any order. No program.
-/
import Derived.Test.YtkkigdbinnfbfaaTmS
namespace Go.Proofs.Ytkkigdbinnfbfaa.L
open Go

/-- Two ordered rows merged. -/
def Fo.mrg : Fo → Fo → Fo
  | .nil, b => b
  | .cons x k a, .nil => .cons x k a
  | .cons x k a, .cons y l b => if befN y x = true then .cons y l (Fo.mrg (.cons x k a) b) else .cons x k (Fo.mrg a (.cons y l b))
termination_by a b => a.count + b.count
decreasing_by all_goals simp only [Fo.count]; omega
theorem mrg_nil (b : Fo) : Fo.mrg .nil b = b := by rw [Fo.mrg]
theorem mrg_none (a : Fo) : Fo.mrg a .nil = a := by cases a <;> rw [Fo.mrg]
theorem mrg_cons (x : Nd) (k a : Fo) (y : Nd) (l b : Fo) : Fo.mrg (.cons x k a) (.cons y l b) = if befN y x = true then .cons y l (Fo.mrg (.cons x k a) b) else .cons x k (Fo.mrg a (.cons y l b)) := by rw [Fo.mrg]
theorem mrg_rows : ∀ a b : Fo, (Fo.mrg a b).rows = mergeL a.rows b.rows
  | .nil, b => by rw [mrg_nil, Fo.rows, mergeL]
  | .cons x k a, .nil => by rw [mrg_none, Fo.rows, Fo.rows, mergeL]
  | .cons x k a, .cons y l b => by
    rw [mrg_cons, Fo.rows, Fo.rows, mergeL]
    have e : befN (hd0 (y :: l.flat)) (hd0 (x :: k.flat)) = befN y x := rfl
    rw [e]
    split
    · rw [Fo.rows, mrg_rows (.cons x k a) b, Fo.rows]
    · rw [Fo.rows, mrg_rows a (.cons y l b), Fo.rows]
termination_by a b => a.count + b.count
decreasing_by all_goals simp only [Fo.count]; omega
/-- A row without its last tree. -/
def Fo.init : Fo → Fo
  | .nil => .nil
  | .cons x k r => match r with
    | .nil => .nil
    | .cons y l s => .cons x k (Fo.init (.cons y l s))
theorem init_one (x : Nd) (k : Fo) : Fo.init (.cons x k .nil) = .nil := by rw [Fo.init]
theorem init_cons (x : Nd) (k : Fo) (y : Nd) (l s : Fo) : Fo.init (.cons x k (.cons y l s)) = .cons x k (Fo.init (.cons y l s)) := by rw [Fo.init]
theorem init_rows : ∀ f : Fo, f.init.rows = f.rows.dropLast
  | .nil => rfl
  | .cons x k .nil => rfl
  | .cons x k (.cons y l s) => by
    rw [init_cons, Fo.rows, init_rows (.cons y l s)]
    simp [Fo.rows]
/-- A row with others in place of its Tail n. -/
def Fo.ext (n : Int) (f more : Fo) : Fo := if openB n f.rows = true then f.init.mrg more else f
theorem ext_rows (n : Int) (f more : Fo) : (Fo.ext n f more).rows = extL n f.rows more.rows := by
  unfold Fo.ext extL
  split
  · rw [mrg_rows, init_rows]
  · rfl
theorem ext_nil (n : Int) (more : Fo) : Fo.ext n .nil more = .nil := by unfold Fo.ext; rfl
theorem ext_not {n : Int} {f : Fo} (h : openB n f.rows = false) (more : Fo) : Fo.ext n f more = f := by unfold Fo.ext; rw [h]; rfl
theorem ext_open {n : Int} {f : Fo} (h : openB n f.rows = true) (more : Fo) : Fo.ext n f more = f.init.mrg more := by unfold Fo.ext; rw [h]; rfl
/-- u, with the children uk, for n. -/
def Fo.pt (n : Int) (u : Nd) (uk : Fo) : Fo → Fo
  | .nil => .nil
  | .cons x ks r => if x.kind = 8 ∧ x.n = n then .cons ⟨u.kind, x.name, u.n⟩ uk (Fo.pt n u uk r)
    else .cons ⟨x.kind, x.name, x.n + ((Fo.ext n (Fo.pt n u uk ks) uk).count - (ks.count : Int))⟩ (Fo.ext n (Fo.pt n u uk ks) uk) (Fo.pt n u uk r)
theorem pt_nil (n : Int) (u : Nd) (uk : Fo) : Fo.pt n u uk .nil = .nil := rfl
theorem pt_var {n : Int} (u : Nd) (uk : Fo) {x : Nd} (h : x.kind = 8 ∧ x.n = n) (ks r : Fo) : Fo.pt n u uk (.cons x ks r) = .cons ⟨u.kind, x.name, u.n⟩ uk (Fo.pt n u uk r) := by rw [Fo.pt, if_pos h]
theorem pt_else {n : Int} (u : Nd) (uk : Fo) {x : Nd} (h : ¬(x.kind = 8 ∧ x.n = n)) (ks r : Fo) : Fo.pt n u uk (.cons x ks r) = .cons ⟨x.kind, x.name, x.n + ((Fo.ext n (Fo.pt n u uk ks) uk).count - (ks.count : Int))⟩ (Fo.ext n (Fo.pt n u uk ks) uk) (Fo.pt n u uk r) := by rw [Fo.pt, if_neg h]
theorem pt_leaf {n : Int} (u : Nd) (uk : Fo) {x : Nd} (h : ¬(x.kind = 8 ∧ x.n = n)) (r : Fo) : Fo.pt n u uk (.cons x .nil r) = .cons x .nil (Fo.pt n u uk r) := by
  rw [pt_else u uk h, pt_nil, ext_nil]
  obtain ⟨k, s, m⟩ := x
  simp
theorem pt_count (n : Int) (u : Nd) (uk : Fo) : ∀ f : Fo, (Fo.pt n u uk f).count = f.count
  | .nil => rfl
  | .cons x ks r => by
    by_cases h : x.kind = 8 ∧ x.n = n
    · rw [pt_var u uk h]; simp only [Fo.count, pt_count n u uk r]
    · rw [pt_else u uk h]; simp only [Fo.count, pt_count n u uk r]
theorem pt_rows (n : Int) (u : Nd) (uk : Fo) : ∀ f : Fo, putK n (u :: uk.flat) uk.rows f = (Fo.pt n u uk f).rows
  | .nil => rfl
  | .cons x ks r => by
    have ik := pt_rows n u uk ks
    have ir := pt_rows n u uk r
    rw [putK_cons]
    unfold putJ
    by_cases h : x.kind = 8 ∧ x.n = n
    · rw [if_pos h, pt_var u uk h, Fo.rows, ir]; rfl
    · rw [if_neg h, pt_else u uk h, Fo.rows, ir]
      congr 1
      rw [ik, ← ext_rows, rows_flat, rows_len, rows_len, pt_count]

/-! ### Which trees it has -/
/-- Every node has as many children as it says. -/
def Fo.cnt : Fo → Prop
  | .nil => True
  | .cons x ks r => many x = ks.count ∧ ks.cnt ∧ r.cnt
theorem cnt_ok : ∀ f : Fo, f.ok = true → f.cnt
  | .nil, _ => trivial
  | .cons x ks r, h => by
    simp only [Fo.ok, Bool.and_eq_true, decide_eq_true_eq] at h
    obtain ⟨⟨⟨⟨hn, hm⟩, hs⟩, hk⟩, hr⟩ := h
    exact ⟨hm, cnt_ok ks hk, cnt_ok r hr⟩
theorem cnt_mrg : ∀ a b : Fo, a.cnt → b.cnt → (Fo.mrg a b).cnt
  | .nil, b, _, hb => by rw [mrg_nil]; exact hb
  | .cons x k a, .nil, ha, _ => by rw [mrg_none]; exact ha
  | .cons x k a, .cons y l b, ha, hb => by
    rw [mrg_cons]
    split
    · exact ⟨hb.1, hb.2.1, cnt_mrg (.cons x k a) b ha hb.2.2⟩
    · exact ⟨ha.1, ha.2.1, cnt_mrg a (.cons y l b) ha.2.2 hb⟩
termination_by a b => a.count + b.count
decreasing_by all_goals simp only [Fo.count]; omega
theorem cnt_init : ∀ f : Fo, f.cnt → f.init.cnt
  | .nil, _ => trivial
  | .cons x k .nil, _ => trivial
  | .cons x k (.cons y l s), h => by
    rw [init_cons]
    exact ⟨h.1, h.2.1, cnt_init (.cons y l s) h.2.2⟩
theorem flat_uniq : ∀ (f g : Fo) (s t : List Nd), f.cnt → g.cnt → f.count = g.count → f.flat ++ s = g.flat ++ t → f = g ∧ s = t
  | .nil, .nil, s, t, _, _, _, h => ⟨rfl, by simpa [Fo.flat] using h⟩
  | .nil, .cons _ _ _, _, _, _, _, h, _ => by simp [Fo.count] at h
  | .cons _ _ _, .nil, _, _, _, _, h, _ => by simp [Fo.count] at h
  | .cons x a r, .cons y b q, s, t, hf, hg, hc, h => by
    simp only [Fo.flat, List.cons_append, List.append_assoc, List.cons.injEq] at h
    obtain ⟨rfl, h⟩ := h
    simp only [Fo.cnt] at hf hg
    simp only [Fo.count] at hc
    obtain ⟨rfl, h2⟩ := flat_uniq a b _ _ hf.2.1 hg.2.1 (by have := hf.1.symm.trans hg.1; omega) h
    obtain ⟨rfl, h3⟩ := flat_uniq r q _ _ hf.2.2 hg.2.2 (by omega) h2
    exact ⟨rfl, h3⟩

/-! ### Heads -/
/-- The Tails at the top have no children. -/
def Fo.l9 : Fo → Prop
  | .nil => True
  | .cons x ks r => (x.kind = 9 → ks = .nil) ∧ r.l9
theorem l9_cnt : ∀ f : Fo, f.cnt → f.l9
  | .nil, _ => trivial
  | .cons _ _ r, h => ⟨fun h9 => kids_none h.1 (Or.inr h9), l9_cnt r h.2.2⟩
theorem l9_init : ∀ f : Fo, f.l9 → f.init.l9
  | .nil, _ => trivial
  | .cons x k .nil, _ => trivial
  | .cons x k (.cons y l s), h => by
    rw [init_cons]
    exact ⟨h.1, l9_init (.cons y l s) h.2⟩
theorem l9_pt {n : Int} {u : Nd} (hu : u.kind ≠ 9) (uk : Fo) : ∀ f : Fo, f.l9 → (Fo.pt n u uk f).l9
  | .nil, _ => trivial
  | .cons x ks r, h => by
    have ir := l9_pt (n := n) hu uk r h.2
    by_cases hv : x.kind = 8 ∧ x.n = n
    · rw [pt_var u uk hv]; exact ⟨fun h9 => absurd h9 hu, ir⟩
    · by_cases h9 : x.kind = 9
      · obtain rfl := h.1 h9
        rw [pt_leaf u uk hv]; exact ⟨fun _ => rfl, ir⟩
      · rw [pt_else u uk hv]; exact ⟨fun g => absurd g h9, ir⟩
/-- Is it a Tail, and its label: all that a row's order asks of. -/
def hs (l : List Nd) : Bool × ByteArray := (decide ((hd0 l).kind = 9), (hd0 l).name)
theorem befN_hs {a b c d : Nd} (h1 : decide (a.kind = 9) = decide (c.kind = 9)) (h2 : a.name = c.name) (h3 : decide (b.kind = 9) = decide (d.kind = 9)) (h4 : b.name = d.name) : befN a b = befN c d := by
  unfold befN
  rw [h2, h4]
  have e1 : a.kind = 9 ↔ c.kind = 9 := by simpa using h1
  have e2 : b.kind = 9 ↔ d.kind = 9 := by simpa using h3
  simp only [e1, e2]
theorem mergeL_hs : ∀ {a b c d : List (List Nd)}, a.map hs = c.map hs → b.map hs = d.map hs → (mergeL a b).map hs = (mergeL c d).map hs
  | [], b, [], d, _, h => by rw [mergeL, mergeL]; exact h
  | [], _, _ :: _, _, h, _ => by simp at h
  | _ :: _, _, [], _, h, _ => by simp at h
  | x :: a, [], y :: c, [], h, _ => by rw [mergeL, mergeL]; exact h
  | _ :: _, [], _ :: _, _ :: _, _, h => by simp at h
  | _ :: _, _ :: _, _ :: _, [], _, h => by simp at h
  | x :: a, y :: b, z :: c, v :: d, h, g => by
    rw [mergeL, mergeL]
    simp only [List.map_cons, List.cons.injEq] at h g
    have h1 := h.1
    have g1 := g.1
    unfold hs at h1 g1
    simp only [Prod.mk.injEq] at h1 g1
    rw [befN_hs g1.1 g1.2 h1.1 h1.2]
    split
    · rw [List.map_cons, List.map_cons, g.1, mergeL_hs (a := x :: a) (c := z :: c) (by simp [h.1, h.2]) g.2]
    · rw [List.map_cons, List.map_cons, h.1, mergeL_hs (b := y :: b) (d := v :: d) h.2 (by simp [g.1, g.2])]
termination_by a b => a.length + b.length
theorem tops1_hs : ∀ f : Fo, f.tops1.map hs = f.rows.map hs
  | .nil => rfl
  | .cons x ks r => by simp only [Fo.tops1, Fo.rows, List.map_cons, tops1_hs r]; rfl
theorem pt_hs {n : Int} {u : Nd} (hu : u.kind ≠ 9) (uk : Fo) : ∀ f : Fo, (Fo.pt n u uk f).rows.map hs = f.rows.map hs
  | .nil => rfl
  | .cons x ks r => by
    have ir := pt_hs (n := n) hu uk r
    by_cases h : x.kind = 8 ∧ x.n = n
    · rw [pt_var u uk h]
      simp only [Fo.rows, List.map_cons, ir]
      congr 1
      have hx9 : x.kind ≠ 9 := by omega
      show (decide (u.kind = 9), x.name) = (decide (x.kind = 9), x.name)
      rw [decide_eq_false hu, decide_eq_false hx9]
    · rw [pt_else u uk h]
      simp only [Fo.rows, List.map_cons, ir]
      rfl
theorem pt_openB {n : Int} {u : Nd} (hu : u.kind ≠ 9) (uk : Fo) (m : Int) : ∀ f : Fo, f.l9 → openB m (Fo.pt n u uk f).rows = openB m f.rows
  | .nil, _ => rfl
  | .cons x ks r, hc => by
    have ir := pt_openB (n := n) hu uk m r hc.2
    have hx : ∃ y l, Fo.pt n u uk (.cons x ks r) = .cons y l (Fo.pt n u uk r) ∧ decide (y = ⟨9, ⟨#[]⟩, m⟩) = decide (x = ⟨9, ⟨#[]⟩, m⟩) := by
      by_cases h : x.kind = 8 ∧ x.n = n
      · refine ⟨_, _, pt_var u uk h _ _, ?_⟩
        rw [decide_eq_false (fun e => hu (congrArg Nd.kind e)), decide_eq_false (fun e => by have := congrArg Nd.kind e; simp at this; omega)]
      · by_cases h9 : x.kind = 9
        · obtain rfl := hc.1 h9
          exact ⟨_, _, pt_leaf u uk h _, rfl⟩
        · refine ⟨_, _, pt_else u uk h _ _, ?_⟩
          rw [decide_eq_false (fun e => h9 (congrArg Nd.kind e)), decide_eq_false (fun e => h9 (congrArg Nd.kind e))]
    obtain ⟨y, l, e, hy⟩ := hx
    rw [e]
    cases r with
    | nil =>
      rw [pt_nil, rows_open, rows_open, open_one, open_one, hy]
    | cons z zk s =>
      have hne : Fo.pt n u uk (.cons z zk s) ≠ .nil := fun e => by have := congrArg Fo.count e; rw [pt_count] at this; simp [Fo.count] at this
      rw [rows_open, rows_open, open_cons m y l _ hne, open_cons m x ks _ (by simp), ← rows_open, ← rows_open, ir]
theorem pt_init (n : Int) (u : Nd) (uk : Fo) : ∀ f : Fo, Fo.pt n u uk f.init = (Fo.pt n u uk f).init
  | .nil => rfl
  | .cons x k .nil => by
    rw [init_one, pt_nil]
    by_cases h : x.kind = 8 ∧ x.n = n
    · rw [pt_var u uk h, pt_nil, init_one]
    · rw [pt_else u uk h, pt_nil, init_one]
  | .cons x k (.cons y l s) => by
    have ih := pt_init n u uk (.cons y l s)
    have hne : ∃ z zk q, Fo.pt n u uk (.cons y l s) = .cons z zk q := by
      cases e : Fo.pt n u uk (.cons y l s) with
      | nil => have := congrArg Fo.count e; rw [pt_count] at this; simp [Fo.count] at this
      | cons z zk q => exact ⟨z, zk, q, rfl⟩
    obtain ⟨z, zk, q, hz⟩ := hne
    rw [init_cons]
    by_cases h : x.kind = 8 ∧ x.n = n
    · rw [pt_var u uk h, pt_var u uk h, ih, hz, init_cons]
    · rw [pt_else u uk h, pt_else u uk h, ih, hz, init_cons]
theorem pt_mrg {n : Int} {u : Nd} (hu : u.kind ≠ 9) (uk : Fo) : ∀ a b : Fo, Fo.pt n u uk (Fo.mrg a b) = Fo.mrg (Fo.pt n u uk a) (Fo.pt n u uk b)
  | .nil, b => by rw [mrg_nil, pt_nil, mrg_nil]
  | .cons x k a, .nil => by rw [mrg_none, pt_nil, mrg_none]
  | .cons x k a, .cons y l b => by
    have i1 := pt_mrg (n := n) hu uk (.cons x k a) b
    have i2 := pt_mrg (n := n) hu uk a (.cons y l b)
    have hd : ∀ (x : Nd) (k : Fo), ∃ x' k', (∀ r, Fo.pt n u uk (.cons x k r) = .cons x' k' (Fo.pt n u uk r)) ∧ decide (x'.kind = 9) = decide (x.kind = 9) ∧ x'.name = x.name := fun x k => by
      by_cases h : x.kind = 8 ∧ x.n = n
      · exact ⟨_, _, fun r => pt_var u uk h _ _, by rw [decide_eq_false hu, decide_eq_false (by omega)], rfl⟩
      · exact ⟨_, _, fun r => pt_else u uk h _ _, rfl, rfl⟩
    obtain ⟨x', k', hx, hx1, hx2⟩ := hd x k
    obtain ⟨y', l', hy, hy1, hy2⟩ := hd y l
    rw [hx] at i1
    rw [hy] at i2
    rw [mrg_cons, hx a, hy b, mrg_cons, befN_hs hy1 hy2 hx1 hx2]
    split
    · rw [hy, i1]
    · rw [hx, i2]
termination_by a b => a.count + b.count
decreasing_by all_goals simp only [Fo.count]; omega
/-- Is a Tail m at the top? -/
def Fo.topn (m : Int) : Fo → Bool
  | .nil => false
  | .cons x _ r => decide (x = ⟨9, ⟨#[]⟩, m⟩) || Fo.topn m r
theorem open_topn (m : Int) : ∀ f : Fo, Fo.topn m f = false → openB m f.rows = false
  | .nil, _ => rfl
  | .cons x ks r, h => by
    simp only [Fo.topn, Bool.or_eq_false_iff] at h
    rw [rows_open]
    by_cases hr : r = .nil
    · subst hr; rw [open_one]; exact h.1
    · rw [open_cons m x ks r hr, ← rows_open]; exact open_topn m r h.2
theorem topn_mrg (m : Int) : ∀ a b : Fo, Fo.topn m a = false → Fo.topn m b = false → Fo.topn m (Fo.mrg a b) = false
  | .nil, b, _, hb => by rw [mrg_nil]; exact hb
  | .cons x k a, .nil, ha, _ => by rw [mrg_none]; exact ha
  | .cons x k a, .cons y l b, ha, hb => by
    have ha' := ha
    have hb' := hb
    simp only [Fo.topn, Bool.or_eq_false_iff] at ha hb
    rw [mrg_cons]
    split
    · simp only [Fo.topn, Bool.or_eq_false_iff]; exact ⟨hb.1, topn_mrg m _ _ ha' hb.2⟩
    · simp only [Fo.topn, Bool.or_eq_false_iff]; exact ⟨ha.1, topn_mrg m _ _ ha.2 hb'⟩
termination_by a b => a.count + b.count
decreasing_by all_goals simp only [Fo.count]; omega
theorem topn_init (m : Int) : ∀ f : Fo, f.ends = true → Fo.topn m f.init = false
  | .nil, _ => rfl
  | .cons x k .nil, _ => rfl
  | .cons x k (.cons y l s), h => by
    rw [init_cons]
    have h' := h
    rw [Fo.ends] at h'
    simp only [Bool.and_eq_true, Bool.or_eq_true, Bool.not_eq_true', decide_eq_false_iff_not, decide_eq_true_eq] at h'
    simp only [Fo.topn, Bool.or_eq_false_iff, decide_eq_false_iff_not]
    refine ⟨fun e => ?_, topn_init m _ h'.2⟩
    rcases h'.1 with g | g
    · exact g (congrArg Nd.kind e)
    · simp [Fo.count] at g
theorem topn_pt {n : Int} {u : Nd} (hu : u.kind ≠ 9) (uk : Fo) (m : Int) : ∀ f : Fo, f.l9 → Fo.topn m f = false → Fo.topn m (Fo.pt n u uk f) = false
  | .nil, _, _ => rfl
  | .cons x ks r, hc, h => by
    simp only [Fo.topn, Bool.or_eq_false_iff, decide_eq_false_iff_not] at h
    have ir := topn_pt (n := n) hu uk m r hc.2 h.2
    by_cases hv : x.kind = 8 ∧ x.n = n
    · rw [pt_var u uk hv]
      simp only [Fo.topn, Bool.or_eq_false_iff, decide_eq_false_iff_not]
      exact ⟨fun e => hu (congrArg Nd.kind e), ir⟩
    · by_cases h9 : x.kind = 9
      · obtain rfl := hc.1 h9
        rw [pt_leaf u uk hv]
        simp only [Fo.topn, Bool.or_eq_false_iff, decide_eq_false_iff_not]
        exact ⟨h.1, ir⟩
      · rw [pt_else u uk hv]
        simp only [Fo.topn, Bool.or_eq_false_iff, decide_eq_false_iff_not]
        exact ⟨fun e => h9 (congrArg Nd.kind e), ir⟩
/-- Without the number it stays. -/
theorem pt_none (n : Int) (u : Nd) (uk : Fo) : ∀ f : Fo, f.ok = true → f.flat.any (vr n) = false → Fo.pt n u uk f = f
  | .nil, _, _ => rfl
  | .cons x ks r, h, hv => by
    simp only [Fo.ok, Bool.and_eq_true, decide_eq_true_eq] at h
    obtain ⟨⟨⟨⟨hn, hm⟩, hs⟩, hk⟩, hr⟩ := h
    simp only [Fo.flat, List.any_cons, List.any_append, Bool.or_eq_false_iff] at hv
    obtain ⟨hx, h1, h2⟩ := hv
    have h8 : ¬(x.kind = 8 ∧ x.n = n) := fun g => by simp [vr, varN, g.1, g.2] at hx
    rw [pt_else u uk h8, pt_none n u uk ks hk h1, pt_none n u uk r hr h2, ext_not]
    · obtain ⟨k, s, m⟩ := x
      simp
    · have e : ks.flat.any (tailN n) = false := by
        rw [List.any_eq_false] at h1 ⊢
        intro y hy
        have := h1 y hy
        simp only [vr, varN, tailN, Bool.and_eq_true, Bool.or_eq_true, decide_eq_true_eq] at this ⊢
        omega
      rw [rows_open]
      exact open_none hk (kids_ends hm hs) (stand_tailOk ks _ _ hs) e
theorem topn_none {n : Int} : ∀ f : Fo, f.flat.any (vr n) = false → Fo.topn n f = false
  | .nil, _ => rfl
  | .cons x ks r, hv => by
    simp only [Fo.flat, List.any_cons, List.any_append, Bool.or_eq_false_iff] at hv
    simp only [Fo.topn, Bool.or_eq_false_iff, decide_eq_false_iff_not]
    refine ⟨fun e => ?_, topn_none r hv.2.2⟩
    have := hv.1
    rw [e] at this
    simp [vr, varN] at this
/-- A row that is made longer at its Tail n0 is not open to n1. -/
theorem ext_closed {n0 n1 : Int} {u : Nd} (hu : u.kind ≠ 9) {uk ks : Fo} (hc : ks.l9) (he : ks.ends = true) (ht : Fo.topn n1 uk = false) (ho : openB n0 ks.rows = true) : openB n1 (Fo.ext n0 (Fo.pt n0 u uk ks) uk).rows = false := by
  rw [ext_open (by rw [pt_openB hu uk n0 ks hc]; exact ho), ← pt_init]
  exact open_topn _ _ (topn_mrg _ _ _ (topn_pt hu uk _ _ (l9_init ks hc) (topn_init _ _ he)) ht)
theorem open_one_only {n0 n1 : Int} (hne : n0 ≠ n1) {l : List (List Nd)} (h : openB n0 l = true) : openB n1 l = false := by
  unfold openB at h ⊢
  cases e : l.getLast? with
  | none => rfl
  | some k =>
    rw [e] at h
    simp only [decide_eq_true_eq] at h
    simp only [h, Nd.mk.injEq, true_and, decide_eq_false_iff_not]
    exact hne

/-- A row whose Tail, if it has one, is n0: made longer there, and then n1 put in it. -/
theorem ext_half {n0 n1 : Int} (hne : n0 ≠ n1) {u0 u1 : Nd} (h0 : u0.kind ≠ 9) (h1 : u1.kind ≠ 9) {k0 k1 : Fo} (hk0 : Fo.pt n1 u1 k1 k0 = k0) (t0 : Fo.topn n1 k0 = false) {ks : Fo} (hc : ks.l9) (he : ks.ends = true)
    (ik : Fo.pt n0 u0 k0 (Fo.pt n1 u1 k1 ks) = Fo.pt n1 u1 k1 (Fo.pt n0 u0 k0 ks)) (o0 : openB n0 ks.rows = true) :
    Fo.ext n0 (Fo.pt n0 u0 k0 (Fo.ext n1 (Fo.pt n1 u1 k1 ks) k1)) k0 = Fo.ext n1 (Fo.pt n1 u1 k1 (Fo.ext n0 (Fo.pt n0 u0 k0 ks) k0)) k1 := by
  have o1 := open_one_only hne o0
  have p1 : Fo.ext n1 (Fo.pt n1 u1 k1 ks) k1 = Fo.pt n1 u1 k1 ks := ext_not (by rw [pt_openB h1 k1 n1 ks hc]; exact o1) _
  have p3 : Fo.ext n0 (Fo.pt n0 u0 k0 ks) k0 = (Fo.pt n0 u0 k0 ks).init.mrg k0 := ext_open (by rw [pt_openB h0 k0 n0 ks hc]; exact o0) _
  have p5 : Fo.pt n1 u1 k1 ((Fo.pt n0 u0 k0 ks).init.mrg k0) = (Fo.pt n0 u0 k0 (Fo.pt n1 u1 k1 ks)).init.mrg k0 := by
    rw [pt_mrg h1, hk0, pt_init, ik]
  have p6 : openB n0 (Fo.pt n0 u0 k0 (Fo.pt n1 u1 k1 ks)).rows = true := by
    rw [pt_openB h0 k0 n0 _ (l9_pt h1 k1 ks hc), pt_openB h1 k1 n0 ks hc]
    exact o0
  rw [p1, p3, p5, ext_open p6, ext_not]
  rw [← pt_init, ← pt_init]
  exact open_topn _ _ (topn_mrg _ _ _ (topn_pt h0 k0 _ _ (l9_pt h1 k1 _ (l9_init ks hc)) (topn_pt h1 k1 _ _ (l9_init ks hc) (topn_init _ _ he))) t0)
theorem ext_two {n0 n1 : Int} (hne : n0 ≠ n1) {u0 u1 : Nd} (h0 : u0.kind ≠ 9) (h1 : u1.kind ≠ 9) {k0 k1 : Fo} (hk0 : Fo.pt n1 u1 k1 k0 = k0) (hk1 : Fo.pt n0 u0 k0 k1 = k1) (t0 : Fo.topn n1 k0 = false) (t1 : Fo.topn n0 k1 = false) {ks : Fo} (hc : ks.l9) (he : ks.ends = true)
    (ik : Fo.pt n0 u0 k0 (Fo.pt n1 u1 k1 ks) = Fo.pt n1 u1 k1 (Fo.pt n0 u0 k0 ks)) :
    Fo.ext n0 (Fo.pt n0 u0 k0 (Fo.ext n1 (Fo.pt n1 u1 k1 ks) k1)) k0 = Fo.ext n1 (Fo.pt n1 u1 k1 (Fo.ext n0 (Fo.pt n0 u0 k0 ks) k0)) k1 := by
  cases o0 : openB n0 ks.rows with
  | true => exact ext_half hne h0 h1 hk0 t0 hc he ik o0
  | false =>
    cases o1 : openB n1 ks.rows with
    | true => exact (ext_half (fun e => hne e.symm) h1 h0 hk1 t1 hc he ik.symm o1).symm
    | false =>
      have a1 : openB n1 (Fo.pt n1 u1 k1 ks).rows = false := by rw [pt_openB h1 k1 n1 ks hc]; exact o1
      have a0 : openB n0 (Fo.pt n0 u0 k0 ks).rows = false := by rw [pt_openB h0 k0 n0 ks hc]; exact o0
      rw [ext_not a1, ext_not a0, ext_not (f := Fo.pt n0 u0 k0 (Fo.pt n1 u1 k1 ks)), ext_not (f := Fo.pt n1 u1 k1 (Fo.pt n0 u0 k0 ks)), ik]
      · rw [pt_openB h1 k1 n1 _ (l9_pt h0 k0 ks hc), pt_openB h0 k0 n1 ks hc]; exact o1
      · rw [pt_openB h0 k0 n0 _ (l9_pt h1 k1 ks hc), pt_openB h1 k1 n0 ks hc]; exact o0
/-- Two types may be put for two numbers in any order. -/
theorem pt_two {n0 n1 : Int} (hne : n0 ≠ n1) {u0 u1 : Nd} (h0 : u0.kind ≠ 9) (h1 : u1.kind ≠ 9) {k0 k1 : Fo} (hv0 : ¬(u0.kind = 8 ∧ u0.n = n1)) (hv1 : ¬(u1.kind = 8 ∧ u1.n = n0))
    (hk0 : Fo.pt n1 u1 k1 k0 = k0) (hk1 : Fo.pt n0 u0 k0 k1 = k1) (t0 : Fo.topn n1 k0 = false) (t1 : Fo.topn n0 k1 = false) :
    ∀ f : Fo, f.ok = true → f.ends = true → Fo.pt n0 u0 k0 (Fo.pt n1 u1 k1 f) = Fo.pt n1 u1 k1 (Fo.pt n0 u0 k0 f)
  | .nil, _, _ => rfl
  | .cons x ks r, h, he => by
    simp only [Fo.ok, Bool.and_eq_true, decide_eq_true_eq] at h
    obtain ⟨⟨⟨⟨hn, hm⟩, hs⟩, hk⟩, hr⟩ := h
    simp only [Fo.ends, Bool.and_eq_true] at he
    have hke := kids_ends hm hs
    have hkc := cnt_ok ks hk
    have ir := pt_two hne h0 h1 hv0 hv1 hk0 hk1 t0 t1 r hr he.2
    have ik := pt_two hne h0 h1 hv0 hv1 hk0 hk1 t0 t1 ks hk hke
    have c0 : ∀ (nm : ByteArray) (r : Fo), Fo.pt n1 u1 k1 (.cons ⟨u0.kind, nm, u0.n⟩ k0 r) = .cons ⟨u0.kind, nm, u0.n⟩ k0 (Fo.pt n1 u1 k1 r) := fun nm r => by
      rw [pt_else u1 k1 (x := ⟨u0.kind, nm, u0.n⟩) hv0, hk0, ext_not (open_topn _ _ t0)]
      simp
    have c1 : ∀ (nm : ByteArray) (r : Fo), Fo.pt n0 u0 k0 (.cons ⟨u1.kind, nm, u1.n⟩ k1 r) = .cons ⟨u1.kind, nm, u1.n⟩ k1 (Fo.pt n0 u0 k0 r) := fun nm r => by
      rw [pt_else u0 k0 (x := ⟨u1.kind, nm, u1.n⟩) hv1, hk1, ext_not (open_topn _ _ t1)]
      simp
    by_cases h8 : x.kind = 8
    · obtain rfl := kids_none hm (Or.inl h8)
      by_cases e1 : x.n = n1
      · rw [pt_var u1 k1 ⟨h8, e1⟩, c1, ir, pt_leaf u0 k0 (fun g => hne (g.2.symm.trans e1)), pt_var u1 k1 ⟨h8, e1⟩]
      · by_cases e0 : x.n = n0
        · rw [pt_leaf u1 k1 (fun g => e1 g.2), pt_var u0 k0 ⟨h8, e0⟩, pt_var u0 k0 ⟨h8, e0⟩, c0, ir]
        · rw [pt_leaf u1 k1 (fun g => e1 g.2), pt_leaf u0 k0 (fun g => e0 g.2), pt_leaf u0 k0 (fun g => e0 g.2), pt_leaf u1 k1 (fun g => e1 g.2), ir]
    · have o : ∀ (n a : Int) (u : Nd) (uk l r : Fo), Fo.pt n u uk (.cons (Nd.mk x.kind x.name a) l r) = .cons ⟨x.kind, x.name, a + ((Fo.ext n (Fo.pt n u uk l) uk).count - (l.count : Int))⟩ (Fo.ext n (Fo.pt n u uk l) uk) (Fo.pt n u uk r) := fun n a u uk l r => pt_else u uk (x := ⟨x.kind, x.name, a⟩) (fun g => h8 g.1) l r
      have key : Fo.ext n0 (Fo.pt n0 u0 k0 (Fo.ext n1 (Fo.pt n1 u1 k1 ks) k1)) k0 = Fo.ext n1 (Fo.pt n1 u1 k1 (Fo.ext n0 (Fo.pt n0 u0 k0 ks) k0)) k1 := ext_two hne h0 h1 hk0 hk1 t0 t1 (l9_cnt ks hkc) hke ik
      rw [pt_else u1 k1 (fun g => h8 g.1), pt_else u0 k0 (fun g => h8 g.1), o, o, ir, key]
      congr 2
      omega

/-! ### What is asked of it -/
theorem tops_topn (m : Int) : ∀ f : Fo, f.tops = false → Fo.topn m f = false
  | .nil, _ => rfl
  | .cons x ks r, h => by
    simp only [Fo.tops, Bool.or_eq_false_iff, decide_eq_false_iff_not] at h
    simp only [Fo.topn, Bool.or_eq_false_iff, decide_eq_false_iff_not]
    exact ⟨fun e => h.1 (congrArg Nd.kind e), tops_topn m r h.2⟩
theorem pt_cnt {n : Int} {u : Nd} (hu : u.kind ≠ 9) {uk : Fo} (hm : many u = uk.count) (hk : uk.cnt) : ∀ f : Fo, f.ok = true → (Fo.pt n u uk f).cnt
  | .nil, _ => trivial
  | .cons x ks r, h => by
    simp only [Fo.ok, Bool.and_eq_true, decide_eq_true_eq] at h
    obtain ⟨⟨⟨⟨hn, hmx⟩, hs⟩, hkk⟩, hr⟩ := h
    have ik := pt_cnt (n := n) hu hm hk ks hkk
    have ir := pt_cnt (n := n) hu hm hk r hr
    have hl9 := l9_cnt ks (cnt_ok ks hkk)
    by_cases hv : x.kind = 8 ∧ x.n = n
    · rw [pt_var u uk hv]
      exact ⟨hm, hk, ir⟩
    · rw [pt_else u uk hv]
      refine ⟨?_, ?_, ir⟩
      · by_cases h5 : x.kind = 5
        · rw [ext_not (by rw [pt_openB hu uk n ks hl9]; exact open_topn _ _ (tops_topn _ _ (stand_tops h5 ks _ _ hs))), pt_count, ← hmx]
          unfold many
          simp only
          rw [if_pos h5, if_pos h5]
        · by_cases h67 : x.kind = 6 ∨ x.kind = 7
          · unfold many at hmx ⊢
            simp only at hmx ⊢
            rw [if_neg h5, if_pos h67] at hmx ⊢
            omega
          · have hz := kids_many hmx h5 h67
            subst hz
            rw [pt_nil, ext_nil]
            unfold many
            simp only
            rw [if_neg h5, if_neg h67]
            rfl
      · unfold Fo.ext
        split
        · exact cnt_mrg _ _ (cnt_init _ ik) hk
        · exact ik
def bad (n kd : Int) (more : List (List Nd)) (x : Nd) (ks : Fo) : Bool := q1 n kd x ks.tops1 || (q2 n more ks.tops1 || q3 n more ks.tops1)
theorem any_or (p q : Nd → Fo → Bool) : ∀ f : Fo, anyF (fun x ks => p x ks || q x ks) f = (anyF p f || anyF q f)
  | .nil => rfl
  | .cons x ks r => by
    simp only [anyF, any_or p q ks, any_or p q r]
    cases anyF p ks <;> cases anyF q ks <;> cases p x ks <;> cases q x ks <;> cases anyF p r <;> cases anyF q r <;> rfl
theorem bad_iff (n kd : Int) (more : List (List Nd)) (f : Fo) : anyF (bad n kd more) f = (anyF (fun x ks => q1 n kd x ks.tops1) f || (anyF (fun _ ks => q2 n more ks.tops1) f || anyF (fun _ ks => q3 n more ks.tops1) f)) := by
  rw [← any_or (fun _ ks => q2 n more ks.tops1) (fun _ ks => q3 n more ks.tops1), ← any_or (fun x ks => q1 n kd x ks.tops1)]
  rfl
theorem code_zero {a b c : Bool} : codeE a b c = 0 ↔ (a || (b || c)) = false := by cases a <;> cases b <;> cases c <;> decide
theorem any_mrg (q : Nd → Fo → Bool) : ∀ a b : Fo, anyF q a = false → anyF q b = false → anyF q (Fo.mrg a b) = false
  | .nil, b, _, hb => by rw [mrg_nil]; exact hb
  | .cons x k a, .nil, ha, _ => by rw [mrg_none]; exact ha
  | .cons x k a, .cons y l b, ha, hb => by
    have ha' := ha
    have hb' := hb
    simp only [anyF, Bool.or_eq_false_iff] at ha hb
    rw [mrg_cons]
    split
    · simp only [anyF, Bool.or_eq_false_iff]; exact ⟨hb.1, hb.2.1, any_mrg q _ _ ha' hb.2.2⟩
    · simp only [anyF, Bool.or_eq_false_iff]; exact ⟨ha.1, ha.2.1, any_mrg q _ _ ha.2.2 hb'⟩
termination_by a b => a.count + b.count
decreasing_by all_goals simp only [Fo.count]; omega
theorem any_init (q : Nd → Fo → Bool) : ∀ f : Fo, anyF q f = false → anyF q f.init = false
  | .nil, _ => rfl
  | .cons x k .nil, _ => rfl
  | .cons x k (.cons y l s), h => by
    rw [init_cons]
    rw [anyF] at h ⊢
    simp only [Bool.or_eq_false_iff] at h ⊢
    exact ⟨h.1, h.2.1, any_init q _ h.2.2⟩
theorem names_hs {a b : List (List Nd)} (h : a.map hs = b.map hs) : nameL a = nameL b := by
  have : (a.map hs).map (·.2) = (b.map hs).map (·.2) := by rw [h]
  rw [List.map_map, List.map_map] at this
  exact this
theorem len_hs {a b : List (List Nd)} (h : a.map hs = b.map hs) : a.length = b.length := by
  have := congrArg List.length h
  simpa using this
/-- Nothing is wrong with what Put makes, where nothing was wrong with either. -/
theorem bad_pt {n0 n1 : Int} (hne : n0 ≠ n1) {u0 : Nd} (h0 : u0.kind ≠ 9) {k0 : Fo} (t0 : Fo.topn n1 k0 = false) (kd : Int) (more : List (List Nd)) (Hk : anyF (bad n1 kd more) k0 = false) (Hu : ∀ nm, bad n1 kd more ⟨u0.kind, nm, u0.n⟩ k0 = false) :
    ∀ f : Fo, f.ok = true → anyF (bad n0 u0.kind k0.rows) f = false → anyF (bad n1 kd more) f = false → anyF (bad n1 kd more) (Fo.pt n0 u0 k0 f) = false
  | .nil, _, _, _ => rfl
  | .cons x ks r, h, b0, b1 => by
    simp only [Fo.ok, Bool.and_eq_true, decide_eq_true_eq] at h
    obtain ⟨⟨⟨⟨hn, hmx⟩, hst⟩, hkk⟩, hr⟩ := h
    simp only [anyF, Bool.or_eq_false_iff] at b0 b1
    have ik := bad_pt hne h0 t0 kd more Hk Hu ks hkk b0.1 b1.1
    have ir := bad_pt hne h0 t0 kd more Hk Hu r hr b0.2.2 b1.2.2
    have hl9 := l9_cnt ks (cnt_ok ks hkk)
    by_cases hv : x.kind = 8 ∧ x.n = n0
    · rw [pt_var u0 k0 hv]
      simp only [anyF, Bool.or_eq_false_iff]
      exact ⟨Hk, Hu _, ir⟩
    · rw [pt_else u0 k0 hv]
      simp only [anyF, Bool.or_eq_false_iff]
      have eh := pt_hs (n := n0) h0 k0 ks
      refine ⟨?_, ?_, ir⟩
      · unfold Fo.ext
        split
        · exact any_mrg _ _ _ (any_init _ _ ik) Hk
        · exact ik
      · unfold bad at b0 b1 ⊢
        simp only [Bool.or_eq_false_iff] at b0 b1 ⊢
        cases o0 : openB n0 ks.rows with
        | true =>
          have oc : openB n1 (Fo.ext n0 (Fo.pt n0 u0 k0 ks) k0).tops1 = false := by rw [← rows_open]; exact ext_closed h0 hl9 (kids_ends hmx hst) t0 o0
          have he : (extL n1 (Fo.ext n0 (Fo.pt n0 u0 k0 ks) k0).tops1 more).map hs = (extL n0 ks.tops1 k0.rows).map hs := by
            have e1 : extL n1 (Fo.ext n0 (Fo.pt n0 u0 k0 ks) k0).tops1 more = (Fo.ext n0 (Fo.pt n0 u0 k0 ks) k0).tops1 := by unfold extL; rw [oc]; rfl
            rw [e1, tops1_hs, ext_rows]
            unfold extL
            rw [← rows_open n0 ks, o0, pt_openB h0 k0 n0 ks hl9, o0, if_pos rfl, if_pos rfl]
            exact mergeL_hs (by rw [List.map_dropLast, List.map_dropLast, eh, tops1_hs]) rfl
          refine ⟨by unfold q1; rw [oc]; rfl, ?_, ?_⟩
          · unfold q2 at b0 ⊢
            rw [names_hs he]; exact b0.2.1.2.1
          · unfold q3 at b0 ⊢
            rw [len_hs he]; exact b0.2.1.2.2
        | false =>
          have e0 : Fo.ext n0 (Fo.pt n0 u0 k0 ks) k0 = Fo.pt n0 u0 k0 ks := ext_not (by rw [pt_openB h0 k0 n0 ks hl9]; exact o0) _
          rw [e0]
          have oc : openB n1 (Fo.pt n0 u0 k0 ks).tops1 = openB n1 ks.tops1 := by rw [← rows_open, ← rows_open, pt_openB h0 k0 n1 ks hl9]
          have he : (extL n1 (Fo.pt n0 u0 k0 ks).tops1 more).map hs = (extL n1 ks.tops1 more).map hs := by
            unfold extL
            rw [oc]
            split
            · exact mergeL_hs (by rw [List.map_dropLast, List.map_dropLast, tops1_hs, tops1_hs, eh]) rfl
            · rw [tops1_hs, tops1_hs, eh]
          refine ⟨by unfold q1 at b1 ⊢; rw [oc]; exact b1.2.1.1, ?_, ?_⟩
          · unfold q2 at b1 ⊢
            rw [names_hs he]; exact b1.2.1.2.1
          · unfold q3 at b1 ⊢
            rw [len_hs he]; exact b1.2.1.2.2
/-- A right type without the number n has nothing wrong of its own. -/
theorem bad_none (n kd : Int) (more : List (List Nd)) : ∀ f : Fo, f.ok = true → f.flat.any (vr n) = false → anyF (bad n kd more) f = false
  | f, h, hv => by
    have e : f.flat.any (tailN n) = false := by
      rw [List.any_eq_false] at hv ⊢
      intro y hy
      have := hv y hy
      simp only [vr, varN, tailN, Bool.and_eq_true, Bool.or_eq_true, decide_eq_true_eq] at this ⊢
      omega
    obtain ⟨e2, e3⟩ := none_asks n more f h e
    have e1 : ∀ f : Fo, f.ok = true → f.flat.any (tailN n) = false → anyF (fun x ks => q1 n kd x ks.tops1) f = false := by
      intro f
      induction f with
      | nil => intro _ _; rfl
      | cons x ks r i1 i2 =>
        intro h ha
        simp only [Fo.ok, Bool.and_eq_true, decide_eq_true_eq] at h
        obtain ⟨⟨⟨⟨hn, hm⟩, hs⟩, hk⟩, hr⟩ := h
        obtain ⟨a1, a2⟩ := any_kids ha
        have ho := open_none hk (kids_ends hm hs) (stand_tailOk ks _ _ hs) a1
        rw [anyF, i1 hk a1, i2 hr a2]
        unfold q1
        rw [ho]
        rfl
    rw [bad_iff, e1 f h e, e2, e3]
    rfl
/-- The numbers of what is put. -/
theorem ext_mem {n : Int} {f more : Fo} {z : Nd} (h : z ∈ (Fo.ext n f more).flat) : z ∈ f.flat ∨ z ∈ more.flat := by
  rw [← rows_flat, ext_rows] at h
  obtain ⟨l, h1, h2⟩ := List.mem_flatten.1 h
  rcases extL_mem h1 with g | g
  · exact Or.inl (rows_mem g h2)
  · exact Or.inr (rows_mem g h2)
theorem pt_num {n : Int} {u : Nd} {uk : Fo} {M : Int} (hu : u.n ≤ M) (hk : ∀ z ∈ uk.flat, z.n ≤ M) : ∀ f : Fo, f.ok = true → (∀ z ∈ f.flat, z.n ≤ M) → ∀ z ∈ (Fo.pt n u uk f).flat, z.kind = 5 ∨ z.kind = 6 ∨ z.kind = 7 ∨ z.n ≤ M
  | .nil, _, _, z, h => by cases h
  | .cons x ks r, h, hf, z, hz => by
    simp only [Fo.ok, Bool.and_eq_true, decide_eq_true_eq] at h
    obtain ⟨⟨⟨⟨hn, hmx⟩, hst⟩, hkk⟩, hr⟩ := h
    simp only [Fo.flat, List.mem_cons, List.mem_append] at hf
    have ik := pt_num (n := n) hu hk ks hkk (fun z hz => hf z (Or.inr (Or.inl hz)))
    have ir := pt_num (n := n) hu hk r hr (fun z hz => hf z (Or.inr (Or.inr hz)))
    by_cases hv : x.kind = 8 ∧ x.n = n
    · rw [pt_var u uk hv] at hz
      simp only [Fo.flat, List.mem_cons, List.mem_append] at hz
      rcases hz with rfl | hz | hz
      · exact Or.inr (Or.inr (Or.inr hu))
      · exact Or.inr (Or.inr (Or.inr (hk z hz)))
      · exact ir z hz
    · by_cases h567 : x.kind = 5 ∨ x.kind = 6 ∨ x.kind = 7
      · rw [pt_else u uk hv] at hz
        simp only [Fo.flat, List.mem_cons, List.mem_append] at hz
        rcases hz with rfl | hz | hz
        · rcases h567 with g | g | g <;> simp [g]
        · rcases ext_mem hz with g | g
          · exact ik z g
          · exact Or.inr (Or.inr (Or.inr (hk z g)))
        · exact ir z hz
      · have := kids_many hmx (by omega) (by omega)
        subst this
        rw [pt_leaf u uk hv] at hz
        simp only [Fo.flat, List.mem_cons, List.nil_append] at hz
        rcases hz with rfl | hz
        · exact Or.inr (Or.inr (Or.inr (hf z (Or.inl rfl))))
        · exact ir z hz
end Go.Proofs.Ytkkigdbinnfbfaa.L
