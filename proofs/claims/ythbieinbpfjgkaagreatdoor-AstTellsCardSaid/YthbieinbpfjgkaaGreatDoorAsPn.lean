/-
  Expressions without casts, no name of which is a key: how each kind is printed, and that its print tells the kind. No machine here. No conditions but those that each lemma names.
-/
import Derived.Test.YthbieinbpfjgkaaGreatDoorAsPm
namespace Go.Proofs.YthbieinbpfjgkaaGreatDoor.E
open Go

/-! ### What a sound part's fields are -/
theorem snd1 {p : Pt} (h : sound p = true) (k : p.kind = 1) : nameOK p.name = true ∧ p.bind = ⟨#[]⟩ ∧ p.many = 0 ∧ p.num = 0 ∧ p.t = [] ∧ p.u = [] := by
  unfold sound at h
  rw [if_neg (by omega), if_pos k] at h
  simp only [only, Bool.and_eq_true, decide_eq_true_eq, List.length_nil, List.length_eq_zero_iff] at h
  obtain ⟨a, -, b, c, d, e, f⟩ := h
  exact ⟨a, b, c, d, e, f⟩
theorem snd2 {p : Pt} (h : sound p = true) (k : p.kind = 2 ∨ p.kind = 4) : nameB 97 122 p.bind = true ∧ plain p.t = true ∧ p.name = ⟨#[]⟩ ∧ p.many = 0 ∧ p.num = 0 ∧ p.u = [] := by
  unfold sound at h
  rcases k with k | k <;> simp only [k, Int.reduceEq, if_true, if_false, only, Bool.and_eq_true, decide_eq_true_eq, List.length_nil, List.length_eq_zero_iff] at h <;> obtain ⟨a, b, c, -, d, e, -, f⟩ := h <;> exact ⟨a, b, c, d, e, f⟩
theorem snd3 {p : Pt} (h : sound p = true) (k : p.kind = 3 ∨ p.kind = 6) : p.name = ⟨#[]⟩ ∧ p.bind = ⟨#[]⟩ ∧ p.many = 0 ∧ p.num = 0 ∧ p.t = [] ∧ p.u = [] := by
  unfold sound at h
  rcases k with k | k <;> simp only [k, Int.reduceEq, if_true, if_false, only, Bool.and_eq_true, decide_eq_true_eq, List.length_nil, List.length_eq_zero_iff] at h <;> exact h
theorem snd5 {p : Pt} (h : sound p = true) (k : p.kind = 5) : nameB 97 122 p.name = true ∧ nameB 97 122 p.bind = true ∧ plain p.t = true ∧ plain p.u = true ∧ p.many = 0 ∧ p.num = 0 := by
  unfold sound at h
  simp only [k, Int.reduceEq, if_true, if_false, only, Bool.and_eq_true, decide_eq_true_eq, List.length_nil, List.length_eq_zero_iff] at h
  obtain ⟨a, b, c, d, -, -, e, f, -⟩ := h
  exact ⟨a, b, c, d, e, f⟩
theorem snd7 {p : Pt} (h : sound p = true) (k : p.kind = 7 ∨ p.kind = 10) : p.name = ⟨#[]⟩ ∧ p.bind = ⟨#[]⟩ ∧ p.num = 0 ∧ p.t = [] ∧ p.u = [] := by
  unfold sound at h
  rcases k with k | k <;> simp only [k, Int.reduceEq, if_true, if_false, only, Bool.and_eq_true, decide_eq_true_eq, List.length_nil, List.length_eq_zero_iff] at h <;> obtain ⟨-, -, a, b, -, c, d, e⟩ := h <;> exact ⟨a, b, c, d, e⟩
theorem snd8 {p : Pt} (h : sound p = true) (k : p.kind = 8) : nameB 97 122 p.bind = true ∧ p.name = ⟨#[]⟩ ∧ p.many = 0 ∧ p.num = 0 ∧ p.t = [] ∧ p.u = [] := by
  unfold sound at h
  simp only [k, Int.reduceEq, if_true, if_false, only, Bool.and_eq_true, decide_eq_true_eq, List.length_nil, List.length_eq_zero_iff] at h
  obtain ⟨a, b, -, c, d, e, f⟩ := h
  exact ⟨a, b, c, d, e, f⟩
theorem snd9 {p : Pt} (h : sound p = true) (k : p.kind = 9) : oper p.name = true ∧ p.bind = ⟨#[]⟩ ∧ p.many = 0 ∧ p.num = 0 ∧ p.t = [] ∧ p.u = [] := by
  unfold sound at h
  simp only [k, Int.reduceEq, if_true, if_false, only, Bool.and_eq_true, decide_eq_true_eq, List.length_nil, List.length_eq_zero_iff] at h
  obtain ⟨a, -, b, c, d, e, f⟩ := h
  exact ⟨a, b, c, d, e, f⟩
theorem snd11 {p : Pt} (h : sound p = true) (k : p.kind = 11) : nameB 97 122 p.name = true ∧ p.bind = ⟨#[]⟩ ∧ p.many = 0 ∧ p.num = 0 ∧ p.t = [] ∧ p.u = [] := by
  unfold sound at h
  simp only [k, Int.reduceEq, if_true, if_false, only, Bool.and_eq_true, decide_eq_true_eq, List.length_nil, List.length_eq_zero_iff] at h
  obtain ⟨a, -, b, c, d, e, f⟩ := h
  exact ⟨a, b, c, d, e, f⟩
theorem snd12 {p : Pt} (h : sound p = true) (k : p.kind = 12) : nameB 65 90 p.name = true ∧ plain p.t = true ∧ p.bind = ⟨#[]⟩ ∧ p.many = 0 ∧ p.num = 0 ∧ p.u = [] := by
  unfold sound at h
  simp only [k, Int.reduceEq, if_true, if_false, only, Bool.and_eq_true, decide_eq_true_eq, List.length_nil, List.length_eq_zero_iff] at h
  obtain ⟨a, b, -, c, d, e, -, f⟩ := h
  exact ⟨a, b, c, d, e, f⟩
theorem snd13 {p : Pt} (h : sound p = true) (k : p.kind = 13) : plain p.t = true ∧ p.name = ⟨#[]⟩ ∧ p.bind = ⟨#[]⟩ ∧ p.many = 0 ∧ p.num = 0 ∧ p.u = [] := by
  unfold sound at h
  simp only [k, Int.reduceEq, if_true, if_false, only, Bool.and_eq_true, decide_eq_true_eq, List.length_nil, List.length_eq_zero_iff] at h
  obtain ⟨a, b, c, d, e, -, f⟩ := h
  exact ⟨a, b, c, d, e, f⟩

theorem lit_node {x : L.Nd} (h : L.rightL [x] = true) (hk : x.kind = 1 ∨ x.kind = 2 ∨ x.kind = 3 ∨ x.kind = 4) : x.name = ⟨#[]⟩ ∧ x.n = 0 := by
  obtain ⟨y, ks, hy, -, b, ok, -⟩ := (L.rightL_iff _).1 h
  injection hy with h1 h2
  subst h1
  simp only [L.Fo.ok, Bool.and_true, Bool.and_eq_true] at ok
  exact ⟨bare_name b, n_zero ok.1.1.1 (by omega)⟩

/-- A literal: its one node, and its number and its name. -/
theorem snd0 {p : Pt} (h : sound p = true) (k : p.kind = 0) : ∃ x : L.Nd, p.t = [x] ∧ p.u = [] ∧ p.bind = ⟨#[]⟩ ∧ p.many = 0 ∧ x.name = ⟨#[]⟩ ∧ x.n = 0 ∧
    ((x.kind = 1 ∧ 0 ≤ p.num ∧ p.name = ⟨#[]⟩) ∨ (x.kind = 2 ∧ (p.num = 0 ∨ p.num = 1) ∧ p.name = ⟨#[]⟩) ∨ (x.kind = 3 ∧ p.num = 0) ∨ (x.kind = 4 ∧ p.num = 0 ∧ p.name = ⟨#[]⟩)) := by
  unfold sound at h
  rw [if_pos k] at h
  unfold litOK at h
  split at h
  · rename_i x hx
    obtain ⟨hr, h⟩ := (Bool.and_eq_true _ _).mp h
    have e : p.kind = 0 := k
    by_cases k1 : x.kind = 1
    · rw [if_pos k1] at h
      unfold useP at h
      simp only [only, Bool.and_eq_true, decide_eq_true_eq, List.length_nil, List.length_eq_zero_iff] at h
      obtain ⟨a, -, b, c, d, -, -, f⟩ := h
      obtain ⟨n1, n2⟩ := lit_node hr (by omega)
      exact ⟨x, hx, f, c, d, n1, n2, Or.inl ⟨k1, a, b⟩⟩
    rw [if_neg k1] at h
    by_cases k2 : x.kind = 2
    · rw [if_pos k2] at h
      unfold useP at h
      simp only [only, Bool.and_eq_true, decide_eq_true_eq, List.length_nil, List.length_eq_zero_iff] at h
      obtain ⟨a, a2, b, c, d, -, -, f⟩ := h
      obtain ⟨n1, n2⟩ := lit_node hr (by omega)
      exact ⟨x, hx, f, c, d, n1, n2, Or.inr (Or.inl ⟨k2, by omega, b⟩)⟩
    rw [if_neg k2] at h
    by_cases k3 : x.kind = 3
    · rw [if_pos k3] at h
      unfold useP at h
      simp only [only, Bool.and_eq_true, decide_eq_true_eq, List.length_nil, List.length_eq_zero_iff] at h
      obtain ⟨-, c, d, b, -, f⟩ := h
      obtain ⟨n1, n2⟩ := lit_node hr (by omega)
      exact ⟨x, hx, f, c, d, n1, n2, Or.inr (Or.inr (Or.inl ⟨k3, b⟩))⟩
    rw [if_neg k3] at h
    by_cases k4 : x.kind = 4
    · rw [if_pos k4] at h
      unfold useP at h
      simp only [only, Bool.and_eq_true, decide_eq_true_eq, List.length_nil, List.length_eq_zero_iff] at h
      obtain ⟨a, c, d, b, -, f⟩ := h
      obtain ⟨n1, n2⟩ := lit_node hr (by omega)
      exact ⟨x, hx, f, c, d, n1, n2, Or.inr (Or.inr (Or.inr ⟨k4, b, a⟩))⟩
    rw [if_neg k4] at h
    cases h
  · cases h

/-! ### How each kind is printed -/
theorem many_of {x : Pt} {k : Int} (hk : x.kind = k) (h0 : 0 ≤ k ∧ k < 15) (_ : k ≠ 7) (_ : k ≠ 10) (hm : x.many = 0) : many x = base k := by
  unfold many
  rw [if_neg (by omega), hk, hm]
  omega

theorem prT_def (x : Pt) (ks : Fo) : prT x ks = firstP x ++ (ks.pr x 0 ++ lastP x) := rfl
theorem pr_nil (x : Pt) (k : Nat) : Fo.pr .nil x k = [] := rfl

theorem pr_fun {x : Pt} (hk : x.kind = 2) (c : Pt) (kc : Fo) : prT x (.cons c kc .nil) = 40 :: 102 :: 117 :: 110 :: 32 :: 40 :: (x.bind.data.toList ++ 58 :: 32 :: (L.tyP x.t ++ 41 :: 32 :: 45 :: 62 :: 32 :: (prT c kc ++ [41]))) := by
  rw [prT_def, Fo.pr_cons, pr_nil]
  simp [firstP, lastP, typedP, hk]
theorem pr_app {x : Pt} (hk : x.kind = 3) (c : Pt) (kc : Fo) (d : Pt) (kd : Fo) : prT x (.cons c kc (.cons d kd .nil)) = 40 :: (prT c kc ++ 32 :: (prT d kd ++ [41])) := by
  rw [prT_def, Fo.pr_cons, Fo.pr_cons, pr_nil]
  simp [firstP, lastP, betwP, hk]
theorem pr_let {x : Pt} (hk : x.kind = 4) (c : Pt) (kc : Fo) (d : Pt) (kd : Fo) : prT x (.cons c kc (.cons d kd .nil)) = 40 :: 108 :: 101 :: 116 :: 32 :: (x.bind.data.toList ++ 58 :: 32 :: (L.tyP x.t ++ 32 :: 61 :: 32 :: (prT c kc ++ 32 :: 105 :: 110 :: 32 :: (prT d kd ++ [41])))) := by
  rw [prT_def, Fo.pr_cons, Fo.pr_cons, pr_nil]
  simp [firstP, lastP, betwP, typedP, hk]
theorem pr_rec {x : Pt} (hk : x.kind = 5) (c : Pt) (kc : Fo) (d : Pt) (kd : Fo) : prT x (.cons c kc (.cons d kd .nil)) = 40 :: 114 :: 101 :: 99 :: 32 :: (x.name.data.toList ++ 32 :: 40 :: (x.bind.data.toList ++ 58 :: 32 :: (L.tyP x.t ++ 41 :: 58 :: 32 :: (L.tyP x.u ++ 32 :: 61 :: 32 :: (prT c kc ++ 32 :: 105 :: 110 :: 32 :: (prT d kd ++ [41])))))) := by
  rw [prT_def, Fo.pr_cons, Fo.pr_cons, pr_nil]
  simp [firstP, lastP, betwP, typedP, hk]
theorem pr_if {x : Pt} (hk : x.kind = 6) (c : Pt) (kc : Fo) (d : Pt) (kd : Fo) (e : Pt) (ke : Fo) : prT x (.cons c kc (.cons d kd (.cons e ke .nil))) = 40 :: 105 :: 102 :: 32 :: (prT c kc ++ 32 :: 116 :: 104 :: 101 :: 110 :: 32 :: (prT d kd ++ 32 :: 101 :: 108 :: 115 :: 101 :: 32 :: (prT e ke ++ [41]))) := by
  rw [prT_def, Fo.pr_cons, Fo.pr_cons, Fo.pr_cons, pr_nil]
  simp [firstP, lastP, betwP, hk]
theorem pr_case {x : Pt} (hk : x.kind = 7) (c : Pt) (kc r : Fo) : prT x (.cons c kc r) = 40 :: 99 :: 97 :: 115 :: 101 :: 32 :: (prT c kc ++ (r.pr x 1 ++ 32 :: 101 :: 110 :: 100 :: [41])) := by
  rw [prT_def, Fo.pr_cons]
  simp [firstP, lastP, hk]
theorem pr_branch {x : Pt} (hk : x.kind = 8) (c : Pt) (kc : Fo) : prT x (.cons c kc .nil) = x.label.data.toList ++ 32 :: (x.bind.data.toList ++ 32 :: 45 :: 62 :: 32 :: prT c kc) := by
  rw [prT_def, Fo.pr_cons, pr_nil]
  simp [firstP, lastP, hk]
theorem pr_op {x : Pt} (hk : x.kind = 9) (c : Pt) (kc : Fo) (d : Pt) (kd : Fo) : prT x (.cons c kc (.cons d kd .nil)) = 40 :: (prT c kc ++ 32 :: (x.name.data.toList ++ 32 :: (prT d kd ++ [41]))) := by
  rw [prT_def, Fo.pr_cons, Fo.pr_cons, pr_nil]
  simp [firstP, lastP, betwP, hk]
theorem pr_rows {x : Pt} (hk : x.kind = 10) (ks : Fo) : prT x ks = 123 :: (ks.pr x 0 ++ [125]) := by
  rw [prT_def]
  simp [firstP, lastP, hk]
theorem pr_get {x : Pt} (hk : x.kind = 11) (c : Pt) (kc : Fo) : prT x (.cons c kc .nil) = prT c kc ++ 46 :: x.name.data.toList := by
  rw [prT_def, Fo.pr_cons, pr_nil]
  simp [firstP, lastP, hk]
theorem pr_inject {x : Pt} (hk : x.kind = 12) (c : Pt) (kc : Fo) : prT x (.cons c kc .nil) = 91 :: (x.name.data.toList ++ 32 :: 61 :: 32 :: (prT c kc ++ 58 :: 32 :: (L.tyP x.t ++ [93]))) := by
  rw [prT_def, Fo.pr_cons, pr_nil]
  simp [firstP, lastP, hk]
theorem pr_as {x : Pt} (hk : x.kind = 13) (c : Pt) (kc : Fo) : prT x (.cons c kc .nil) = 40 :: (prT c kc ++ 58 :: 32 :: (L.tyP x.t ++ [41])) := by
  rw [prT_def, Fo.pr_cons, pr_nil]
  simp [firstP, lastP, hk]
theorem pr_leaf {x : Pt} (hk : x.kind = 0 ∨ x.kind = 1) : prT x .nil = firstP x := by
  rw [prT_def, pr_nil]
  rcases hk with hk | hk <;> simp [lastP, hk]

/-! ### The classes of prints -/
def litK (x : Pt) : Int := match x.t with | [n] => n.kind | _ => 0
/-- 1: a word or a number; 2: a text; 3: a row; 4: a tag; 5: (); 7, 9, 10, 11, 12: by their keys; 8: the others in brackets. -/
def clsP (x : Pt) : Nat :=
  if x.kind = 0 then (if litK x = 3 then 2 else if litK x = 4 then 5 else 1)
  else if x.kind = 1 then 1
  else if x.kind = 2 then 7
  else if x.kind = 4 then 9
  else if x.kind = 5 then 10
  else if x.kind = 6 then 11
  else if x.kind = 7 then 12
  else if x.kind = 10 then 3
  else if x.kind = 12 then 4
  else 8
def kwB (w : List UInt8) : Nat := if w = [102, 117, 110] then 7 else if w = [108, 101, 116] then 9 else if w = [114, 101, 99] then 10 else if w = [105, 102] then 11 else if w = [99, 97, 115, 101] then 12 else 8
def clsB : List UInt8 → Nat
  | [] => 0
  | c :: r => if goN c then 1 else if c = 34 then 2 else if c = 123 then 3 else if c = 91 then 4 else if r.head? = some 41 then 5 else kwB (r.takeWhile goN)

theorem kwB_key {w : List UInt8} (h : kwB w ≠ 8) : keyL w = true := by
  unfold kwB at h
  repeat' split at h
  all_goals first | (subst_vars; decide) | exact absurd rfl h

theorem go_num {c : UInt8} (h : 48 ≤ c.toNat ∧ c.toNat ≤ 57) : goN c = true := goN_beh (by unfold behB inB; simp; omega)
theorem go_low {c : UInt8} (h : 97 ≤ (c.toNat : Int) ∧ (c.toNat : Int) ≤ 122) : goN c = true := goN_beh (by unfold behB inB; simp; omega)

/-- Words and numbers: their bytes. -/
theorem wordy {x : Pt} {ks : Fo} (h : GdF (.cons x ks .nil)) (hc : clsP x = 1) (_ : x.kind ≠ 11) : ks = .nil ∧ prT x ks = firstP x ∧ (∃ c t, firstP x = c :: t) ∧ (∀ b ∈ firstP x, goN b = true) ∧ kwB (firstP x) = 8 ∧ (x.kind = 0 ∨ x.kind = 1) := by
  obtain ⟨a, b, -, -, -, hkey⟩ := h.tree
  have hk : x.kind = 0 ∨ x.kind = 1 := by
    unfold clsP at hc
    repeat' split at hc
    all_goals first | omega | (exact absurd hc (by decide))
  have hm : many x = 0 := by
    rcases hk with hk | hk
    · obtain ⟨_, _, _, _, hm, _⟩ := snd0 a hk
      exact many_of hk (by decide) (by decide) (by decide) hm
    · exact many_of hk (by decide) (by decide) (by decide) (snd1 a hk).2.2.1
  have hn : ks = .nil := by
    rw [hm] at b
    cases ks with
    | nil => rfl
    | cons c kc r => simp [Fo.count] at b; omega
  subst hn
  refine ⟨rfl, pr_leaf hk, ?_⟩
  rcases hk with hk | hk
  · obtain ⟨n, ht, -, -, -, -, -, hl⟩ := snd0 a hk
    have e0 : firstP x = litP x := by unfold firstP; rw [if_pos hk]
    have hlk : litK x = n.kind := by unfold litK; rw [ht]
    rw [e0]
    have e1 : litP x = if n.kind = 2 then (if x.num = 0 then [102, 97, 108, 115, 101] else [116, 114, 117, 101]) else if n.kind = 3 then X.G.quoteL x.name.data.toList else if n.kind = 4 then [40, 41] else Lib.itoa x.num := by
      unfold litP; rw [ht]
    rw [e1]
    unfold clsP at hc
    rw [if_pos hk, hlk] at hc
    rcases hl with ⟨k1, hp, -⟩ | ⟨k2, hp, -⟩ | ⟨k3, -⟩ | ⟨k4, -⟩
    · rw [if_neg (by omega), if_neg (by omega), if_neg (by omega)]
      obtain ⟨⟨c, t, e, h1, h2⟩, h3⟩ := itoa_go hp
      refine ⟨⟨c, t, e⟩, h3, ?_, Or.inl hk⟩
      rw [e]
      unfold kwB
      repeat' split
      all_goals first | rfl | (rename_i hh; injection hh with hh1 hh2; subst hh1; simp at h1 h2) | skip
    · rw [if_pos k2]
      rcases hp with hp | hp
      · rw [if_pos hp]
        exact ⟨⟨_, _, rfl⟩, by decide, by decide, Or.inl hk⟩
      · rw [if_neg (by omega)]
        exact ⟨⟨_, _, rfl⟩, by decide, by decide, Or.inl hk⟩
    · rw [if_pos k3] at hc; omega
    · rw [if_neg (by omega), if_pos k4] at hc; omega
  · have e0 : firstP x = x.name.data.toList := by unfold firstP; rw [if_neg (by omega), if_pos hk]
    rw [e0]
    obtain ⟨⟨c, t, e, -⟩, h3⟩ := name_cut (snd1 a hk).1
    refine ⟨⟨c, t, e⟩, h3, ?_, Or.inr hk⟩
    rcases Nat.decEq (kwB x.name.data.toList) 8 with h | h
    · have := hkey hk
      rw [kwB_key h] at this
      cases this
    · exact h

theorem clsB_go {c : UInt8} {r : List UInt8} (h : goN c = true) : clsB (c :: r) = 1 := by
  show (if goN c = true then 1 else if c = 34 then 2 else if c = 123 then 3 else if c = 91 then 4 else if r.head? = some 41 then 5 else kwB (r.takeWhile goN)) = 1
  rw [if_pos h]

theorem quote_head (l : List UInt8) : ∃ t, X.G.quoteL l = 34 :: t := ⟨_, rfl⟩

end Go.Proofs.YthbieinbpfjgkaaGreatDoor.E
