/-
  Plain lists: the tokens of a tree that is printed. No machine here; no conditions but those that each lemma names.
-/
import Derived.Test.YtgghmhgbdknkaaaTyPo
import Derived.Test.YtgghmhgbdknkaaaMR4
import Derived.Test.YtgghmhgbdknkaaaMX2
namespace Go.Proofs.Ytgghmhgbdknkaaa
open Go

/-- A token's kind and text. -/
abbrev PK := Nat × List UInt8

/-- With what stands between skipped, just these tokens are left, from any place on. -/
def Ready (m : List UInt8) (K : List PK) : Prop := ∀ p, ∃ r, X.L.Tk p (m.drop (X.L.skipL false m)) r ∧ r.map (fun t => (t.kind, t.text)) = K
/-- Nothing that goes on with a word comes first. -/
def Fol (m : List UInt8) : Prop := m = [] ∨ ∃ c r, m = c :: r ∧ X.L.goesB c = false

theorem ready_nil : Ready [] [(0, [])] := fun p => ⟨_, X.L.Tk.done p, rfl⟩
theorem ready_blank {m : List UInt8} {K : List PK} (h : Ready m K) : Ready (32 :: m) K := fun p => by
  have e : X.L.skipL false (32 :: m) = X.L.skipL false m + 1 := by
    rw [X.L.skipL, if_pos (by decide)]
  rw [e, List.drop_succ_cons]
  exact h p
theorem ready_tok {g m : List UInt8} {k : Nat} {K : List PK} (h1 : X.L.oneL (g ++ m) = some (k, g, g.length)) (h0 : g ≠ []) (h : Ready m K) : Ready (g ++ m) ((k, g) :: K) := fun p => by
  have hs := X.L.one_skip h1
  obtain ⟨r, hT, hr⟩ := h (p + g.length + X.L.skipL false m)
  refine ⟨⟨k, g, p, p + g.length⟩ :: r, ?_, by simp [hr]⟩
  rw [hs, List.drop_zero]
  refine X.L.Tk.step p (g ++ m) k g g.length r (by simp [h0]) h1 ?_
  rw [List.drop_left]
  exact hT

theorem one_char {c : UInt8} (hc : c = 40 ∨ c = 41 ∨ c = 123 ∨ c = 125 ∨ c = 91 ∨ c = 93 ∨ c = 44 ∨ c = 58 ∨ c = 63) (m : List UInt8) : X.L.oneL ([c] ++ m) = some (5, [c], 1) := by
  rcases hc with rfl | rfl | rfl | rfl | rfl | rfl | rfl | rfl | rfl <;> rfl
theorem one_bar (m : List UInt8) : X.L.oneL ([124] ++ 32 :: m) = some (5, [124], 1) := rfl
theorem one_arr (m : List UInt8) : X.L.oneL ([45, 62] ++ m) = some (5, [45, 62], 2) := rfl

/-- What a word is made of. -/
def NameOK (x : List UInt8) : Prop := X.L.kindL x ≠ 0 ∧ X.L.runL X.L.goesB x = x.length ∧ X.G.at0 x 0 ≠ 34

theorem one_word {x m : List UInt8} (h : NameOK x) (hm : Fol m) : X.L.oneL (x ++ m) = some (X.L.kindL x, x, x.length) := by
  obtain ⟨hk, hr, h34⟩ := h
  have hp := X.L.kindL_pos hk
  have hrun : X.L.runL X.L.goesB (x ++ m) = x.length := by rw [X.L.runL_app _ _ _ hm, hr]
  have hs : ¬ X.L.signL (x ++ m) ≠ [] := fun hs => by
    have := X.L.sign_goes hs
    omega
  have h0 : X.G.at0 (x ++ m) 0 = X.G.at0 x 0 := X.L.at0_app hp
  unfold X.L.oneL
  rw [h0, if_neg h34, if_neg hs, hrun, List.take_left, if_neg hk]

def firstK (x : L.Nd) : List PK :=
  if x.kind = 0 then [(5, [63])] else if x.kind = 1 then [(6, [105, 110, 116])] else if x.kind = 2 then [(6, [98, 111, 111, 108])] else if x.kind = 3 then [(6, [115, 116, 114, 105, 110, 103])] else if x.kind = 4 then [(6, [117, 110, 105, 116])]
  else if x.kind = 6 then [(5, [123])] else if x.kind = 7 then [(5, [91])] else []
def betwK (kind : Int) : List PK := if kind = 5 then [(5, [45, 62])] else if kind = 6 then [(5, [44])] else if kind = 7 then [(5, [124])] else []
def lastK (kind : Int) : List PK := if kind = 6 then [(5, [125])] else if kind = 7 then [(5, [93])] else []
def labK (x : L.Nd) : List PK := if x.name.size = 0 then [] else [(X.L.kindL x.name.data.toList, x.name.data.toList), (5, [58])]
def opnK (p : Bool) (x : L.Nd) : List PK := (if p then [(5, [40])] else []) ++ firstK x
def clsK (p : Bool) (kind : Int) : List PK := lastK kind ++ (if p then [(5, [41])] else [])
/-- The tokens of trees, as the children of a node of kind pk from number k on are printed. -/
def prsK : L.Fo → Int → Nat → List PK
  | .nil, _, _ => []
  | .cons x ks r, pk, k => (if 0 < k then betwK pk else []) ++ (labK x ++ (opnK (L.par pk k x) x ++ (prsK ks x.kind 0 ++ (clsK (L.par pk k x) x.kind ++ prsK r pk (k + 1)))))

/-- Nodes that are printed as tokens. -/
def LxOK : L.Fo → Prop
  | .nil => True
  | .cons x ks r => (0 ≤ x.kind ∧ x.kind ≤ 7) ∧ (x.name.size = 0 ∨ NameOK x.name.data.toList) ∧ (5 ≤ x.kind ∨ ks = .nil) ∧ LxOK ks ∧ LxOK r

theorem fol_cls {p : Bool} {kind : Int} {m : List UInt8} (hm : Fol m) : Fol (L.cls p kind ++ m) := by
  unfold L.cls L.last
  by_cases h6 : kind = 6
  · rw [if_pos h6]
    exact Or.inr ⟨125, _, rfl, by decide⟩
  · rw [if_neg h6]
    by_cases h7 : kind = 7
    · rw [if_pos h7]
      exact Or.inr ⟨93, _, rfl, by decide⟩
    · rw [if_neg h7]
      cases p with
      | true => exact Or.inr ⟨41, _, rfl, by decide⟩
      | false => exact hm

theorem ready_cls {p : Bool} {kind : Int} {m : List UInt8} {K : List PK} (h : Ready m K) : Ready (L.cls p kind ++ m) (clsK p kind ++ K) := by
  have hp : Ready ((if p then [41] else []) ++ m) ((if p then [(5, [41])] else []) ++ K) := by
    cases p with
    | true => exact ready_tok (one_char (by simp) m) (by simp) h
    | false => exact h
  unfold L.cls L.last clsK lastK
  rw [List.append_assoc, List.append_assoc]
  by_cases h6 : kind = 6
  · rw [if_pos h6, if_pos h6]
    exact ready_tok (one_char (by simp) _) (by simp) hp
  · rw [if_neg h6, if_neg h6]
    by_cases h7 : kind = 7
    · rw [if_pos h7, if_pos h7]
      exact ready_tok (one_char (by simp) _) (by simp) hp
    · rw [if_neg h7, if_neg h7]
      exact hp

theorem ready_first {x : L.Nd} (hk : 0 ≤ x.kind ∧ x.kind ≤ 7) {m : List UInt8} {K : List PK} (hm : x.kind < 5 → Fol m) (h : Ready m K) : Ready (L.first x ++ m) (firstK x ++ K) := by
  have hkd : x.kind = 0 ∨ x.kind = 1 ∨ x.kind = 2 ∨ x.kind = 3 ∨ x.kind = 4 ∨ x.kind = 5 ∨ x.kind = 6 ∨ x.kind = 7 := by omega
  unfold L.first firstK
  rcases hkd with h1 | h1 | h1 | h1 | h1 | h1 | h1 | h1
  · simp only [h1]
    exact ready_tok (one_char (by simp) m) (by simp) h
  · simp only [h1]
    exact ready_tok (one_word (x := [105, 110, 116]) ⟨by decide, by decide, by decide⟩ (hm (by omega))) (by simp) h
  · simp only [h1]
    exact ready_tok (one_word (x := [98, 111, 111, 108]) ⟨by decide, by decide, by decide⟩ (hm (by omega))) (by simp) h
  · simp only [h1]
    exact ready_tok (one_word (x := [115, 116, 114, 105, 110, 103]) ⟨by decide, by decide, by decide⟩ (hm (by omega))) (by simp) h
  · simp only [h1]
    exact ready_tok (one_word (x := [117, 110, 105, 116]) ⟨by decide, by decide, by decide⟩ (hm (by omega))) (by simp) h
  · simp only [h1]
    exact h
  · simp only [h1]
    exact ready_tok (one_char (by simp) m) (by simp) h
  · simp only [h1]
    exact ready_tok (one_char (by simp) m) (by simp) h

theorem ready_opn {p : Bool} {x : L.Nd} {m : List UInt8} {K : List PK} (h : Ready (L.first x ++ m) (firstK x ++ K)) : Ready (L.opn p x ++ m) (opnK p x ++ K) := by
  unfold L.opn opnK
  rw [List.append_assoc, List.append_assoc]
  cases p with
  | true => exact ready_tok (g := [40]) (one_char (by simp) _) (by simp) h
  | false => exact h

theorem ready_lab {x : L.Nd} (hn : x.name.size = 0 ∨ NameOK x.name.data.toList) {m : List UInt8} {K : List PK} (h : Ready m K) : Ready (L.lab x ++ m) (labK x ++ K) := by
  unfold L.lab labK
  by_cases h0 : x.name.size = 0
  · rw [if_pos h0, if_pos h0]
    exact h
  · rw [if_neg h0, if_neg h0]
    rcases hn with hn | hn
    · exact absurd hn h0
    · have h1 : Ready ([58] ++ 32 :: m) ((5, [58]) :: K) := ready_tok (one_char (by simp) _) (by simp) (ready_blank h)
      have h2 := ready_tok (one_word hn (Or.inr ⟨58, _, rfl, by decide⟩)) (by
        intro e
        rw [e] at hn
        exact hn.1 (by decide)) h1
      rw [List.append_assoc]
      exact h2

theorem ready_betw {pk : Int} (hp : 5 ≤ pk ∧ pk ≤ 7) {m : List UInt8} {K : List PK} (h : Ready m K) : Ready (L.betw pk ++ m) (betwK pk ++ K) ∧ Fol (L.betw pk ++ m) := by
  have hk : pk = 5 ∨ pk = 6 ∨ pk = 7 := by omega
  rcases hk with rfl | rfl | rfl
  · exact ⟨ready_blank (ready_tok (one_arr _) (by simp) (ready_blank h)), Or.inr ⟨32, _, rfl, by decide⟩⟩
  · exact ⟨ready_tok (g := [44]) (one_char (by simp) _) (by simp) (ready_blank h), Or.inr ⟨44, _, rfl, by decide⟩⟩
  · exact ⟨ready_blank (ready_tok (g := [124]) (one_bar _) (by simp) (ready_blank h)), Or.inr ⟨32, _, rfl, by decide⟩⟩

theorem ready_prs : ∀ (f : L.Fo) (pk : Int) (k : Nat) (m : List UInt8) (K : List PK), LxOK f → (5 ≤ pk ∧ pk ≤ 7 ∨ f = .nil) → Fol m → Ready m K → Ready (L.prs f pk k ++ m) (prsK f pk k ++ K) ∧ (0 < k → Fol (L.prs f pk k ++ m))
  | .nil, _, _, _, _, _, _, hm, h => ⟨h, fun _ => hm⟩
  | .cons x ks r, pk, k, m, K, ho, hp, hm, h => by
    obtain ⟨hk, hn, hl, ho1, ho2⟩ := ho
    have hpk : 5 ≤ pk ∧ pk ≤ 7 := by
      rcases hp with hp | hp
      · exact hp
      · cases hp
    obtain ⟨hr1, hr2⟩ := ready_prs r pk (k + 1) m K ho2 (Or.inl hpk) hm h
    have hF := fol_cls (p := L.par pk k x) (kind := x.kind) (hr2 (by omega))
    have hC := ready_cls (p := L.par pk k x) (kind := x.kind) hr1
    have hK := (ready_prs ks x.kind 0 _ _ ho1 (by rcases hl with hl | hl
                                                  · exact Or.inl ⟨hl, hk.2⟩
                                                  · exact Or.inr hl) hF hC).1
    have hO := ready_first hk (fun h5 => by
      rcases hl with hl | hl
      · omega
      · subst hl; exact hF) hK
    have hP := ready_opn (p := L.par pk k x) hO
    have hL := ready_lab hn hP
    rw [L.prs, prsK]
    by_cases h0 : 0 < k
    · rw [if_pos h0, if_pos h0]
      have := ready_betw hpk hL
      simp only [List.append_assoc] at this ⊢
      exact ⟨this.1, fun _ => this.2⟩
    · rw [if_neg h0, if_neg h0]
      simp only [List.append_assoc, List.nil_append] at hL ⊢
      exact ⟨hL, fun h => absurd h h0⟩

end Go.Proofs.Ytgghmhgbdknkaaa
