/-
  Plain lists: a plain type whose labels are no keys, printed, has just its tokens. No machine here; no conditions but those that each lemma names.
-/
import Derived.Test.YtgghmhgbdknkaaaTrPr1
namespace Go.Proofs.Ytgghmhgbdknkaaa
open Go

theorem runL_all {p : UInt8 → Bool} {l : List UInt8} (h : ∀ c ∈ l, p c = true) : X.L.runL p l = l.length := by
  induction l with
  | nil => rfl
  | cons c r ih => rw [X.L.runL, if_pos (h c (by simp)), ih fun x hx => h x (by simp [hx])]; rfl

theorem goesB_beh (c : UInt8) : X.L.goesB c = behB (c.toNat : Int) := rfl

/-- A label that is no key is a token of its kind. -/
theorem name_ok {lo hi : Int} (hl : (lo = 97 ∧ hi = 122) ∨ (lo = 65 ∧ hi = 90)) {s : ByteArray} (h : nameB lo hi s = true) (hk : X.L.keyL s.data.toList = false) : NameOK s.data.toList ∧ X.L.kindL s.data.toList = (if lo = 97 then 1 else 2) := by
  simp only [nameB, Bool.and_eq_true, decide_eq_true_eq] at h
  obtain ⟨h0, h1, h2⟩ := h
  have hlen : s.data.toList.length = s.size := by simp
  have at_ : ∀ i (hi : i < s.data.toList.length), (s.data.toList[i]).toNat = byteAt s i := fun i hi => byteAt_eq s i (by omega)
  have hall : ∀ i (hi : i < s.data.toList.length), X.L.goesB (s.data.toList[i]) = true := fun i hi => by
    rw [goesB_beh, at_ i hi]
    by_cases hi0 : i = 0
    · subst hi0
      exact behB_of_in hl h1
    · cases hb : behB (byteAt s i) with
      | true => rfl
      | false =>
        have := allB_bad s s.size 1 i (by omega) (by omega) (by omega) hb
        rw [this] at h2
        cases h2
  have hmem : ∀ c ∈ s.data.toList, X.L.goesB c = true := fun c hc => by
    obtain ⟨i, hi, rfl⟩ := List.getElem_of_mem hc
    exact hall i hi
  have hb0 : (lo = 97 ∧ 97 ≤ byteAt s 0 ∧ byteAt s 0 ≤ 122) ∨ (lo = 65 ∧ 65 ≤ byteAt s 0 ∧ byteAt s 0 ≤ 90) := by
    simp only [inB, Bool.and_eq_true, decide_eq_true_eq] at h1
    omega
  have hkind : X.L.kindL s.data.toList = (if lo = 97 then 1 else 2) := by
    have h3 := at_ 0 (by omega)
    unfold X.L.kindL
    rw [hk, if_neg (by simp)]
    cases hs : s.data.toList with
    | nil => rw [hs] at hlen; simp at hlen; omega
    | cons c r =>
      have hc : (c.toNat : Int) = byteAt s 0 := by rw [← h3]; simp [hs]
      have hr : r.all X.L.goesB = true := List.all_eq_true.2 fun x hx => hmem x (by rw [hs]; simp [hx])
      unfold X.L.nameL
      simp only [hr, Bool.and_true]
      rcases hb0 with ⟨rfl, h4, h5⟩ | ⟨rfl, h4, h5⟩
      · rw [if_pos (show X.inB (c.toNat : Int) 97 122 = true by simp [X.inB]; omega), if_pos rfl]
      · rw [if_neg (show ¬ X.inB (c.toNat : Int) 97 122 = true by simp [X.inB]; omega), if_pos (show X.inB (c.toNat : Int) 65 90 = true by simp [X.inB]; omega), if_neg (by decide)]
  refine ⟨⟨?_, runL_all hmem, ?_⟩, hkind⟩
  · rw [hkind]
    split <;> decide
  · have h3 := at_ 0 (by omega)
    have e : X.G.at0 s.data.toList 0 = (s.data.toList[0]'(by omega)).toNat := by
      unfold X.G.at0
      rw [List.getD_eq_getElem?_getD, List.getElem?_eq_getElem (by omega : 0 < s.data.toList.length)]
      rfl
    rw [e]
    intro h34
    rw [h34] at h3
    omega

/-- No label is a key. -/
def NoKey (l : List L.Nd) : Prop := ∀ z ∈ l, X.L.keyL z.name.data.toList = false

theorem label_ok {pk : Int} {s : ByteArray} (h : L.isLabel pk s = true) (hk : X.L.keyL s.data.toList = false) : NameOK s.data.toList ∧ X.L.kindL s.data.toList = (if pk = 6 then 1 else 2) := by
  simp only [L.isLabel, Bool.or_eq_true, Bool.and_eq_true, decide_eq_true_eq] at h
  rcases h with ⟨rfl, h⟩ | ⟨rfl, h⟩
  · exact name_ok (Or.inl ⟨rfl, rfl⟩) h hk
  · exact name_ok (Or.inr ⟨rfl, rfl⟩) h hk

theorem lxOK_of : ∀ (x : L.Nd) (f : L.Fo) (k : Nat) (b : ByteArray), f.ok = true → L.Fo.stand x k b f = true → (∀ z ∈ f.flat, z.kind ≠ 8 ∧ z.kind ≠ 9) → NoKey f.flat → LxOK f
  | _, .nil, _, _, _, _, _, _ => trivial
  | x, .cons y ls r, k, b, ho, hs, hv, hn => by
    simp only [L.Fo.ok, Bool.and_eq_true, decide_eq_true_eq] at ho
    obtain ⟨⟨⟨⟨o1, o2⟩, o3⟩, o4⟩, o5⟩ := ho
    simp only [L.Fo.stand, Bool.and_eq_true] at hs
    have hy := hv y (by simp [L.Fo.flat])
    have hkd := (kind_of o1).1
    have hky := hn y (by simp [L.Fo.flat])
    refine ⟨⟨hkd.1, by omega⟩, ?_, ?_, lxOK_of y ls 0 ⟨#[]⟩ o4 o3 (fun z hz => hv z ?_) (fun z hz => hn z ?_), lxOK_of x r (k + 1) y.name o5 hs.2 (fun z hz => hv z ?_) (fun z hz => hn z ?_)⟩
    · have h1 := hs.1
      unfold L.mayStand at h1
      by_cases h5 : x.kind = 5
      · rw [if_pos h5] at h1
        left
        rw [bare_name h1]
        rfl
      · rw [if_neg h5, if_neg hy.2, Bool.and_eq_true] at h1
        exact Or.inr (label_ok h1.1 hky).1
    · by_cases h5 : 5 ≤ y.kind
      · exact Or.inl h5
      · right
        rw [many_small (by omega)] at o2
        cases ls with
        | nil => rfl
        | cons a b c => simp [L.Fo.count] at o2; omega
    · simp only [L.Fo.flat, List.mem_cons, List.mem_append]; exact Or.inr (Or.inl hz)
    · simp only [L.Fo.flat, List.mem_cons, List.mem_append]; exact Or.inr (Or.inl hz)
    · simp only [L.Fo.flat, List.mem_cons, List.mem_append]; exact Or.inr (Or.inr hz)
    · simp only [L.Fo.flat, List.mem_cons, List.mem_append]; exact Or.inr (Or.inr hz)

/-- A tree's tokens, without its label, in brackets or not. -/
def bodyK (p : Bool) (x : L.Nd) (ks : L.Fo) : List PK := opnK p x ++ (prsK ks x.kind 0 ++ clsK p x.kind)

theorem print_toks {x : L.Nd} {ks : L.Fo} (h : Pl x ks) (hb : L.bare x = true) (hn : NoKey ks.flat) : ∃ r, X.L.toksL (L.prT false x ks) = .ok r ∧ r.map (fun t => (t.kind, t.text)) = bodyK false x ks ++ [(0, [])] := by
  obtain ⟨h1, h2, h3, h4⟩ := h.num
  have hx := bare_name hb
  have hkx := h.kinds
  have hL : LxOK (.cons x ks .nil) := by
    refine ⟨hkx, Or.inl (by rw [hx]; rfl), ?_, lxOK_of x ks 0 ⟨#[]⟩ h4 h3 (fun z hz => h.2 z (by simp [hz])) hn, trivial⟩
    by_cases h5 : 5 ≤ x.kind
    · exact Or.inl h5
    · right
      rw [many_small (by omega)] at h2
      cases ks with
      | nil => rfl
      | cons a b c => simp [L.Fo.count] at h2; omega
  have hR := (ready_prs (.cons x ks .nil) 6 0 [] [(0, [])] hL (Or.inl (by decide)) (Or.inl rfl) ready_nil).1
  have hpar : L.par 6 0 x = false := by simp [L.par]
  have e1 : L.prs (.cons x ks .nil) 6 0 ++ [] = L.prT false x ks := by
    rw [L.prs_cons, hpar]
    simp [L.prs]
  have e2 : prsK (.cons x ks .nil) 6 0 ++ [(0, [])] = bodyK false x ks ++ [(0, [])] := by
    have e3 : labK x = [] := by unfold labK; rw [hx]; rfl
    rw [prsK, hpar, e3]
    simp [prsK, bodyK]
  rw [e1, e2] at hR
  obtain ⟨r, hT, hr⟩ := hR (X.L.skipL false (L.prT false x ks))
  exact ⟨r, X.L.of_all hT, hr⟩

end Go.Proofs.Ytgghmhgbdknkaaa
