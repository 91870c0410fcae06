/-
  Expressions without casts, no name of which is a key: what their prints begin with. No machine here. No conditions but those that each lemma names.
-/
import Derived.Test.YthbieinbpfjgkaaGreatDoorMA8
import Derived.Test.YthbieinbpfjgkaaGreatDoorMA19
import Derived.Test.YthbieinbpfjgkaaGreatDoorM5
namespace Go.Proofs.YthbieinbpfjgkaaGreatDoor.E
open Go

def keysL : List (List UInt8) := [[105, 109, 112, 111, 114, 116], [100, 101, 102], [102, 117, 110], [108, 101, 116], [114, 101, 99], [105, 110], [105, 102], [116, 104, 101, 110], [101, 108, 115, 101], [99, 97, 115, 101], [111, 102], [101, 110, 100], [116, 114, 117, 101], [102, 97, 108, 115, 101], [117, 110, 105, 116], [105, 110, 116], [98, 111, 111, 108], [115, 116, 114, 105, 110, 103]]
def keyL (l : List UInt8) : Bool := keysL.contains l

/-- The bytes of names: of words, and the one between two of them. -/
def goN (c : UInt8) : Bool := behB (c.toNat : Int) || c == 33
def StopR (r : List UInt8) : Prop := ∀ c t, r = c :: t → goN c = false
def Dotless (r : List UInt8) : Prop := ∀ t, r ≠ 46 :: t

theorem stop_cons {c : UInt8} {t : List UInt8} (h : goN c = false) : StopR (c :: t) := fun d u e => by
  injection e with e1 e2
  rw [← e1]
  exact h
theorem dot_cons {c : UInt8} {t : List UInt8} (h : c ≠ 46) : Dotless (c :: t) := fun u e => by
  injection e with e1 e2
  exact h e1
theorem stop_nil : StopR [] := fun _ _ h => by cases h
theorem dot_nil : Dotless [] := fun _ h => by cases h

theorem cutW : ∀ {a b r s : List UInt8}, (∀ x ∈ a, goN x = true) → (∀ x ∈ b, goN x = true) → StopR r → StopR s → a ++ r = b ++ s → a = b ∧ r = s
  | [], [], _, _, _, _, _, _, h => ⟨rfl, by simpa using h⟩
  | [], y :: b, r, s, _, hb, hr, _, h => by
    have := hr y (b ++ s) (by simpa using h)
    rw [hb y (by simp)] at this
    cases this
  | x :: a, [], r, s, ha, _, _, hs, h => by
    have := hs x (a ++ r) (by simpa using h.symm)
    rw [ha x (by simp)] at this
    cases this
  | x :: a, y :: b, r, s, ha, hb, hr, hs, h => by
    simp only [List.cons_append, List.cons.injEq] at h
    obtain ⟨h1, h2⟩ := cutW (fun z hz => ha z (by simp [hz])) (fun z hz => hb z (by simp [hz])) hr hs h.2
    exact ⟨by rw [h.1, h1], h2⟩

theorem cut32 : ∀ {a b : List UInt8} {r s : List UInt8}, (∀ x ∈ a, x ≠ 32) → (∀ x ∈ b, x ≠ 32) → a ++ 32 :: r = b ++ 32 :: s → a = b ∧ r = s
  | [], [], _, _, _, _, h => ⟨rfl, by simpa using h⟩
  | [], y :: b, _, _, _, hb, h => by
    simp only [List.nil_append, List.cons_append, List.cons.injEq] at h
    exact absurd h.1.symm (hb y (by simp))
  | x :: a, [], _, _, ha, _, h => by
    simp only [List.nil_append, List.cons_append, List.cons.injEq] at h
    exact absurd h.1 (ha x (by simp))
  | x :: a, y :: b, _, _, ha, hb, h => by
    simp only [List.cons_append, List.cons.injEq] at h
    obtain ⟨h1, h2⟩ := cut32 (fun z hz => ha z (by simp [hz])) (fun z hz => hb z (by simp [hz])) h.2
    exact ⟨by rw [h.1, h1], h2⟩

theorem takeW {a r : List UInt8} (ha : ∀ x ∈ a, goN x = true) (hr : StopR r) : (a ++ r).takeWhile goN = a := by
  rw [List.takeWhile_append_of_pos ha]
  cases r with
  | nil => simp
  | cons c t => rw [List.takeWhile_cons, if_neg (by rw [hr c t rfl]; decide), List.append_nil]

theorem goN_beh {c : UInt8} (h : behB (c.toNat : Int) = true) : goN c = true := by unfold goN; rw [h]; rfl

theorem name_go {lo hi : Int} {s : ByteArray} (hl : (lo = 97 ∧ hi = 122) ∨ (lo = 65 ∧ hi = 90)) (h : nameB lo hi s = true) :
    (∃ c t, s.data.toList = c :: t ∧ lo ≤ (c.toNat : Int) ∧ (c.toNat : Int) ≤ hi) ∧ ∀ b ∈ s.data.toList, goN b = true := by
  simp only [nameB, Bool.and_eq_true, decide_eq_true_eq] at h
  obtain ⟨h0, h1, h2⟩ := h
  have hlen : s.data.toList.length = s.size := by simp
  have at_ : ∀ i (hi : i < s.data.toList.length), (s.data.toList[i]).toNat = byteAt s i := fun i hi => byteAt_eq s i (by omega)
  have hb0 : lo ≤ (byteAt s 0 : Int) ∧ (byteAt s 0 : Int) ≤ hi := by simpa only [inB, Bool.and_eq_true, decide_eq_true_eq] using h1
  constructor
  · cases hs : s.data.toList with
    | nil => rw [hs] at hlen; simp at hlen; omega
    | cons c t =>
      have h := at_ 0 (by omega)
      have hc : c.toNat = byteAt s 0 := by
        rw [← h]
        simp [hs]
      exact ⟨c, t, rfl, by omega, by omega⟩
  · intro b hb
    obtain ⟨i, hi, rfl⟩ := List.getElem_of_mem hb
    refine goN_beh ?_
    rw [at_ i hi]
    by_cases hi0 : i = 0
    · subst hi0
      unfold behB inB
      rcases hl with ⟨rfl, rfl⟩ | ⟨rfl, rfl⟩ <;> simp <;> omega
    · cases hb : behB (byteAt s i) with
      | true => rfl
      | false =>
        have := allB_bad s s.size 1 i (by omega) (by omega) (by omega) hb
        rw [this] at h2
        cases h2

theorem name_cut {s : ByteArray} (h : nameOK s = true) : (∃ c t, s.data.toList = c :: t ∧ 97 ≤ (c.toNat : Int) ∧ (c.toNat : Int) ≤ 122) ∧ ∀ b ∈ s.data.toList, goN b = true := by
  unfold nameOK cutN Lib.cut at h
  rcases Lib.index_spec s.data.toList [33] with ⟨hi, -⟩ | ⟨i, hi, hil, ho, -⟩
  · rw [if_neg (by rw [hi]; decide)] at h
    have h1 := ((Bool.and_eq_true _ _).mp h).1
    have := name_go (Or.inl ⟨rfl, rfl⟩) h1
    simpa using this
  · rw [if_pos (by omega)] at h
    obtain ⟨h1, h2⟩ := (Bool.and_eq_true _ _).mp h
    simp only [Bool.not_true, Bool.false_or] at h2
    obtain ⟨⟨c, t, e1, e2, e3⟩, hA⟩ := name_go (Or.inl ⟨rfl, rfl⟩) h1
    obtain ⟨-, hB⟩ := name_go (Or.inl ⟨rfl, rfl⟩) h2
    rw [hi] at e1 hA hB
    simp only [Int.toNat_natCast, List.length_cons, List.length_nil, Nat.zero_add] at e1 hA hB
    have hd : s.data.toList.drop i = 33 :: s.data.toList.drop (i + 1) := by
      unfold Lib.occAt at ho
      cases hs : s.data.toList.drop i with
      | nil => rw [hs] at ho; simp at ho
      | cons d u =>
        rw [hs] at ho
        simp at ho
        have : s.data.toList.drop (i + 1) = (s.data.toList.drop i).drop 1 := by rw [List.drop_drop]
        rw [this, hs, ← ho]
        rfl
    have hs : s.data.toList = s.data.toList.take i ++ 33 :: s.data.toList.drop (i + 1) := by rw [← hd, List.take_append_drop]
    constructor
    · exact ⟨c, t ++ 33 :: s.data.toList.drop (i + 1), hs.trans (by rw [e1]; rfl), e2, e3⟩
    · intro b hb
      rw [hs] at hb
      rcases List.mem_append.1 hb with h | h
      · exact hA b h
      · rcases List.mem_cons.1 h with rfl | h
        · decide
        · exact hB b h

theorem u8_dig {u : Nat} (h : u < 10) : (UInt8.ofNat (48 + u)).toNat = 48 + u := by
  rw [UInt8.toNat_ofNat']
  omega

theorem dec_go (u : Nat) : (∀ b ∈ Lib.decDigits u, 48 ≤ b.toNat ∧ b.toNat ≤ 57) ∧ Lib.decDigits u ≠ [] := by
  induction u using Nat.strongRecOn with
  | _ u ih =>
    rw [Lib.decDigits]
    split
    · rename_i h
      refine ⟨fun b hb => ?_, by simp⟩
      rw [List.mem_singleton] at hb
      subst hb
      rw [u8_dig h]
      omega
    · rename_i h
      refine ⟨fun b hb => ?_, by simp⟩
      rcases List.mem_append.1 hb with h1 | h1
      · exact (ih (u / 10) (by omega)).1 b h1
      · rw [List.mem_singleton] at h1
        subst h1
        rw [u8_dig (Nat.mod_lt _ (by decide))]
        omega

def valD (l : List UInt8) : Nat := l.foldl (fun a b => a * 10 + (b.toNat - 48)) 0
theorem val_dec (u : Nat) : valD (Lib.decDigits u) = u := by
  induction u using Nat.strongRecOn with
  | _ u ih =>
    rw [Lib.decDigits]
    split
    · rename_i h
      show 0 * 10 + ((UInt8.ofNat (48 + u)).toNat - 48) = u
      rw [u8_dig h]
      omega
    · rename_i h
      have := ih (u / 10) (by omega)
      unfold valD at this ⊢
      rw [List.foldl_append, this]
      show u / 10 * 10 + ((UInt8.ofNat (48 + u % 10)).toNat - 48) = u
      rw [u8_dig (Nat.mod_lt _ (by decide))]
      omega

theorem itoa_go {n : Int} (h : 0 ≤ n) : (∃ c t, Lib.itoa n = c :: t ∧ 48 ≤ c.toNat ∧ c.toNat ≤ 57) ∧ ∀ b ∈ Lib.itoa n, goN b = true := by
  unfold Lib.itoa
  rw [if_neg (by omega)]
  obtain ⟨h1, h2⟩ := dec_go n.toNat
  constructor
  · cases hd : Lib.decDigits n.toNat with
    | nil => exact absurd hd h2
    | cons c t => exact ⟨c, t, rfl, h1 c (by rw [hd]; simp)⟩
  · intro b hb
    have := h1 b hb
    refine goN_beh ?_
    unfold behB inB
    simp
    omega
theorem itoa_one {m n : Int} (hm : 0 ≤ m) (hn : 0 ≤ n) (h : Lib.itoa m = Lib.itoa n) : m = n := by
  unfold Lib.itoa at h
  rw [if_neg (by omega), if_neg (by omega)] at h
  have := congrArg valD h
  rw [val_dec, val_dec] at this
  omega

/-- Types that are printed alike, with no arrow behind, are alike. -/
theorem tyP_uniq {t u : List L.Nd} (ht : plain t = true) (hu : plain u = true) {r s : List UInt8} (nr : noArr r) (ns : noArr s) (h : L.tyP t ++ r = L.tyP u ++ s) : L.sameL t u = true ∧ r = s := by
  obtain ⟨pt, qt⟩ := (Bool.and_eq_true _ _).mp ht
  obtain ⟨pu, qu⟩ := (Bool.and_eq_true _ _).mp hu
  obtain ⟨x, ka, rfl, -, b1, o1, -⟩ := (L.rightL_iff _).1 pt
  obtain ⟨y, kb, rfl, -, b2, o2, -⟩ := (L.rightL_iff _).1 pu
  have pl : ∀ {l : List L.Nd}, L.plainL l = true → ∀ z ∈ l, z.kind ≠ 8 ∧ z.kind ≠ 9 := by
    intro l h z hz
    simp only [L.plainL, Bool.not_eq_true', List.any_eq_false] at h
    have := h z hz
    simp only [L.varN, Bool.or_eq_true, decide_eq_true_eq, not_or] at this
    exact this
  have nx := bare_name b1
  have ny := bare_name b2
  have lx : L.lab x = [] := by unfold L.lab; rw [nx]; rfl
  have ly : L.lab y = [] := by unfold L.lab; rw [ny]; rfl
  rw [L.tyP_eq o1, L.tyP_eq o2, prT_body, prT_body, lx, ly, List.nil_append, List.nil_append] at h
  obtain ⟨h1, h2⟩ := (uniq (ka.flat.length + 1)).2 x ka y kb r s (by omega) ⟨o1, pl qt⟩ ⟨o2, pl qu⟩ nr ns h
  exact ⟨h1.node (nx.trans ny.symm), h2⟩

/-- Types that are alike are printed alike. -/
theorem tyP_same {t u : List L.Nd} (ht : plain t = true) (hu : plain u = true) (h : L.sameL t u = true) : L.tyP t = L.tyP u := by
  obtain ⟨x, ka, rfl, -, b1, o1, -⟩ := (L.rightL_iff _).1 ((Bool.and_eq_true _ _).mp ht).1
  obtain ⟨y, kb, rfl, -, b2, o2, -⟩ := (L.rightL_iff _).1 ((Bool.and_eq_true _ _).mp hu).1
  rw [L.tyP_eq o1, L.tyP_eq o2]
  exact print_same o1 o2 h

theorem noArr_of {c : UInt8} {t : List UInt8} (h : c ≠ 32) : noArr (c :: t) := fun u hu => by
  injection hu with h1
  exact h h1
theorem noArr_eq {t : List UInt8} : noArr (32 :: 61 :: t) := fun u hu => by
  injection hu with h1 h2
  injection h2 with h3
  exact absurd h3 (by decide)

/-- A quoted text is one at most. -/
theorem quote_uniq {a b r s : List UInt8} (h : X.G.quoteL a ++ r = X.G.quoteL b ++ s) : a = b ∧ r = s := by
  have h1 := X.G.quoteL_told a r
  have h2 := X.G.quoteL_told b s
  rw [h, h2] at h1
  injection h1 with h1
  injection h1 with h1 h3
  subst h1
  exact ⟨rfl, List.append_cancel_left h⟩

/-! ### Good rows -/
/-- A row of trees of sound parts, without casts, no name of which is a key. -/
def GdF (f : Fo) : Prop := f.ok = true ∧ ∀ z ∈ f.flat, z.kind ≠ 14 ∧ (z.kind = 1 → keyL z.name.data.toList = false)

theorem GdF.split {y : Pt} {ks r : Fo} (h : GdF (.cons y ks r)) : GdF (.cons y ks .nil) ∧ GdF r := by
  obtain ⟨h1, h2⟩ := h
  simp only [Fo.ok, Bool.and_eq_true] at h1
  refine ⟨⟨by simp only [Fo.ok, Bool.and_true, Bool.and_eq_true]; exact h1.1, fun z hz => h2 z ?_⟩, h1.2, fun z hz => h2 z (by simp [Fo.flat, hz])⟩
  simp only [Fo.flat, List.append_nil, List.mem_cons, List.mem_append] at hz ⊢
  rcases hz with hz | hz
  · exact Or.inl hz
  · exact Or.inr (Or.inl hz)

theorem GdF.tree {x : Pt} {ks : Fo} (h : GdF (.cons x ks .nil)) : sound x = true ∧ many x = ks.count ∧ Fo.stand x 0 [] ks = true ∧ GdF ks ∧ x.kind ≠ 14 ∧ (x.kind = 1 → keyL x.name.data.toList = false) := by
  obtain ⟨a, b, c, d, -⟩ := ok_cons h.1
  have h2 := h.2
  exact ⟨a, b, c, ⟨d, fun z hz => h2 z (by simp [Fo.flat, hz])⟩, h2 x (by simp [Fo.flat])⟩

theorem bare_label {x : Pt} (h : bare x = true) : x.label = ⟨#[]⟩ ∧ x.kind ≠ 8 := by
  simpa only [bare, Bool.and_eq_true, decide_eq_true_eq] using h

theorem may_bare {x y : Pt} {k : Int} {b : List ByteArray} (h : may x k b y = true) (h10 : x.kind ≠ 10) (h7 : ¬ (x.kind = 7 ∧ 0 < k)) : bare y = true := by
  unfold may at h
  rwa [if_neg h10, if_neg h7] at h

theorem kids1 {x : Pt} {ks : Fo} (h : GdF (.cons x ks .nil)) (hm : many x = 1) (h10 : x.kind ≠ 10) (h7 : x.kind ≠ 7) : ∃ c kc, ks = .cons c kc .nil ∧ GdF (.cons c kc .nil) ∧ bare c = true := by
  obtain ⟨-, h2, h3, h4, -⟩ := h.tree
  rw [hm] at h2
  cases ks with
  | nil => simp [Fo.count] at h2
  | cons c kc r =>
    cases r with
    | cons d kd r => simp [Fo.count] at h2; omega
    | nil =>
      simp only [Fo.stand, Bool.and_true] at h3
      exact ⟨c, kc, rfl, h4, may_bare h3 h10 (by simp [h7])⟩

theorem kids2 {x : Pt} {ks : Fo} (h : GdF (.cons x ks .nil)) (hm : many x = 2) (h10 : x.kind ≠ 10) (h7 : x.kind ≠ 7) : ∃ c kc d kd, ks = .cons c kc (.cons d kd .nil) ∧ GdF (.cons c kc .nil) ∧ bare c = true ∧ GdF (.cons d kd .nil) ∧ bare d = true := by
  obtain ⟨-, h2, h3, h4, -⟩ := h.tree
  rw [hm] at h2
  cases ks with
  | nil => simp [Fo.count] at h2
  | cons c kc r =>
    cases r with
    | nil => simp [Fo.count] at h2
    | cons d kd r =>
      cases r with
      | cons e ke r => simp [Fo.count] at h2; omega
      | nil =>
        simp only [Fo.stand, Bool.and_true, Bool.and_eq_true] at h3
        exact ⟨c, kc, d, kd, rfl, h4.split.1, may_bare h3.1 h10 (by simp [h7]), h4.split.2, may_bare h3.2 h10 (by simp [h7])⟩

theorem kids3 {x : Pt} {ks : Fo} (h : GdF (.cons x ks .nil)) (hm : many x = 3) (h10 : x.kind ≠ 10) (h7 : x.kind ≠ 7) : ∃ c kc d kd e ke, ks = .cons c kc (.cons d kd (.cons e ke .nil)) ∧ GdF (.cons c kc .nil) ∧ bare c = true ∧ GdF (.cons d kd .nil) ∧ bare d = true ∧ GdF (.cons e ke .nil) ∧ bare e = true := by
  obtain ⟨-, h2, h3, h4, -⟩ := h.tree
  rw [hm] at h2
  cases ks with
  | nil => simp [Fo.count] at h2
  | cons c kc r =>
    cases r with
    | nil => simp [Fo.count] at h2
    | cons d kd r =>
      cases r with
      | nil => simp [Fo.count] at h2
      | cons e ke r =>
        cases r with
        | cons f kf r => simp [Fo.count] at h2; omega
        | nil =>
          simp only [Fo.stand, Bool.and_true, Bool.and_eq_true] at h3
          exact ⟨c, kc, d, kd, e, ke, rfl, h4.split.1, may_bare h3.1 h10 (by simp [h7]), h4.split.2.split.1, may_bare h3.2.1 h10 (by simp [h7]), h4.split.2.split.2, may_bare h3.2.2 h10 (by simp [h7])⟩

end Go.Proofs.YthbieinbpfjgkaaGreatDoor.E
