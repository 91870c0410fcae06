/-
  The contract of ty.Print of a right type, and how long a print is; the contract of ty.Same. Conditions: at most 10000 nodes, labels of at most 200 bytes; the table of powers of ten holds what the program's text says.
-/
import Derived.Test.YtjcocjpenchplaaDoorTyYj
import Derived.Test.YtjcocjpenchplaaDoorTyYs
import Derived.Test.YtjcocjpenchplaaDoorTyS
namespace Go.Proofs.YtjcocjpenchplaaDoor
open Go.RowKit

def Short (l : List L.Nd) : Prop := ∀ x ∈ l, x.name.size ≤ 200 ∧ x.n ≤ 9223372036854775807

theorem lab_len {x : L.Nd} (h : x.name.size ≤ 200) : (L.lab x).length ≤ 202 := by
  unfold L.lab
  split
  · simp
  · have : x.name.data.toList.length = x.name.size := by simp
    simp only [List.length_append, this, List.length_cons, List.length_nil]
    omega
theorem opn_len {p : Bool} {x : L.Nd} (h0 : x.kind = 8 ∨ x.kind = 9 → 0 ≤ x.n) (h1 : x.n ≤ 9223372036854775807) : (L.opn p x).length ≤ 24 := by
  have := first_len h0 h1
  unfold L.opn
  rw [List.length_append]
  split <;> simp only [List.length_cons, List.length_nil] <;> omega
theorem cls_len (p : Bool) (k : Int) : (L.cls p k).length ≤ 2 := by
  have := last_len k
  unfold L.cls
  rw [List.length_append]
  split <;> simp only [List.length_cons, List.length_nil] <;> omega

theorem prs_len : ∀ (f : L.Fo) (pk : Int) (k : Nat), f.ok = true → Short f.flat → (L.prs f pk k).length ≤ f.flat.length * 300
  | .nil, _, _, _, _ => by simp [L.prs]
  | .cons x ks r, pk, k, ho, hs => by
    simp only [L.Fo.ok, Bool.and_eq_true] at ho
    have h1 := prs_len ks x.kind 0 ho.1.2 (fun y hy => hs y (by simp [L.Fo.flat, hy]))
    have h2 := prs_len r pk (k + 1) ho.2 (fun y hy => hs y (by simp [L.Fo.flat, hy]))
    obtain ⟨h3, h4⟩ := hs x (by simp [L.Fo.flat])
    have h5 := (kind_of ho.1.1.1.1).2
    have h6 := lab_len h3
    have h7 := opn_len (p := L.par pk k x) h5 h4
    have h8 := cls_len (L.par pk k x) x.kind
    have h9 : (if 0 < k then L.betw pk else []).length ≤ 4 := by
      split
      · exact betw_len pk
      · simp
    simp only [L.prs, L.Fo.flat, List.length_append, List.length_cons]
    omega

theorem prT_len {x : L.Nd} {ks : L.Fo} {p : Bool} (ho : (L.Fo.cons x ks .nil).ok = true) (hs : Short (x :: ks.flat)) : (L.prT p x ks).length ≤ (ks.flat.length + 1) * 300 := by
  simp only [L.Fo.ok, Bool.and_true, Bool.and_eq_true] at ho
  have h1 := prs_len ks x.kind 0 ho.2 (fun y hy => hs y (by simp [hy]))
  obtain ⟨h3, h4⟩ := hs x (by simp)
  have h5 := (kind_of ho.1.1.1).2
  have h6 := lab_len h3
  have h7 := opn_len (p := p) h5 h4
  have h8 := cls_len p x.kind
  simp only [L.prT, List.length_append]
  omega

theorem prT_ne {x : L.Nd} {ks : L.Fo} {p : Bool} (ho : (L.Fo.cons x ks .nil).ok = true) : L.prT p x ks ≠ [] := by
  simp only [L.Fo.ok, Bool.and_true, Bool.and_eq_true, decide_eq_true_eq] at ho
  obtain ⟨⟨⟨h1, h2⟩, -⟩, -⟩ := ho
  have hk := (kind_of h1).1
  by_cases h5 : x.kind = 5
  · have hm : L.many x = 2 := by unfold L.many; simp [h5]
    cases ks with
    | nil => simp [L.Fo.count, hm] at h2
    | cons y k1 r =>
      cases r with
      | nil => simp [L.Fo.count, hm] at h2
      | cons z k2 r =>
        intro h
        have := congrArg List.length h
        simp [L.prT, L.prs, L.betw, h5] at this
  · intro h
    have h9 : L.first x = [] := by
      simp only [L.prT, L.opn, List.append_eq_nil_iff] at h
      exact h.2.1.2
    unfold L.first at h9
    repeat' split at h9
    all_goals first
      | (simp at h9; done)
      | omega

set_option maxHeartbeats 2000000 in
set_option maxRecDepth 100000 in
theorem print_any (x : L.Nd) (ks : L.Fo) (hok : (L.Fo.cons x ks .nil).ok = true) (hs : Short (x :: ks.flat)) (hl : ks.flat.length + 1 ≤ 10000) (v : Value) (w : World) (hx : Rd w w.heap.size v (x :: ks.flat)) (hT : Tab w) :
    Calls Tryd.prog 20 #[v] w fun e w' => e = .returned (.string ⟨(L.prT false x ks).toArray⟩) ∧ Below w.heap.size w w' := by
  have hlen := prT_len (p := false) hok hs
  have HNE := hid (prT_ne (p := false) hok)
  have HX := hid hx
  obtain ⟨A, cap, rfl, hl1, hl2, _, hcx⟩ := hx
  obtain ⟨b, o, rfl, hb, _⟩ := hcx (by simp)
  unfold maxLen at hl2
  clear hcx
  have hpos : (0 : Int) < ((x :: ks.flat).length : Int) := by simp
  have hT2 := hT.size
  have HOK := hid hok
  have HT := hid hT
  have HSH := hid hs
  have hll : (x :: ks.flat).length ≤ 20000 := by simp; omega
  have hnl : ([] : List UInt8).length + (L.prT false x ks).length ≤ 9000000 := by simp; omega
  have hdr : (x :: ks.flat).drop 0 = x :: (ks.flat ++ []) := by simp
  have hfl : 0 + 1 + ks.flat.length = (x :: ks.flat).length := by simp [Nat.add_comm]
  clear hok hs hT hlen
  generalize (x :: ks.flat) = l at *
  go_enter Tryd.func20, Tryd.ntmps20
  go_wp2_with fail
  have hS : PSt l (.slice (some ⟨b, o, none⟩) l.length cap) w.heap.size (w.heap.size + 1) (w.heap.size + 1 + 1) (w.heap.size + 1 + 1 + 1) 0 [] ((((w.alloc (.cells #[.slice (some ⟨b, o, none⟩) l.length cap] 23)).alloc (.cells #[.pointer none, .slice none 0 0] 58)).alloc (.cells #[.int .i64 ((0 : Nat) : Int)] 3)).alloc (.cells #[.func (.func 47) #[] #[.pointer (some ⟨w.heap.size, 0, none⟩), .pointer (some ⟨w.heap.size + 1 + 1, 0, none⟩), .pointer (some ⟨w.heap.size + 1, 0, none⟩), .pointer (some ⟨w.heap.size + 1 + 1 + 1, 0, none⟩)]] 59)) := by
    refine ⟨?_, ?_, ?_, ?_, ?_, ?_, hT2, by omega, by omega, by omega⟩
    · rw [Lib.alloc_old _ _ _ (by simp; omega), Lib.alloc_old _ _ _ (by simp; omega), Lib.alloc_old _ _ _ (by simp)]; exact heap_alloc_new w _
    · rw [Lib.alloc_old _ _ _ (by simp)]
      have := heap_alloc_new ((w.alloc (.cells #[.slice (some ⟨b, o, none⟩) l.length cap] 23)).alloc (.cells #[.pointer none, .slice none 0 0] 58)) (.cells #[.int .i64 ((0 : Nat) : Int)] 3)
      simpa using this
    · have := heap_alloc_new (((w.alloc (.cells #[.slice (some ⟨b, o, none⟩) l.length cap] 23)).alloc (.cells #[.pointer none, .slice none 0 0] 58)).alloc (.cells #[.int .i64 ((0 : Nat) : Int)] 3)) (.cells #[.func (.func 47) #[] #[.pointer (some ⟨w.heap.size, 0, none⟩), .pointer (some ⟨w.heap.size + 1 + 1, 0, none⟩), .pointer (some ⟨w.heap.size + 1, 0, none⟩), .pointer (some ⟨w.heap.size + 1 + 1 + 1, 0, none⟩)]] 59)
      simpa using this
    · refine Or.inl ⟨Nat.le_refl _, .slice none 0 0, ?_, ⟨rfl, Or.inl ⟨rfl, rfl⟩⟩, by simp [Value.ownBlock]⟩
      rw [Lib.alloc_old _ _ _ (by simp), Lib.alloc_old _ _ _ (by simp)]
      have := heap_alloc_new (w.alloc (.cells #[.slice (some ⟨b, o, none⟩) l.length cap] 23)) (.cells #[.pointer none, .slice none 0 0] 58)
      simpa using this
    · exact (((HX.out.alloc _).alloc _).alloc _).alloc _
    · exact HT.out.grows ((((below_new _).alloc (by simp) _).alloc (by simp; omega) _).alloc (by simp; omega) _)
  have hB0 : Below w.heap.size w ((((w.alloc (.cells #[.slice (some ⟨b, o, none⟩) l.length cap] 23)).alloc (.cells #[.pointer none, .slice none 0 0] 58)).alloc (.cells #[.int .i64 ((0 : Nat) : Int)] 3)).alloc (.cells #[.func (.func 47) #[] #[.pointer (some ⟨w.heap.size, 0, none⟩), .pointer (some ⟨w.heap.size + 1 + 1, 0, none⟩), .pointer (some ⟨w.heap.size + 1, 0, none⟩), .pointer (some ⟨w.heap.size + 1 + 1 + 1, 0, none⟩)]] 59)) := (((below_new _).alloc (by simp) _).alloc (by simp; omega) _).alloc (by simp; omega) _
  refine (visitP_any l (fun y hy => (HSH.out y hy).2) hll _ _ _ _ _ (ks.flat.length + 1) x ks (by omega) HOK.out false [] 0 [] _ hdr hS hnl).mono ?_
  rintro e w2 ⟨rfl, hS2, hK2⟩
  have hB2 := hB0.trans (hK2.1.mono (by omega))
  have HST := hid (string_k _ _ _ _ hS2.bd (by simpa using HNE.out))
  clear hS2 hK2 hS hB0
  go_wp2_with fail
  refine (HST.out).mono ?_
  rintro e w3 ⟨rfl, hb3, -⟩
  go_wp2
  go_ret
  exact ⟨rfl, hB2.trans (hb3.mono (by omega))⟩

set_option maxHeartbeats 1000000 in
set_option maxRecDepth 100000 in
theorem same_any (x y : List L.Nd) (vx vy : Value) (w : World) (hx : Rd w w.heap.size vx x) (hy : Rd w w.heap.size vy y) :
    Calls Tryd.prog 18 #[vx, vy] w fun e w' => e = .returned (.bool (L.sameL x y)) ∧ Below w.heap.size w w' := by
  have HE := hid (equalFunc_any x y vx vy w hx hy)
  obtain ⟨A, cap, rfl, -⟩ := hx
  obtain ⟨A2, cap2, rfl, -⟩ := hy
  go_enter Tryd.func18, Tryd.ntmps18
  go_wp2_with fail
  refine (HE.out).mono ?_
  rintro e w1 ⟨rfl, hb⟩
  go_wp2
  go_ret
  exact ⟨rfl, hb⟩

end Go.Proofs.YtjcocjpenchplaaDoor
