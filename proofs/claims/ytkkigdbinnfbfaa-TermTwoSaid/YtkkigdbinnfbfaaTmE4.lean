/-
  What term's rowErrno asks of a type, as a fold. Conditions: types whose labels have at most 100 bytes.
-/
import Derived.Test.YtkkigdbinnfbfaaTmE3
import Derived.Test.YtkkigdbinnfbfaaTmF
namespace Go.Proofs.Ytkkigdbinnfbfaa.L
open Go
/-- Two rows, merged by their labels. -/
def mergeL : List (List Nd) → List (List Nd) → List (List Nd)
  | [], b => b
  | x :: a, [] => x :: a
  | x :: a, y :: b => if befN (hd0 y) (hd0 x) = true then y :: mergeL (x :: a) b else x :: mergeL a (y :: b)
termination_by a b => a.length + b.length
def extL (n : Int) (kl more : List (List Nd)) : List (List Nd) := if openB n kl = true then mergeL kl.dropLast more else kl
def nameL (kl : List (List Nd)) : List ByteArray := kl.map fun l => (hd0 l).name
/-- Is it so of a node, with its children? -/
def anyF (q : Nd → Fo → Bool) : Fo → Bool
  | .nil => false
  | .cons x ks r => anyF q ks || (q x ks || anyF q r)
/-- The outermost nodes of a row. -/
def Fo.tops1 : Fo → List (List Nd)
  | .nil => []
  | .cons x _ r => [x] :: r.tops1
abbrev S3 := Bool × Bool × Bool
/-- What is told at a node. -/
def q1 (n : Int) (uk : Int) (x : Nd) (kl : List (List Nd)) : Bool := openB n kl && (x.kind != uk)
def q2 (n : Int) (more kl : List (List Nd)) : Bool := twiceF [] (nameL (extL n kl more))
def q3 (n : Int) (more kl : List (List Nd)) : Bool := decide (50 < (extL n kl more).length)
def askJ (n uk : Int) (more : List (List Nd)) (s : S3) (x : Nd) (kl : List (List Nd)) : S3 × List Nd := ((s.1 || q1 n uk x kl, s.2.1 || q2 n more kl, s.2.2 || q3 n more kl), [x])
def lookJ (s : S3) (x : Nd) (kl : List (List Nd)) : S3 × List Nd := ((s.1, s.2.1 || twiceF [] (nameL kl), s.2.2 || decide (50 < kl.length)), [x])
theorem ask_fold (n uk : Int) (more : List (List Nd)) : ∀ (f : Fo) (s : S3), (foldF (askJ n uk more) s f).2 = f.tops1 ∧
    (foldF (askJ n uk more) s f).1 = (s.1 || anyF (fun x ks => q1 n uk x ks.tops1) f, s.2.1 || anyF (fun _ ks => q2 n more ks.tops1) f, s.2.2 || anyF (fun _ ks => q3 n more ks.tops1) f)
  | .nil, s => ⟨rfl, by simp [foldF, anyF]⟩
  | .cons x ks r, s => by
    obtain ⟨k1, k2⟩ := ask_fold n uk more ks s
    have hr := ask_fold n uk more r (askJ n uk more (foldF (askJ n uk more) s ks).1 x (foldF (askJ n uk more) s ks).2).1
    simp only [foldF]
    refine ⟨by rw [hr.1]; rfl, ?_⟩
    rw [hr.2, k1, k2]
    simp only [askJ, anyF, Bool.or_assoc]
theorem look_fold : ∀ (f : Fo) (s : S3), (foldF lookJ s f).2 = f.tops1 ∧
    (foldF lookJ s f).1 = (s.1, s.2.1 || anyF (fun _ ks => twiceF [] (nameL ks.tops1)) f, s.2.2 || anyF (fun _ ks => decide (50 < ks.tops1.length)) f)
  | .nil, s => ⟨rfl, by simp [foldF, anyF]⟩
  | .cons x ks r, s => by
    obtain ⟨k1, k2⟩ := look_fold ks s
    have hr := look_fold r (lookJ (foldF lookJ s ks).1 x (foldF lookJ s ks).2).1
    simp only [foldF]
    refine ⟨by rw [hr.1]; rfl, ?_⟩
    rw [hr.2, k1, k2]
    simp only [lookJ, anyF, Bool.or_assoc]
theorem tops1_len : ∀ f : Fo, f.tops1.length = f.count
  | .nil => rfl
  | .cons x ks r => by simp [Fo.tops1, Fo.count, tops1_len r]
theorem tops1_mem : ∀ (f : Fo) (l : List Nd), l ∈ f.tops1 → ∃ x ∈ f.flat, l = [x]
  | .nil, _, h => by cases h
  | .cons x ks r, l, h => by
    simp only [Fo.tops1, List.mem_cons] at h
    rcases h with rfl | h
    · exact ⟨x, by simp [Fo.flat], rfl⟩
    · obtain ⟨y, h1, h2⟩ := tops1_mem r l h
      exact ⟨y, by simp [Fo.flat, h1], h2⟩
/-- Labels that rise: none is twice. -/
theorem ltB_irrefl (a : ByteArray) : ltB a a = false := by
  cases h : ltB a a with
  | false => rfl
  | true =>
    exfalso
    have : ∀ l : List UInt8, Op.bytesLess l l = false := by
      intro l
      induction l with
      | nil => rfl
      | cons x l ih => simp [Op.bytesLess, ih]
    rw [ltB, this] at h
    cases h
end Go.Proofs.Ytkkigdbinnfbfaa.L
namespace Go.Proofs.Ytkkigdbinnfbfaa
open Go.RowKit

theorem mergeT_map : ∀ (a b : List VT), (mergeT a b).map (·.2) = L.mergeL (a.map (·.2)) (b.map (·.2))
  | [], b => by simp [mergeT, L.mergeL]
  | x :: a, [] => by simp [mergeT, L.mergeL]
  | x :: a, y :: b => by
    rw [mergeT, List.map_cons, List.map_cons, L.mergeL]
    split
    · rw [List.map_cons, mergeT_map]; rfl
    · rw [List.map_cons, mergeT_map]; rfl
termination_by a b => a.length + b.length
theorem extT_map (n : Int) (ks more : List VT) : (extT n ks more).map (·.2) = L.extL n (ks.map (·.2)) (more.map (·.2)) := by
  unfold extT L.extL
  split
  · rw [mergeT_map, List.map_dropLast]
  · rfl
theorem nameT_map (ks : List VT) : nameT ks = L.nameL (ks.map (·.2)) := by simp [nameT, L.nameL]

set_option maxHeartbeats 4000000 in
set_option maxRecDepth 100000 in
theorem ask3_any (C : Nat) (n : Int) (vu vm : Value) (u : List L.Nd) (more : List VT) (o t l : Bool) (x : L.Nd) (ks : List VT) (hk0 : ∀ t ∈ ks, t.2 ≠ []) (hkn : ks.length ≤ 100) (hnk : ∀ t ∈ ks, (L.hd0 t.2).name.size ≤ 100) (kv : Value) (w : World) (hK : EK C n vu u vm more (o, t, l) w) (hx : RdR w w.heap.size kv ks) :
    Calls Try.prog 41 #[.agg #[.int .i64 x.kind, .string x.name, .int .i64 x.n], kv, .pointer (some ⟨C + 6, 0, none⟩)] w (AskPost C n vu u vm more (o, t || L.twiceF [] (nameT ks), l || decide (50 < ks.length)) x w) := by
  have HK := hid hK
  have hent := enter_look
  obtain ⟨k1, s1, n1⟩ := x
  have HB := hid (show Below w.heap.size w (w.alloc (.cells #[.int .i64 k1, .string s1, .int .i64 n1] 39)) from below_new _)
  have HL := hid (look_any ks hk0 (by omega) hnk kv (C + 4) (C + 5) (by omega) t l (w.alloc (.cells #[.int .i64 k1, .string s1, .int .i64 n1] 39)) (hx.upon HB.out) (hK.bt.below HB.out) (hK.bl.below HB.out))
  obtain ⟨A, cap, rfl, hc1, hc2⟩ := RdR.val hx
  have cK : w.cell? ⟨C + 6, 0, none⟩ = some (.func (.func 35) #[] #[.pointer (some ⟨C + 4, 0, none⟩), .pointer (some ⟨C + 5, 0, none⟩)]) := Lib.cell_of_heap hK.bk 0
  have hs := hK.size
  have hs6 : C + 6 < w.heap.size := by omega
  clear hK hx hk0 hnk
  go_enter Try.func41, Try.ntmps41
  go_wp2_with fail
  refine (HL.out).mono ?_
  rintro e w3 ⟨rfl, ht3, hl3, hf3⟩
  have hbx : w3.heap[w.heap.size]? = some (.cells #[.int .i64 k1, .string s1, .int .i64 n1] 39 (0, 0)) := hf3.heap (heap_alloc_new _ _) (fun g => by omega)
  have EX : Hid (AskPost C n vu u vm more (o, t || L.twiceF [] (nameT ks), l || decide (50 < ks.length)) ⟨k1, s1, n1⟩ w (.returned (.slice (some ⟨w3.heap.size, 0, none⟩) 1 1)) (w3.alloc (.cells #[.int .i64 k1, .string s1, .int .i64 n1] 39))) := hid (by
    have e2 := HK.out.below HB.out
    have e3 : EK C n vu u vm more (o, t || L.twiceF [] (nameT ks), l || decide (50 < ks.length)) w3 := e2.fr hf3 (fun i g => by omega) (e2.bo.fr hf3 fun g => by omega) ht3 hl3
    have hfw : Fr (fun i => i = C + 3 ∨ i = C + 4 ∨ i = C + 5) w w3 := (Fr.of_below HB.out).then hf3 (fun i _ g => by omega)
    exact ⟨_, rfl, lit_own w3 w.heap.size hfw.size k1 n1 s1, e3.below (below_new _), hfw.trans (Fr.of_below (below_new _))⟩)
  have d0 := Lib.cell_of_heap hbx 0
  have d1 := Lib.cell_of_heap hbx 1
  have d2 := Lib.cell_of_heap hbx 2
  simp only [List.getElem?_toArray] at d0 d1 d2
  clear cK HL ht3 hl3 hf3 hbx
  go_wp2_with fail
  go_ret
  exact EX.out
end Go.Proofs.Ytkkigdbinnfbfaa
