/-
  The texts AsTu, one behind the other. Conditions: those that each of them names.
-/
import Derived.Test.YtmcdggjcpfkchaaMA13
import Derived.Lib.QuietBelow
import Derived.BigQuiet
import Derived.Deep.CutRange
section
/-
  The walk of the reference's uses: it tells whether a part is sound. Conditions: names of at most 2000000 bytes.
-/
namespace Go.Proofs.Ytmcdggjcpfkchaa
open Go.RowKit Go.Sort

theorem sound_is_1 (lb nm bd : ByteArray) (m n : Int) (t u : List L.Nd) : E.sound (⟨1, lb, nm, bd, m, n, t, u⟩ : E.Pt) = (decide (n = 0) && ((decide (bd = ⟨#[]⟩) && decide (m = 0)) && (decide (t.length = 0) && (decide (u.length = 0) && E.nameOK nm)))) := by
  have h : E.sound (⟨1, lb, nm, bd, m, n, t, u⟩ : E.Pt) = (E.nameOK nm && E.only (⟨1, lb, nm, bd, m, n, t, u⟩ : E.Pt) (⟨0, ⟨#[]⟩, nm, ⟨#[]⟩, 0, 0, [], []⟩ : E.Pt)) := rfl
  rw [h]
  unfold E.only
  simp only [decide_true, List.length_nil, Bool.true_and]
  generalize decide (n = 0) = a0
  generalize decide (bd = ⟨#[]⟩) = a1
  generalize decide (m = 0) = a2
  generalize decide (t.length = 0) = a3
  generalize decide (u.length = 0) = a4
  generalize E.nameOK nm = a5
  cases a0 <;> cases a1 <;> cases a2 <;> cases a3 <;> cases a4 <;> cases a5 <;> rfl

theorem sound_is_2 (lb nm bd : ByteArray) (m n : Int) (t u : List L.Nd) : E.sound (⟨2, lb, nm, bd, m, n, t, u⟩ : E.Pt) = (decide (n = 0) && (decide (nm = ⟨#[]⟩) && (decide (m = 0) && (nameB 97 122 bd && (E.plain t && decide (u.length = 0)))))) := by
  have h : E.sound (⟨2, lb, nm, bd, m, n, t, u⟩ : E.Pt) = (nameB 97 122 bd && (E.plain t && E.only (⟨2, lb, nm, bd, m, n, t, u⟩ : E.Pt) (⟨0, ⟨#[]⟩, ⟨#[]⟩, bd, 0, 0, t, []⟩ : E.Pt))) := rfl
  rw [h]
  unfold E.only
  simp only [decide_true, List.length_nil, Bool.true_and]
  generalize decide (n = 0) = a0
  generalize decide (nm = ⟨#[]⟩) = a1
  generalize decide (m = 0) = a2
  generalize nameB 97 122 bd = a3
  generalize E.plain t = a4
  generalize decide (u.length = 0) = a5
  cases a0 <;> cases a1 <;> cases a2 <;> cases a3 <;> cases a4 <;> cases a5 <;> rfl

theorem sound_is_3 (lb nm bd : ByteArray) (m n : Int) (t u : List L.Nd) : E.sound (⟨3, lb, nm, bd, m, n, t, u⟩ : E.Pt) = (decide (n = 0) && (decide (nm = ⟨#[]⟩) && ((decide (bd = ⟨#[]⟩) && decide (m = 0)) && (decide (t.length = 0) && decide (u.length = 0))))) := by
  have h : E.sound (⟨3, lb, nm, bd, m, n, t, u⟩ : E.Pt) = E.only (⟨3, lb, nm, bd, m, n, t, u⟩ : E.Pt) (⟨0, ⟨#[]⟩, ⟨#[]⟩, ⟨#[]⟩, 0, 0, [], []⟩ : E.Pt) := rfl
  rw [h]
  unfold E.only
  simp only [List.length_nil]
  generalize decide (n = 0) = a0
  generalize decide (nm = ⟨#[]⟩) = a1
  generalize decide (bd = ⟨#[]⟩) = a2
  generalize decide (m = 0) = a3
  generalize decide (t.length = 0) = a4
  generalize decide (u.length = 0) = a5
  cases a0 <;> cases a1 <;> cases a2 <;> cases a3 <;> cases a4 <;> cases a5 <;> rfl

theorem sound_is_4 (lb nm bd : ByteArray) (m n : Int) (t u : List L.Nd) : E.sound (⟨4, lb, nm, bd, m, n, t, u⟩ : E.Pt) = (decide (n = 0) && (decide (nm = ⟨#[]⟩) && (decide (m = 0) && (nameB 97 122 bd && (E.plain t && decide (u.length = 0)))))) := by
  have h : E.sound (⟨4, lb, nm, bd, m, n, t, u⟩ : E.Pt) = (nameB 97 122 bd && (E.plain t && E.only (⟨4, lb, nm, bd, m, n, t, u⟩ : E.Pt) (⟨0, ⟨#[]⟩, ⟨#[]⟩, bd, 0, 0, t, []⟩ : E.Pt))) := rfl
  rw [h]
  unfold E.only
  simp only [decide_true, List.length_nil, Bool.true_and]
  generalize decide (n = 0) = a0
  generalize decide (nm = ⟨#[]⟩) = a1
  generalize decide (m = 0) = a2
  generalize nameB 97 122 bd = a3
  generalize E.plain t = a4
  generalize decide (u.length = 0) = a5
  cases a0 <;> cases a1 <;> cases a2 <;> cases a3 <;> cases a4 <;> cases a5 <;> rfl

theorem sound_is_5 (lb nm bd : ByteArray) (m n : Int) (t u : List L.Nd) : E.sound (⟨5, lb, nm, bd, m, n, t, u⟩ : E.Pt) = (decide (n = 0) && (nameB 97 122 nm && (decide (m = 0) && (nameB 97 122 bd && (E.plain t && E.plain u))))) := by
  have h : E.sound (⟨5, lb, nm, bd, m, n, t, u⟩ : E.Pt) = (nameB 97 122 nm && (nameB 97 122 bd && (E.plain t && (E.plain u && E.only (⟨5, lb, nm, bd, m, n, t, u⟩ : E.Pt) (⟨0, ⟨#[]⟩, nm, bd, 0, 0, t, u⟩ : E.Pt))))) := rfl
  rw [h]
  unfold E.only
  simp only [decide_true, Bool.true_and, Bool.and_true]
  generalize decide (n = 0) = a0
  generalize nameB 97 122 nm = a1
  generalize decide (m = 0) = a2
  generalize nameB 97 122 bd = a3
  generalize E.plain t = a4
  generalize E.plain u = a5
  cases a0 <;> cases a1 <;> cases a2 <;> cases a3 <;> cases a4 <;> cases a5 <;> rfl

theorem sound_is_6 (lb nm bd : ByteArray) (m n : Int) (t u : List L.Nd) : E.sound (⟨6, lb, nm, bd, m, n, t, u⟩ : E.Pt) = (decide (n = 0) && (decide (nm = ⟨#[]⟩) && ((decide (bd = ⟨#[]⟩) && decide (m = 0)) && (decide (t.length = 0) && decide (u.length = 0))))) := by
  have h : E.sound (⟨6, lb, nm, bd, m, n, t, u⟩ : E.Pt) = E.only (⟨6, lb, nm, bd, m, n, t, u⟩ : E.Pt) (⟨0, ⟨#[]⟩, ⟨#[]⟩, ⟨#[]⟩, 0, 0, [], []⟩ : E.Pt) := rfl
  rw [h]
  unfold E.only
  simp only [List.length_nil]
  generalize decide (n = 0) = a0
  generalize decide (nm = ⟨#[]⟩) = a1
  generalize decide (bd = ⟨#[]⟩) = a2
  generalize decide (m = 0) = a3
  generalize decide (t.length = 0) = a4
  generalize decide (u.length = 0) = a5
  cases a0 <;> cases a1 <;> cases a2 <;> cases a3 <;> cases a4 <;> cases a5 <;> rfl

theorem sound_is_7 (lb nm bd : ByteArray) (m n : Int) (t u : List L.Nd) : E.sound (⟨7, lb, nm, bd, m, n, t, u⟩ : E.Pt) = (decide (n = 0) && (decide (nm = ⟨#[]⟩) && (decide (bd = ⟨#[]⟩) && (decide (1 ≤ m) && (decide (m ≤ 50) && (decide (t.length = 0) && decide (u.length = 0))))))) := by
  have h : E.sound (⟨7, lb, nm, bd, m, n, t, u⟩ : E.Pt) = (decide (1 ≤ m) && (decide (m ≤ 50) && E.only (⟨7, lb, nm, bd, m, n, t, u⟩ : E.Pt) (⟨0, ⟨#[]⟩, ⟨#[]⟩, ⟨#[]⟩, m, 0, [], []⟩ : E.Pt))) := rfl
  rw [h]
  unfold E.only
  simp only [decide_true, List.length_nil, Bool.true_and]
  generalize decide (n = 0) = a0
  generalize decide (nm = ⟨#[]⟩) = a1
  generalize decide (bd = ⟨#[]⟩) = a2
  generalize decide (1 ≤ m) = a3
  generalize decide (m ≤ 50) = a4
  generalize decide (t.length = 0) = a5
  generalize decide (u.length = 0) = a6
  cases a0 <;> cases a1 <;> cases a2 <;> cases a3 <;> cases a4 <;> cases a5 <;> cases a6 <;> rfl

theorem sound_is_8 (lb nm bd : ByteArray) (m n : Int) (t u : List L.Nd) : E.sound (⟨8, lb, nm, bd, m, n, t, u⟩ : E.Pt) = (decide (n = 0) && (decide (nm = ⟨#[]⟩) && (decide (m = 0) && (nameB 97 122 bd && (decide (t.length = 0) && decide (u.length = 0)))))) := by
  have h : E.sound (⟨8, lb, nm, bd, m, n, t, u⟩ : E.Pt) = (nameB 97 122 bd && E.only (⟨8, lb, nm, bd, m, n, t, u⟩ : E.Pt) (⟨0, ⟨#[]⟩, ⟨#[]⟩, bd, 0, 0, [], []⟩ : E.Pt)) := rfl
  rw [h]
  unfold E.only
  simp only [decide_true, List.length_nil, Bool.true_and]
  generalize decide (n = 0) = a0
  generalize decide (nm = ⟨#[]⟩) = a1
  generalize decide (m = 0) = a2
  generalize nameB 97 122 bd = a3
  generalize decide (t.length = 0) = a4
  generalize decide (u.length = 0) = a5
  cases a0 <;> cases a1 <;> cases a2 <;> cases a3 <;> cases a4 <;> cases a5 <;> rfl

theorem sound_is_9 (lb nm bd : ByteArray) (m n : Int) (t u : List L.Nd) : E.sound (⟨9, lb, nm, bd, m, n, t, u⟩ : E.Pt) = (decide (n = 0) && (E.oper nm && ((decide (bd = ⟨#[]⟩) && decide (m = 0)) && (decide (t.length = 0) && decide (u.length = 0))))) := by
  have h : E.sound (⟨9, lb, nm, bd, m, n, t, u⟩ : E.Pt) = (E.oper nm && E.only (⟨9, lb, nm, bd, m, n, t, u⟩ : E.Pt) (⟨0, ⟨#[]⟩, nm, ⟨#[]⟩, 0, 0, [], []⟩ : E.Pt)) := rfl
  rw [h]
  unfold E.only
  simp only [decide_true, List.length_nil, Bool.true_and]
  generalize decide (n = 0) = a0
  generalize E.oper nm = a1
  generalize decide (bd = ⟨#[]⟩) = a2
  generalize decide (m = 0) = a3
  generalize decide (t.length = 0) = a4
  generalize decide (u.length = 0) = a5
  cases a0 <;> cases a1 <;> cases a2 <;> cases a3 <;> cases a4 <;> cases a5 <;> rfl

theorem sound_is_10 (lb nm bd : ByteArray) (m n : Int) (t u : List L.Nd) : E.sound (⟨10, lb, nm, bd, m, n, t, u⟩ : E.Pt) = (decide (n = 0) && (decide (nm = ⟨#[]⟩) && (decide (bd = ⟨#[]⟩) && (decide (0 ≤ m) && (decide (m ≤ 50) && (decide (t.length = 0) && decide (u.length = 0))))))) := by
  have h : E.sound (⟨10, lb, nm, bd, m, n, t, u⟩ : E.Pt) = (decide (0 ≤ m) && (decide (m ≤ 50) && E.only (⟨10, lb, nm, bd, m, n, t, u⟩ : E.Pt) (⟨0, ⟨#[]⟩, ⟨#[]⟩, ⟨#[]⟩, m, 0, [], []⟩ : E.Pt))) := rfl
  rw [h]
  unfold E.only
  simp only [decide_true, List.length_nil, Bool.true_and]
  generalize decide (n = 0) = a0
  generalize decide (nm = ⟨#[]⟩) = a1
  generalize decide (bd = ⟨#[]⟩) = a2
  generalize decide (0 ≤ m) = a3
  generalize decide (m ≤ 50) = a4
  generalize decide (t.length = 0) = a5
  generalize decide (u.length = 0) = a6
  cases a0 <;> cases a1 <;> cases a2 <;> cases a3 <;> cases a4 <;> cases a5 <;> cases a6 <;> rfl

theorem sound_is_11 (lb nm bd : ByteArray) (m n : Int) (t u : List L.Nd) : E.sound (⟨11, lb, nm, bd, m, n, t, u⟩ : E.Pt) = (decide (n = 0) && (nameB 97 122 nm && ((decide (bd = ⟨#[]⟩) && decide (m = 0)) && (decide (t.length = 0) && decide (u.length = 0))))) := by
  have h : E.sound (⟨11, lb, nm, bd, m, n, t, u⟩ : E.Pt) = (nameB 97 122 nm && E.only (⟨11, lb, nm, bd, m, n, t, u⟩ : E.Pt) (⟨0, ⟨#[]⟩, nm, ⟨#[]⟩, 0, 0, [], []⟩ : E.Pt)) := rfl
  rw [h]
  unfold E.only
  simp only [decide_true, List.length_nil, Bool.true_and]
  generalize decide (n = 0) = a0
  generalize nameB 97 122 nm = a1
  generalize decide (bd = ⟨#[]⟩) = a2
  generalize decide (m = 0) = a3
  generalize decide (t.length = 0) = a4
  generalize decide (u.length = 0) = a5
  cases a0 <;> cases a1 <;> cases a2 <;> cases a3 <;> cases a4 <;> cases a5 <;> rfl

theorem sound_is_12 (lb nm bd : ByteArray) (m n : Int) (t u : List L.Nd) : E.sound (⟨12, lb, nm, bd, m, n, t, u⟩ : E.Pt) = (decide (n = 0) && (nameB 65 90 nm && ((decide (bd = ⟨#[]⟩) && decide (m = 0)) && (E.plain t && decide (u.length = 0))))) := by
  have h : E.sound (⟨12, lb, nm, bd, m, n, t, u⟩ : E.Pt) = (nameB 65 90 nm && (E.plain t && E.only (⟨12, lb, nm, bd, m, n, t, u⟩ : E.Pt) (⟨0, ⟨#[]⟩, nm, ⟨#[]⟩, 0, 0, t, []⟩ : E.Pt))) := rfl
  rw [h]
  unfold E.only
  simp only [decide_true, List.length_nil, Bool.true_and]
  generalize decide (n = 0) = a0
  generalize nameB 65 90 nm = a1
  generalize decide (bd = ⟨#[]⟩) = a2
  generalize decide (m = 0) = a3
  generalize E.plain t = a4
  generalize decide (u.length = 0) = a5
  cases a0 <;> cases a1 <;> cases a2 <;> cases a3 <;> cases a4 <;> cases a5 <;> rfl

theorem sound_is_13 (lb nm bd : ByteArray) (m n : Int) (t u : List L.Nd) : E.sound (⟨13, lb, nm, bd, m, n, t, u⟩ : E.Pt) = (decide (n = 0) && (decide (nm = ⟨#[]⟩) && ((decide (bd = ⟨#[]⟩) && decide (m = 0)) && (E.plain t && decide (u.length = 0))))) := by
  have h : E.sound (⟨13, lb, nm, bd, m, n, t, u⟩ : E.Pt) = (E.plain t && E.only (⟨13, lb, nm, bd, m, n, t, u⟩ : E.Pt) (⟨0, ⟨#[]⟩, ⟨#[]⟩, ⟨#[]⟩, 0, 0, t, []⟩ : E.Pt)) := rfl
  rw [h]
  unfold E.only
  simp only [decide_true, List.length_nil, Bool.true_and]
  generalize decide (n = 0) = a0
  generalize decide (nm = ⟨#[]⟩) = a1
  generalize decide (bd = ⟨#[]⟩) = a2
  generalize decide (m = 0) = a3
  generalize E.plain t = a4
  generalize decide (u.length = 0) = a5
  cases a0 <;> cases a1 <;> cases a2 <;> cases a3 <;> cases a4 <;> cases a5 <;> rfl

theorem sound_is_14 (lb nm bd : ByteArray) (m n : Int) (t u : List L.Nd) : E.sound (⟨14, lb, nm, bd, m, n, t, u⟩ : E.Pt) = (decide (nm = ⟨#[]⟩) && ((decide (bd = ⟨#[]⟩) && decide (m = 0)) && (E.plain t && (E.plain u && decide (0 ≤ n))))) := by
  have h : E.sound (⟨14, lb, nm, bd, m, n, t, u⟩ : E.Pt) = (E.plain t && (E.plain u && (decide (0 ≤ n) && E.only (⟨14, lb, nm, bd, m, n, t, u⟩ : E.Pt) (⟨0, ⟨#[]⟩, ⟨#[]⟩, ⟨#[]⟩, 0, n, t, u⟩ : E.Pt)))) := rfl
  rw [h]
  unfold E.only
  simp only [decide_true, Bool.and_true]
  generalize decide (nm = ⟨#[]⟩) = a0
  generalize decide (bd = ⟨#[]⟩) = a1
  generalize decide (m = 0) = a2
  generalize E.plain t = a3
  generalize E.plain u = a4
  generalize decide (0 ≤ n) = a5
  cases a0 <;> cases a1 <;> cases a2 <;> cases a3 <;> cases a4 <;> cases a5 <;> rfl

set_option maxHeartbeats 16000000 in
set_option maxRecDepth 100000 in
theorem ruses_any (p : E.Pt) (hnm : p.name.size ≤ 9223372036854775807) (hbd : p.bind.size ≤ 9223372036854775807) (htn : ∀ x ∈ p.t, x.name.size ≤ 9223372036854775807) (hun : ∀ x ∈ p.u, x.name.size ≤ 9223372036854775807) (A1 A2 : Option Addr) (c1 c2 : Nat) (w : World) (ht : Rd w w.heap.size (.slice A1 p.t.length c1) p.t) (hu : Rd w w.heap.size (.slice A2 p.u.length c2) p.u) :
    Calls Try.prog 26 #[partV p (.slice A1 p.t.length c1) (.slice A2 p.u.length c2)] w fun e w' => e = .returned (.bool (E.sound p)) ∧ Below w.heap.size w w' := by
  obtain ⟨K, lb, nm, bd, m, n, t, u⟩ := p
  unfold partV
  simp only at *
  obtain ⟨w0, hw0⟩ : ∃ w0, w0 = w.alloc (.cells #[.int .i64 K, .string lb, .string nm, .string bd, .int .i64 m, .int .i64 n, .slice A1 t.length c1, .slice A2 u.length c2] 49) := ⟨_, rfl⟩
  have hB0 : Below w.heap.size w w0 := by rw [hw0]; exact below_new _
  have hN0 : w0.heap[w.heap.size]? = some (.cells #[.int .i64 K, .string lb, .string nm, .string bd, .int .i64 m, .int .i64 n, .slice A1 t.length c1, .slice A2 u.length c2] 49 (0, 0)) := by rw [hw0]; exact heap_alloc_new w _
  have CW := hid (fun d os => Calls.regrown_of ((refWord_any nm hnm (grow (redrawn w0 d) os)).mono (fun e w' ⟨h1, h2⟩ => ⟨h1, by rw [← h2]; exact Below.refl _ _⟩)))
  have CT := hid (fun d os => Calls.regrown_of ((refTag_any nm hnm (grow (redrawn w0 d) os)).mono (fun e w' ⟨h1, h2⟩ => ⟨h1, by rw [← h2]; exact Below.refl _ _⟩)))
  have CB := hid (fun W => refWord_any bd hbd W)
  have CP := hid (fun (W : World) (hW : Below w.heap.size w W) => rplain_any t htn (.slice A1 t.length c1) W ((ht.below hW).size))
  have CU := hid (fun (W : World) (hW : Below w.heap.size w W) => rplain_any u hun (.slice A2 u.length c2) W ((hu.below hW).size))
  have CL := hid (fun (W : World) (hW : Below w.heap.size w W) => rliteral_any (⟨K, lb, nm, bd, m, n, t, u⟩ : E.Pt) A1 A2 c1 c2 W ((ht.below hW).size))
  have CN := hid (fun W => rname_any nm hnm W)
  have CO := hid (fun W => rop_any nm W)
  unfold partV at CL
  simp only at CL
  have HN0 := hid hN0
  have HB0 := hid hB0
  have cN2 := Lib.cell_of_heap hN0 2
  simp only [List.getElem?_toArray] at cN2
  clear ht hu htn hun hB0 hN0
  go_enter Try.func26, Try.ntmps26
  go_wp2
  rw [← hw0]
  clear hw0
  have k2 := cell_regrown cN2
  clear cN2
  refine wp_region_quiet_below (by kernel_rfl) (by kernel_rfl) ?_
  repeat (go_big_quiet_step (first | exact CW.out _ _ | exact CT.out _ _))
  refine wpQuiet_nil ?_
  intro _ hw'
  obtain ⟨⟨nq, osq⟩, hw''⟩ := hw'
  subst hw''
  have hB1 := below_regrown w0 nq osq
  generalize grow (redrawn w0 nq) osq = w1 at *
  have HN1 := hid ((hB1.block _ (heap_lt HN0.out)).trans HN0.out)
  have HB1 := hid (HB0.out.trans (hB1.mono HB0.out.size))
  clear hB1 HN0 HB0 CW CT
  have cN3 := Lib.cell_of_heap HN1.out 3
  have cN4 := Lib.cell_of_heap HN1.out 4
  simp only [List.getElem?_toArray] at cN3 cN4
  go_wp2_with fail
  refine (CB.out _).mono ?_
  rintro e w' ⟨rfl, rfl⟩
  go_upto_region 3 with fail
  go_cut [6] from 17 to 27 (fun s6 wx => s6 = .bool (decide (bd = ⟨#[]⟩) && decide (m = 0)) ∧ wx = w1)
  case first =>
    by_cases hbe : bd = ⟨#[]⟩
    · have e1 := is_empty (E.size_iff.1 hbe)
      by_cases hme : m = 0
      · have e2 : (m == 0) = true := by simpa using hme
        have HZ : Hid ((decide (bd = ⟨#[]⟩) && decide (m = 0)) = true) := hid (by rw [decide_eq_true hbe, decide_eq_true hme]; rfl)
        clear hbe hme
        go_wp2
        go_meet
        exact ⟨by rw [HZ.out], rfl⟩
      · have e2 : (m == 0) = false := by simpa using hme
        have HZ : Hid ((decide (bd = ⟨#[]⟩) && decide (m = 0)) = false) := hid (by rw [decide_eq_false hme, Bool.and_false])
        clear hbe hme
        go_wp2
        go_meet
        exact ⟨by rw [HZ.out], rfl⟩
    · have e1 := ne_empty (Nat.pos_of_ne_zero (fun h => hbe (E.size_iff.2 h)))
      have HZ : Hid ((decide (bd = ⟨#[]⟩) && decide (m = 0)) = false) := hid (by rw [decide_eq_false hbe, Bool.false_and])
      clear hbe
      go_wp2
      go_meet
      exact ⟨by rw [HZ.out], rfl⟩
  case rest =>
  obtain ⟨rfl, rfl⟩ := hcut
  clear cN3 cN4
  have CP2 := hid (fun d os => Calls.regrown_of (CP.out (grow (redrawn wc d) os) (HB1.out.trans ((below_regrown wc d os).mono HB1.out.size))))
  have CU2 := hid (fun d os => Calls.regrown_of (CU.out (grow (redrawn wc d) os) (HB1.out.trans ((below_regrown wc d os).mono HB1.out.size))))
  obtain ⟨no, hno⟩ : ∃ no, no = (decide (bd = ⟨#[]⟩) && decide (m = 0)) := ⟨_, rfl⟩
  rw [← hno]
  have HNO := hid hno
  clear hno
  have cN6 := Lib.cell_of_heap HN1.out 6
  have cN7 := Lib.cell_of_heap HN1.out 7
  simp only [List.getElem?_toArray] at cN6 cN7
  go_wp2
  have k6 := cell_regrown cN6
  have k7 := cell_regrown cN7
  clear cN6 cN7
  refine wp_region_quiet_below (by kernel_rfl) (by kernel_rfl) ?_
  repeat (go_big_quiet_step (fail))
  go_big_quiet_step (exact CP2.out _ _)
  repeat (go_big_quiet_step (fail))
  go_big_quiet_step (exact CU2.out _ _)
  repeat (go_big_quiet_step (fail))
  refine wpQuiet_nil ?_
  intro _ hw'
  obtain ⟨⟨nq, osq⟩, hw''⟩ := hw'
  subst hw''
  have hB2 := below_regrown wc nq osq
  generalize grow (redrawn wc nq) osq = w2 at *
  have HN2 := hid ((hB2.block _ (heap_lt HN1.out)).trans HN1.out)
  have HB2 := hid (HB1.out.trans (hB2.mono HB1.out.size))
  clear hB2 HN1 HB1 CP CU CP2 CU2
  have cN6 := Lib.cell_of_heap HN2.out 6
  have cN7 := Lib.cell_of_heap HN2.out 7
  simp only [List.getElem?_toArray] at cN6 cN7
  go_wp2
  have k6 := cell_regrown cN6
  have k7 := cell_regrown cN7
  clear cN6 cN7
  refine wp_region_quiet_below (by kernel_rfl) (by kernel_rfl) ?_
  repeat (go_big_quiet_step (fail))
  refine wpQuiet_nil ?_
  intro _ hw'
  obtain ⟨⟨nq, osq⟩, hw''⟩ := hw'
  subst hw''
  have hB3 := below_regrown w2 nq osq
  generalize grow (redrawn w2 nq) osq = w3 at *
  have HN3 := hid ((hB3.block _ (heap_lt HN2.out)).trans HN2.out)
  have HB3 := hid (HB2.out.trans (hB3.mono HB2.out.size))
  clear hB3 HN2 HB2 CB
  have cN0 := Lib.cell_of_heap HN3.out 0
  have cN1 := Lib.cell_of_heap HN3.out 1
  have cN2 := Lib.cell_of_heap HN3.out 2
  have cN3 := Lib.cell_of_heap HN3.out 3
  have cN4 := Lib.cell_of_heap HN3.out 4
  have cN5 := Lib.cell_of_heap HN3.out 5
  have cN6 := Lib.cell_of_heap HN3.out 6
  have cN7 := Lib.cell_of_heap HN3.out 7
  simp only [List.getElem?_toArray] at cN0 cN1 cN2 cN3 cN4 cN5 cN6 cN7
  obtain ⟨nt, hnt⟩ : ∃ nt, nt = decide (t.length = 0) := ⟨_, rfl⟩
  obtain ⟨nu, hnu⟩ : ∃ nu, nu = decide (u.length = 0) := ⟨_, rfl⟩
  have et : ((t.length : Int) == 0) = nt := by rw [hnt, Bool.eq_iff_iff]; simp
  have eu : ((u.length : Int) == 0) = nu := by rw [hnu, Bool.eq_iff_iff]; simp
  rw [et, eu]
  have en : nm.toList.isEmpty = decide (nm = ⟨#[]⟩) := by
    by_cases h : nm = ⟨#[]⟩
    · rw [decide_eq_true h]; exact is_empty (E.size_iff.1 h)
    · rw [decide_eq_false h]; exact ne_empty (Nat.pos_of_ne_zero (fun h2 => h (E.size_iff.2 h2)))
  have eb : bd.toList.isEmpty = decide (bd = ⟨#[]⟩) := by
    by_cases h : bd = ⟨#[]⟩
    · rw [decide_eq_true h]; exact is_empty (E.size_iff.1 h)
    · rw [decide_eq_false h]; exact ne_empty (Nat.pos_of_ne_zero (fun h2 => h (E.size_iff.2 h2)))
  have em : (m == 0) = decide (m = 0) := by rw [Bool.eq_iff_iff]; simp
  have ez : (n == 0) = decide (n = 0) := by rw [Bool.eq_iff_iff]; simp
  have ez2 : (n != 0) = !decide (n = 0) := by rw [← ez]; rfl
  clear et eu
  by_cases hK : K < 0 ∨ 15 ≤ K
  · have HSK : Hid (E.sound ⟨K, lb, nm, bd, m, n, t, u⟩ = false) := hid (by
      unfold E.sound
      simp only
      rw [if_neg (by omega), if_neg (by omega), if_neg (by omega), if_neg (by omega), if_neg (by omega), if_neg (by omega), if_neg (by omega), if_neg (by omega), if_neg (by omega), if_neg (by omega), if_neg (by omega), if_neg (by omega), if_neg (by omega), if_neg (by omega), if_neg (by omega)])
    have f0 : (K == 0) = false := by simp; omega
    have f1 : (K == 1) = false := by simp; omega
    have f2 : (K == 2) = false := by simp; omega
    have f3 : (K == 3) = false := by simp; omega
    have f4 : (K == 4) = false := by simp; omega
    have f5 : (K == 5) = false := by simp; omega
    have f6 : (K == 6) = false := by simp; omega
    have f7 : (K == 7) = false := by simp; omega
    have f8 : (K == 8) = false := by simp; omega
    have f9 : (K == 9) = false := by simp; omega
    have f10 : (K == 10) = false := by simp; omega
    have f11 : (K == 11) = false := by simp; omega
    have f12 : (K == 12) = false := by simp; omega
    have f13 : (K == 13) = false := by simp; omega
    have f14 : (K == 14) = false := by simp; omega
    have g0 : (K != 0) = true := by simp; omega
    have g14 : (K != 14) = true := by simp; omega
    clear hK HNO hnt hnu
    generalize decide (n = 0) = zN at *
    cases zN with
    | false =>
      go_wp2
      go_ret
      exact ⟨ret_bool HSK.out.symm, HB3.out⟩
    | true =>
      go_wp2
      go_ret
      exact ⟨ret_bool HSK.out.symm, HB3.out⟩
  rcases (by omega : K = 0 ∨ K = 1 ∨ K = 2 ∨ K = 3 ∨ K = 4 ∨ K = 5 ∨ K = 6 ∨ K = 7 ∨ K = 8 ∨ K = 9 ∨ K = 10 ∨ K = 11 ∨ K = 12 ∨ K = 13 ∨ K = 14) with rfl | rfl | rfl | rfl | rfl | rfl | rfl | rfl | rfl | rfl | rfl | rfl | rfl | rfl | rfl
  · have HSK : Hid (E.sound (⟨0, lb, nm, bd, m, n, t, u⟩ : E.Pt) = (no && (nu && E.litR (⟨0, lb, nm, bd, m, n, t, u⟩ : E.Pt)))) := hid (by rw [HNO.out, hnu]; exact (E.lit_eq _).symm)
    clear hK HNO hnt hnu CN CO
    generalize decide (nm = ⟨#[]⟩) = nn at *
    generalize decide (n = 0) = zN at *
    generalize nameB 97 122 nm = bw at *
    generalize nameB 65 90 nm = bt at *
    generalize nameB 97 122 bd = bb at *
    generalize E.plain t = pt at *
    generalize E.plain u = pu at *
    cases no with
    | false =>
      go_wp2
      go_ret
      exact ⟨ret_bool (by rw [HSK.out]; rfl), HB3.out⟩
    | true =>
      cases nu with
      | false =>
        go_wp2
        go_ret
        exact ⟨ret_bool (by rw [HSK.out]; rfl), HB3.out⟩
      | true =>
        go_wp2_with fail
        refine (CL.out _ HB3.out).mono ?_
        rintro e w4 ⟨rfl, hb4⟩
        go_wp2
        go_ret
        exact ⟨ret_bool (by rw [HSK.out]; rfl), HB3.out.trans (hb4.mono HB3.out.size)⟩
  · have HSK : Hid (E.sound (⟨1, lb, nm, bd, m, n, t, u⟩ : E.Pt) = (decide (n = 0) && (no && (nt && (nu && E.nameOK nm))))) := hid (by rw [sound_is_1]; rw [HNO.out]; rw [hnt]; rw [hnu])
    clear hK HNO hnt hnu CL
    generalize decide (nm = ⟨#[]⟩) = nn at *
    generalize decide (bd = ⟨#[]⟩) = bE at *
    generalize decide (m = 0) = mE at *
    generalize decide (n = 0) = zN at *
    generalize nameB 97 122 nm = bw at *
    generalize nameB 65 90 nm = bt at *
    generalize nameB 97 122 bd = bb at *
    generalize E.plain t = pt at *
    generalize E.plain u = pu at *
    cases zN with
    | false =>
      go_wp2
      go_ret
      exact ⟨ret_bool (by rw [HSK.out]; rfl), HB3.out⟩
    | true =>
      cases no with
      | false =>
        go_wp2
        go_ret
        exact ⟨ret_bool (by rw [HSK.out]; rfl), HB3.out⟩
      | true =>
        cases nt with
        | false =>
          go_wp2
          go_ret
          exact ⟨ret_bool (by rw [HSK.out]; rfl), HB3.out⟩
        | true =>
          cases nu with
          | false =>
            go_wp2
            go_ret
            exact ⟨ret_bool (by rw [HSK.out]; rfl), HB3.out⟩
          | true =>
            go_wp2_with fail
            refine (CN.out _).mono ?_
            rintro e w4 ⟨rfl, rfl⟩
            go_wp2
            go_ret
            exact ⟨ret_bool (by rw [HSK.out]; rfl), HB3.out⟩
  · have HSK : Hid (E.sound (⟨2, lb, nm, bd, m, n, t, u⟩ : E.Pt) = (decide (n = 0) && (decide (nm = ⟨#[]⟩) && (decide (m = 0) && (nameB 97 122 bd && (E.plain t && nu)))))) := hid (by rw [sound_is_2]; rw [hnu])
    clear hK HNO hnt hnu CL
    generalize decide (nm = ⟨#[]⟩) = nn at *
    generalize decide (bd = ⟨#[]⟩) = bE at *
    generalize decide (m = 0) = mE at *
    generalize decide (n = 0) = zN at *
    generalize nameB 97 122 nm = bw at *
    generalize nameB 65 90 nm = bt at *
    generalize nameB 97 122 bd = bb at *
    generalize E.plain t = pt at *
    generalize E.plain u = pu at *
    cases zN with
    | false =>
      go_wp2
      go_ret
      exact ⟨ret_bool (by rw [HSK.out]; rfl), HB3.out⟩
    | true =>
      cases nn with
      | false =>
        go_wp2
        go_ret
        exact ⟨ret_bool (by rw [HSK.out]; rfl), HB3.out⟩
      | true =>
        cases mE with
        | false =>
          go_wp2
          go_ret
          exact ⟨ret_bool (by rw [HSK.out]; rfl), HB3.out⟩
        | true =>
          cases bb with
          | false =>
            go_wp2
            go_ret
            exact ⟨ret_bool (by rw [HSK.out]; rfl), HB3.out⟩
          | true =>
            cases pt with
            | false =>
              go_wp2
              go_ret
              exact ⟨ret_bool (by rw [HSK.out]; rfl), HB3.out⟩
            | true =>
              cases nu with
              | false =>
                go_wp2
                go_ret
                exact ⟨ret_bool (by rw [HSK.out]; rfl), HB3.out⟩
              | true =>
                go_wp2
                go_ret
                exact ⟨ret_bool (by rw [HSK.out]; rfl), HB3.out⟩
  · have HSK : Hid (E.sound (⟨3, lb, nm, bd, m, n, t, u⟩ : E.Pt) = (decide (n = 0) && (decide (nm = ⟨#[]⟩) && (no && (nt && nu))))) := hid (by rw [sound_is_3]; rw [HNO.out]; rw [hnt]; rw [hnu])
    clear hK HNO hnt hnu CL
    generalize decide (nm = ⟨#[]⟩) = nn at *
    generalize decide (bd = ⟨#[]⟩) = bE at *
    generalize decide (m = 0) = mE at *
    generalize decide (n = 0) = zN at *
    generalize nameB 97 122 nm = bw at *
    generalize nameB 65 90 nm = bt at *
    generalize nameB 97 122 bd = bb at *
    generalize E.plain t = pt at *
    generalize E.plain u = pu at *
    cases zN with
    | false =>
      go_wp2
      go_ret
      exact ⟨ret_bool (by rw [HSK.out]; rfl), HB3.out⟩
    | true =>
      cases nn with
      | false =>
        go_wp2
        go_ret
        exact ⟨ret_bool (by rw [HSK.out]; rfl), HB3.out⟩
      | true =>
        cases no with
        | false =>
          go_wp2
          go_ret
          exact ⟨ret_bool (by rw [HSK.out]; rfl), HB3.out⟩
        | true =>
          cases nt with
          | false =>
            go_wp2
            go_ret
            exact ⟨ret_bool (by rw [HSK.out]; rfl), HB3.out⟩
          | true =>
            cases nu with
            | false =>
              go_wp2
              go_ret
              exact ⟨ret_bool (by rw [HSK.out]; rfl), HB3.out⟩
            | true =>
              go_wp2
              go_ret
              exact ⟨ret_bool (by rw [HSK.out]; rfl), HB3.out⟩
  · have HSK : Hid (E.sound (⟨4, lb, nm, bd, m, n, t, u⟩ : E.Pt) = (decide (n = 0) && (decide (nm = ⟨#[]⟩) && (decide (m = 0) && (nameB 97 122 bd && (E.plain t && nu)))))) := hid (by rw [sound_is_4]; rw [hnu])
    clear hK HNO hnt hnu CL
    generalize decide (nm = ⟨#[]⟩) = nn at *
    generalize decide (bd = ⟨#[]⟩) = bE at *
    generalize decide (m = 0) = mE at *
    generalize decide (n = 0) = zN at *
    generalize nameB 97 122 nm = bw at *
    generalize nameB 65 90 nm = bt at *
    generalize nameB 97 122 bd = bb at *
    generalize E.plain t = pt at *
    generalize E.plain u = pu at *
    cases zN with
    | false =>
      go_wp2
      go_ret
      exact ⟨ret_bool (by rw [HSK.out]; rfl), HB3.out⟩
    | true =>
      cases nn with
      | false =>
        go_wp2
        go_ret
        exact ⟨ret_bool (by rw [HSK.out]; rfl), HB3.out⟩
      | true =>
        cases mE with
        | false =>
          go_wp2
          go_ret
          exact ⟨ret_bool (by rw [HSK.out]; rfl), HB3.out⟩
        | true =>
          cases bb with
          | false =>
            go_wp2
            go_ret
            exact ⟨ret_bool (by rw [HSK.out]; rfl), HB3.out⟩
          | true =>
            cases pt with
            | false =>
              go_wp2
              go_ret
              exact ⟨ret_bool (by rw [HSK.out]; rfl), HB3.out⟩
            | true =>
              cases nu with
              | false =>
                go_wp2
                go_ret
                exact ⟨ret_bool (by rw [HSK.out]; rfl), HB3.out⟩
              | true =>
                go_wp2
                go_ret
                exact ⟨ret_bool (by rw [HSK.out]; rfl), HB3.out⟩
  · have HSK : Hid (E.sound (⟨5, lb, nm, bd, m, n, t, u⟩ : E.Pt) = (decide (n = 0) && (nameB 97 122 nm && (decide (m = 0) && (nameB 97 122 bd && (E.plain t && E.plain u)))))) := hid (by rw [sound_is_5])
    clear hK HNO hnt hnu CL
    generalize decide (nm = ⟨#[]⟩) = nn at *
    generalize decide (bd = ⟨#[]⟩) = bE at *
    generalize decide (m = 0) = mE at *
    generalize decide (n = 0) = zN at *
    generalize nameB 97 122 nm = bw at *
    generalize nameB 65 90 nm = bt at *
    generalize nameB 97 122 bd = bb at *
    generalize E.plain t = pt at *
    generalize E.plain u = pu at *
    cases zN with
    | false =>
      go_wp2
      go_ret
      exact ⟨ret_bool (by rw [HSK.out]; rfl), HB3.out⟩
    | true =>
      cases bw with
      | false =>
        go_wp2
        go_ret
        exact ⟨ret_bool (by rw [HSK.out]; rfl), HB3.out⟩
      | true =>
        cases mE with
        | false =>
          go_wp2
          go_ret
          exact ⟨ret_bool (by rw [HSK.out]; rfl), HB3.out⟩
        | true =>
          cases bb with
          | false =>
            go_wp2
            go_ret
            exact ⟨ret_bool (by rw [HSK.out]; rfl), HB3.out⟩
          | true =>
            cases pt with
            | false =>
              go_wp2
              go_ret
              exact ⟨ret_bool (by rw [HSK.out]; rfl), HB3.out⟩
            | true =>
              cases pu with
              | false =>
                go_wp2
                go_ret
                exact ⟨ret_bool (by rw [HSK.out]; rfl), HB3.out⟩
              | true =>
                go_wp2
                go_ret
                exact ⟨ret_bool (by rw [HSK.out]; rfl), HB3.out⟩
  · have HSK : Hid (E.sound (⟨6, lb, nm, bd, m, n, t, u⟩ : E.Pt) = (decide (n = 0) && (decide (nm = ⟨#[]⟩) && (no && (nt && nu))))) := hid (by rw [sound_is_6]; rw [HNO.out]; rw [hnt]; rw [hnu])
    clear hK HNO hnt hnu CL
    generalize decide (nm = ⟨#[]⟩) = nn at *
    generalize decide (bd = ⟨#[]⟩) = bE at *
    generalize decide (m = 0) = mE at *
    generalize decide (n = 0) = zN at *
    generalize nameB 97 122 nm = bw at *
    generalize nameB 65 90 nm = bt at *
    generalize nameB 97 122 bd = bb at *
    generalize E.plain t = pt at *
    generalize E.plain u = pu at *
    cases zN with
    | false =>
      go_wp2
      go_ret
      exact ⟨ret_bool (by rw [HSK.out]; rfl), HB3.out⟩
    | true =>
      cases nn with
      | false =>
        go_wp2
        go_ret
        exact ⟨ret_bool (by rw [HSK.out]; rfl), HB3.out⟩
      | true =>
        cases no with
        | false =>
          go_wp2
          go_ret
          exact ⟨ret_bool (by rw [HSK.out]; rfl), HB3.out⟩
        | true =>
          cases nt with
          | false =>
            go_wp2
            go_ret
            exact ⟨ret_bool (by rw [HSK.out]; rfl), HB3.out⟩
          | true =>
            cases nu with
            | false =>
              go_wp2
              go_ret
              exact ⟨ret_bool (by rw [HSK.out]; rfl), HB3.out⟩
            | true =>
              go_wp2
              go_ret
              exact ⟨ret_bool (by rw [HSK.out]; rfl), HB3.out⟩
  · have HSK : Hid (E.sound (⟨7, lb, nm, bd, m, n, t, u⟩ : E.Pt) = (decide (n = 0) && (decide (nm = ⟨#[]⟩) && (decide (bd = ⟨#[]⟩) && (decide (1 ≤ m) && (decide (m ≤ 50) && (nt && nu))))))) := hid (by rw [sound_is_7]; rw [hnt]; rw [hnu])
    clear hK HNO hnt hnu CL
    generalize decide (nm = ⟨#[]⟩) = nn at *
    generalize decide (bd = ⟨#[]⟩) = bE at *
    generalize decide (m = 0) = mE at *
    generalize decide (n = 0) = zN at *
    generalize nameB 97 122 nm = bw at *
    generalize nameB 65 90 nm = bt at *
    generalize nameB 97 122 bd = bb at *
    generalize E.plain t = pt at *
    generalize E.plain u = pu at *
    cases zN with
    | false =>
      go_wp2
      go_ret
      exact ⟨ret_bool (by rw [HSK.out]; rfl), HB3.out⟩
    | true =>
      cases nn with
      | false =>
        go_wp2
        go_ret
        exact ⟨ret_bool (by rw [HSK.out]; rfl), HB3.out⟩
      | true =>
        cases bE with
        | false =>
          go_wp2
          go_ret
          exact ⟨ret_bool (by rw [HSK.out]; rfl), HB3.out⟩
        | true =>
          by_cases hq3 : 1 ≤ m
          · rw [decide_eq_true hq3] at HSK
            by_cases hq4 : m ≤ 50
            · rw [decide_eq_true hq4] at HSK
              cases nt with
              | false =>
                go_wp2
                go_ret
                exact ⟨ret_bool (by rw [HSK.out]; rfl), HB3.out⟩
              | true =>
                cases nu with
                | false =>
                  go_wp2
                  go_ret
                  exact ⟨ret_bool (by rw [HSK.out]; rfl), HB3.out⟩
                | true =>
                  go_wp2
                  go_ret
                  exact ⟨ret_bool (by rw [HSK.out]; rfl), HB3.out⟩
            · rw [decide_eq_false hq4] at HSK
              go_wp2
              go_ret
              exact ⟨ret_bool (by rw [HSK.out]; rfl), HB3.out⟩
          · rw [decide_eq_false hq3] at HSK
            go_wp2
            go_ret
            exact ⟨ret_bool (by rw [HSK.out]; rfl), HB3.out⟩
  · have HSK : Hid (E.sound (⟨8, lb, nm, bd, m, n, t, u⟩ : E.Pt) = (decide (n = 0) && (decide (nm = ⟨#[]⟩) && (decide (m = 0) && (nameB 97 122 bd && (nt && nu)))))) := hid (by rw [sound_is_8]; rw [hnt]; rw [hnu])
    clear hK HNO hnt hnu CL
    generalize decide (nm = ⟨#[]⟩) = nn at *
    generalize decide (bd = ⟨#[]⟩) = bE at *
    generalize decide (m = 0) = mE at *
    generalize decide (n = 0) = zN at *
    generalize nameB 97 122 nm = bw at *
    generalize nameB 65 90 nm = bt at *
    generalize nameB 97 122 bd = bb at *
    generalize E.plain t = pt at *
    generalize E.plain u = pu at *
    cases zN with
    | false =>
      go_wp2
      go_ret
      exact ⟨ret_bool (by rw [HSK.out]; rfl), HB3.out⟩
    | true =>
      cases nn with
      | false =>
        go_wp2
        go_ret
        exact ⟨ret_bool (by rw [HSK.out]; rfl), HB3.out⟩
      | true =>
        cases mE with
        | false =>
          go_wp2
          go_ret
          exact ⟨ret_bool (by rw [HSK.out]; rfl), HB3.out⟩
        | true =>
          cases bb with
          | false =>
            go_wp2
            go_ret
            exact ⟨ret_bool (by rw [HSK.out]; rfl), HB3.out⟩
          | true =>
            cases nt with
            | false =>
              go_wp2
              go_ret
              exact ⟨ret_bool (by rw [HSK.out]; rfl), HB3.out⟩
            | true =>
              cases nu with
              | false =>
                go_wp2
                go_ret
                exact ⟨ret_bool (by rw [HSK.out]; rfl), HB3.out⟩
              | true =>
                go_wp2
                go_ret
                exact ⟨ret_bool (by rw [HSK.out]; rfl), HB3.out⟩
  · have HSK : Hid (E.sound (⟨9, lb, nm, bd, m, n, t, u⟩ : E.Pt) = (decide (n = 0) && (E.oper nm && (no && (nt && nu))))) := hid (by rw [sound_is_9]; rw [HNO.out]; rw [hnt]; rw [hnu])
    clear hK HNO hnt hnu CL
    generalize decide (nm = ⟨#[]⟩) = nn at *
    generalize decide (bd = ⟨#[]⟩) = bE at *
    generalize decide (m = 0) = mE at *
    generalize decide (n = 0) = zN at *
    generalize nameB 97 122 nm = bw at *
    generalize nameB 65 90 nm = bt at *
    generalize nameB 97 122 bd = bb at *
    generalize E.plain t = pt at *
    generalize E.plain u = pu at *
    generalize E.oper nm = op at *
    cases zN with
    | false =>
      go_wp2
      go_ret
      exact ⟨ret_bool (by rw [HSK.out]; rfl), HB3.out⟩
    | true =>
      cases op with
      | false =>
        go_wp2_with fail
        refine (CO.out _).mono ?_
        rintro e w4 ⟨rfl, hb4⟩
        go_wp2
        go_ret
        exact ⟨ret_bool (by rw [HSK.out]; rfl), HB3.out.trans (hb4.mono HB3.out.size)⟩
      | true =>
        cases no with
        | false =>
          go_wp2_with fail
          refine (CO.out _).mono ?_
          rintro e w4 ⟨rfl, hb4⟩
          go_wp2
          go_ret
          exact ⟨ret_bool (by rw [HSK.out]; rfl), HB3.out.trans (hb4.mono HB3.out.size)⟩
        | true =>
          cases nt with
          | false =>
            go_wp2_with fail
            refine (CO.out _).mono ?_
            rintro e w4 ⟨rfl, hb4⟩
            go_wp2
            go_ret
            exact ⟨ret_bool (by rw [HSK.out]; rfl), HB3.out.trans (hb4.mono HB3.out.size)⟩
          | true =>
            cases nu with
            | false =>
              go_wp2_with fail
              refine (CO.out _).mono ?_
              rintro e w4 ⟨rfl, hb4⟩
              go_wp2
              go_ret
              exact ⟨ret_bool (by rw [HSK.out]; rfl), HB3.out.trans (hb4.mono HB3.out.size)⟩
            | true =>
              go_wp2_with fail
              refine (CO.out _).mono ?_
              rintro e w4 ⟨rfl, hb4⟩
              go_wp2
              go_ret
              exact ⟨ret_bool (by rw [HSK.out]; rfl), HB3.out.trans (hb4.mono HB3.out.size)⟩
  · have HSK : Hid (E.sound (⟨10, lb, nm, bd, m, n, t, u⟩ : E.Pt) = (decide (n = 0) && (decide (nm = ⟨#[]⟩) && (decide (bd = ⟨#[]⟩) && (decide (0 ≤ m) && (decide (m ≤ 50) && (nt && nu))))))) := hid (by rw [sound_is_10]; rw [hnt]; rw [hnu])
    clear hK HNO hnt hnu CL
    generalize decide (nm = ⟨#[]⟩) = nn at *
    generalize decide (bd = ⟨#[]⟩) = bE at *
    generalize decide (m = 0) = mE at *
    generalize decide (n = 0) = zN at *
    generalize nameB 97 122 nm = bw at *
    generalize nameB 65 90 nm = bt at *
    generalize nameB 97 122 bd = bb at *
    generalize E.plain t = pt at *
    generalize E.plain u = pu at *
    cases zN with
    | false =>
      go_wp2
      go_ret
      exact ⟨ret_bool (by rw [HSK.out]; rfl), HB3.out⟩
    | true =>
      cases nn with
      | false =>
        go_wp2
        go_ret
        exact ⟨ret_bool (by rw [HSK.out]; rfl), HB3.out⟩
      | true =>
        cases bE with
        | false =>
          go_wp2
          go_ret
          exact ⟨ret_bool (by rw [HSK.out]; rfl), HB3.out⟩
        | true =>
          by_cases hq3 : 0 ≤ m
          · rw [decide_eq_true hq3] at HSK
            by_cases hq4 : m ≤ 50
            · rw [decide_eq_true hq4] at HSK
              cases nt with
              | false =>
                go_wp2
                go_ret
                exact ⟨ret_bool (by rw [HSK.out]; rfl), HB3.out⟩
              | true =>
                cases nu with
                | false =>
                  go_wp2
                  go_ret
                  exact ⟨ret_bool (by rw [HSK.out]; rfl), HB3.out⟩
                | true =>
                  go_wp2
                  go_ret
                  exact ⟨ret_bool (by rw [HSK.out]; rfl), HB3.out⟩
            · rw [decide_eq_false hq4] at HSK
              go_wp2
              go_ret
              exact ⟨ret_bool (by rw [HSK.out]; rfl), HB3.out⟩
          · rw [decide_eq_false hq3] at HSK
            go_wp2
            go_ret
            exact ⟨ret_bool (by rw [HSK.out]; rfl), HB3.out⟩
  · have HSK : Hid (E.sound (⟨11, lb, nm, bd, m, n, t, u⟩ : E.Pt) = (decide (n = 0) && (nameB 97 122 nm && (no && (nt && nu))))) := hid (by rw [sound_is_11]; rw [HNO.out]; rw [hnt]; rw [hnu])
    clear hK HNO hnt hnu CL
    generalize decide (nm = ⟨#[]⟩) = nn at *
    generalize decide (bd = ⟨#[]⟩) = bE at *
    generalize decide (m = 0) = mE at *
    generalize decide (n = 0) = zN at *
    generalize nameB 97 122 nm = bw at *
    generalize nameB 65 90 nm = bt at *
    generalize nameB 97 122 bd = bb at *
    generalize E.plain t = pt at *
    generalize E.plain u = pu at *
    cases zN with
    | false =>
      go_wp2
      go_ret
      exact ⟨ret_bool (by rw [HSK.out]; rfl), HB3.out⟩
    | true =>
      cases bw with
      | false =>
        go_wp2
        go_ret
        exact ⟨ret_bool (by rw [HSK.out]; rfl), HB3.out⟩
      | true =>
        cases no with
        | false =>
          go_wp2
          go_ret
          exact ⟨ret_bool (by rw [HSK.out]; rfl), HB3.out⟩
        | true =>
          cases nt with
          | false =>
            go_wp2
            go_ret
            exact ⟨ret_bool (by rw [HSK.out]; rfl), HB3.out⟩
          | true =>
            cases nu with
            | false =>
              go_wp2
              go_ret
              exact ⟨ret_bool (by rw [HSK.out]; rfl), HB3.out⟩
            | true =>
              go_wp2
              go_ret
              exact ⟨ret_bool (by rw [HSK.out]; rfl), HB3.out⟩
  · have HSK : Hid (E.sound (⟨12, lb, nm, bd, m, n, t, u⟩ : E.Pt) = (decide (n = 0) && (nameB 65 90 nm && (no && (E.plain t && nu))))) := hid (by rw [sound_is_12]; rw [HNO.out]; rw [hnu])
    clear hK HNO hnt hnu CL
    generalize decide (nm = ⟨#[]⟩) = nn at *
    generalize decide (bd = ⟨#[]⟩) = bE at *
    generalize decide (m = 0) = mE at *
    generalize decide (n = 0) = zN at *
    generalize nameB 97 122 nm = bw at *
    generalize nameB 65 90 nm = bt at *
    generalize nameB 97 122 bd = bb at *
    generalize E.plain t = pt at *
    generalize E.plain u = pu at *
    cases zN with
    | false =>
      go_wp2
      go_ret
      exact ⟨ret_bool (by rw [HSK.out]; rfl), HB3.out⟩
    | true =>
      cases bt with
      | false =>
        go_wp2
        go_ret
        exact ⟨ret_bool (by rw [HSK.out]; rfl), HB3.out⟩
      | true =>
        cases no with
        | false =>
          go_wp2
          go_ret
          exact ⟨ret_bool (by rw [HSK.out]; rfl), HB3.out⟩
        | true =>
          cases pt with
          | false =>
            go_wp2
            go_ret
            exact ⟨ret_bool (by rw [HSK.out]; rfl), HB3.out⟩
          | true =>
            cases nu with
            | false =>
              go_wp2
              go_ret
              exact ⟨ret_bool (by rw [HSK.out]; rfl), HB3.out⟩
            | true =>
              go_wp2
              go_ret
              exact ⟨ret_bool (by rw [HSK.out]; rfl), HB3.out⟩
  · have HSK : Hid (E.sound (⟨13, lb, nm, bd, m, n, t, u⟩ : E.Pt) = (decide (n = 0) && (decide (nm = ⟨#[]⟩) && (no && (E.plain t && nu))))) := hid (by rw [sound_is_13]; rw [HNO.out]; rw [hnu])
    clear hK HNO hnt hnu CL
    generalize decide (nm = ⟨#[]⟩) = nn at *
    generalize decide (bd = ⟨#[]⟩) = bE at *
    generalize decide (m = 0) = mE at *
    generalize decide (n = 0) = zN at *
    generalize nameB 97 122 nm = bw at *
    generalize nameB 65 90 nm = bt at *
    generalize nameB 97 122 bd = bb at *
    generalize E.plain t = pt at *
    generalize E.plain u = pu at *
    cases zN with
    | false =>
      go_wp2
      go_ret
      exact ⟨ret_bool (by rw [HSK.out]; rfl), HB3.out⟩
    | true =>
      cases nn with
      | false =>
        go_wp2
        go_ret
        exact ⟨ret_bool (by rw [HSK.out]; rfl), HB3.out⟩
      | true =>
        cases no with
        | false =>
          go_wp2
          go_ret
          exact ⟨ret_bool (by rw [HSK.out]; rfl), HB3.out⟩
        | true =>
          cases pt with
          | false =>
            go_wp2
            go_ret
            exact ⟨ret_bool (by rw [HSK.out]; rfl), HB3.out⟩
          | true =>
            cases nu with
            | false =>
              go_wp2
              go_ret
              exact ⟨ret_bool (by rw [HSK.out]; rfl), HB3.out⟩
            | true =>
              go_wp2
              go_ret
              exact ⟨ret_bool (by rw [HSK.out]; rfl), HB3.out⟩
  · have HSK : Hid (E.sound (⟨14, lb, nm, bd, m, n, t, u⟩ : E.Pt) = (decide (nm = ⟨#[]⟩) && (no && (E.plain t && (E.plain u && decide (0 ≤ n)))))) := hid (by rw [sound_is_14]; rw [HNO.out])
    clear hK HNO hnt hnu CL
    generalize decide (nm = ⟨#[]⟩) = nn at *
    generalize decide (bd = ⟨#[]⟩) = bE at *
    generalize decide (m = 0) = mE at *
    generalize decide (n = 0) = zN at *
    generalize nameB 97 122 nm = bw at *
    generalize nameB 65 90 nm = bt at *
    generalize nameB 97 122 bd = bb at *
    generalize E.plain t = pt at *
    generalize E.plain u = pu at *
    cases nn with
    | false =>
      go_wp2
      go_ret
      exact ⟨ret_bool (by rw [HSK.out]; rfl), HB3.out⟩
    | true =>
      cases no with
      | false =>
        go_wp2
        go_ret
        exact ⟨ret_bool (by rw [HSK.out]; rfl), HB3.out⟩
      | true =>
        cases pt with
        | false =>
          go_wp2
          go_ret
          exact ⟨ret_bool (by rw [HSK.out]; rfl), HB3.out⟩
        | true =>
          cases pu with
          | false =>
            go_wp2
            go_ret
            exact ⟨ret_bool (by rw [HSK.out]; rfl), HB3.out⟩
          | true =>
            by_cases hq4 : 0 ≤ n
            · rw [decide_eq_true hq4] at HSK
              go_wp2
              go_ret
              exact ⟨ret_bool (by rw [HSK.out]; rfl), HB3.out⟩
            · rw [decide_eq_false hq4] at HSK
              go_wp2
              go_ret
              exact ⟨ret_bool (by rw [HSK.out]; rfl), HB3.out⟩

end Go.Proofs.Ytmcdggjcpfkchaa
end
