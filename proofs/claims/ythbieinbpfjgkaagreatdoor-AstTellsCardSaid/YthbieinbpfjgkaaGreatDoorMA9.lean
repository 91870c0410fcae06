/-
  The texts AsQ2, one behind the other. Conditions: those that each of them names.
-/
import Derived.Test.YthbieinbpfjgkaaGreatDoorMA18
import Derived.Test.YthbieinbpfjgkaaGreatDoorMX1
import Derived.Lib.QuietBelow
import Derived.BigQuiet
section
/-
  The walks of ast.literal and ast.first. Conditions: a sound part, names of at most 200 bytes, types of at most 60 nodes; the table of powers of ten.
-/
namespace Go.Proofs.YthbieinbpfjgkaaGreatDoor
open Go.RowKit Go.Sort

set_option maxHeartbeats 4000000 in
set_option maxRecDepth 100000 in
theorem literal_any (p : E.Pt) (hso : E.litOK p = true) (hnm : p.name.size ≤ 200) (A1 A2 : Option Addr) (c1 c2 : Nat) (w : World) (hT : Tab w) (ht : Rd w w.heap.size (.slice A1 p.t.length c1) p.t) :
    Calls Tryz.prog 73 #[partV p (.slice A1 p.t.length c1) (.slice A2 p.u.length c2)] w fun e w' => e = .returned (.string ⟨(E.litP p).toArray⟩) ∧ Below w.heap.size w w' := by
  obtain ⟨k1, lb, nm, bd, m, n, t, u⟩ := p
  unfold E.litOK at hso
  unfold E.litP partV
  simp only at *
  split at hso
  case h_2 => cases hso
  rename_i y
  obtain ⟨hr, hso⟩ := (Bool.and_eq_true _ _).mp hso
  obtain ⟨A, cap, hv, -, -, -, hcx⟩ := ht
  obtain ⟨b, o, hA, hb, hcx⟩ := hcx (by simp)
  have x0 := (hcx 0 (by simp)).1
  simp only [List.length_cons, List.length_nil] at *
  simp only [Value.slice.injEq] at hv
  obtain ⟨rfl, -, rfl⟩ := hv
  subst hA
  clear hcx
  rw [Nat.zero_mul, Nat.add_zero] at x0
  simp only [List.getElem_cons_zero] at x0
  obtain ⟨w0, hw0⟩ : ∃ w0, w0 = w.alloc (.cells #[.int .i64 k1, .string lb, .string nm, .string bd, .int .i64 m, .int .i64 n, .slice (some ⟨b, o, none⟩) 1 c1, .slice A2 u.length c2] 39) := ⟨_, rfl⟩
  have hB0 : Below w.heap.size w w0 := by rw [hw0]; exact below_new _
  have HB := hid hB0
  by_cases e1 : y.kind = 1
  · rw [if_pos e1] at hso
    rw [if_neg (by omega), if_neg (by omega), if_neg (by omega)]
    obtain ⟨h0, hso⟩ := (Bool.and_eq_true _ _).mp hso
    obtain ⟨h1, -⟩ := (Bool.and_eq_true _ _).mp hso
    have h0' := of_decide_eq_true h0
    have h1' := of_decide_eq_true h1
    have HI := hid (Tryz.strconv_FormatInt_10 n (by omega) (by omega) w0 (hT.grows hB0))
    rw [e1] at x0
    clear hso h0 h1 hr e1 hT hB0
    go_enter Tryz.func73, Tryz.ntmps73
    go_wp2_with fail
    rw [← hw0]
    clear hw0
    refine (HI.out).mono ?_
    rintro e w1 ⟨rfl, kk, os, rfl⟩
    go_wp2
    go_ret
    exact ⟨rfl, HB.out.trans ((below_grow w0 kk os).mono HB.out.size)⟩
  rw [if_neg e1] at hso
  by_cases e2 : y.kind = 2
  · rw [if_pos e2]
    rw [e2] at x0
    by_cases hn : n = 0
    · subst hn
      rw [if_pos rfl]
      have HI := hid (Tryz.strconv_FormatBool false w0)
      clear hso hr e1 e2 hT hB0
      go_enter Tryz.func73, Tryz.ntmps73
      go_wp2_with fail
      rw [← hw0]
      clear hw0
      refine (HI.out).mono ?_
      rintro e w1 ⟨rfl, rfl⟩
      go_wp2
      go_ret
      exact ⟨rfl, HB.out⟩
    · rw [if_neg hn]
      have hn2 : (n != 0) = true := by simpa using hn
      have hn3 : (n == 0) = false := by simpa using hn
      have HI := hid (Tryz.strconv_FormatBool true w0)
      clear hso hr e1 e2 hT hB0
      go_enter Tryz.func73, Tryz.ntmps73
      go_wp2_with fail
      rw [← hw0]
      clear hw0
      refine (HI.out).mono ?_
      rintro e w1 ⟨rfl, rfl⟩
      go_wp2
      go_ret
      exact ⟨rfl, HB.out⟩
  rw [if_neg e2] at hso
  rw [if_neg e2]
  by_cases e3 : y.kind = 3
  · rw [if_pos e3]
    rw [e3] at x0
    have HI := hid (X.quote_any nm (by omega) w0)
    clear hso hr e1 e2 e3 hT hB0
    go_enter Tryz.func73, Tryz.ntmps73
    go_wp2_with fail
    rw [← hw0]
    clear hw0
    refine (HI.out).mono ?_
    rintro e w1 ⟨rfl, hb1⟩
    go_wp2
    go_ret
    exact ⟨rfl, HB.out.trans (hb1.mono HB.out.size)⟩
  rw [if_neg e3] at hso
  rw [if_neg e3]
  by_cases e4 : y.kind = 4
  · rw [if_pos e4]
    rw [e4] at x0
    clear hso hr e1 e2 e3 e4 hT hB0 HB hw0
    go_enter Tryz.func73, Tryz.ntmps73
    go_wp2
    go_ret
    exact ⟨ret_str (by simp), below_new _⟩
  · rw [if_neg e4] at hso
    cases hso

set_option maxHeartbeats 4000000 in
set_option maxRecDepth 100000 in
theorem first_0 (lb nm bd : ByteArray) (m n : Int) (t u : List L.Nd) (hlb : lb.size ≤ 200) (hnm : nm.size ≤ 200) (hbd : bd.size ≤ 200) (hst : Short t) (hsu : Short u) (hlt : t.length ≤ 60) (hlu : u.length ≤ 60) (A1 A2 : Option Addr) (c1 c2 : Nat) (w : World) (hT : Tab w) (ht : Rd w w.heap.size (.slice A1 t.length c1) t) (hu : Rd w w.heap.size (.slice A2 u.length c2) u) (hso : E.sound (⟨0, lb, nm, bd, m, n, t, u⟩ : E.Pt) = true) :
    Calls Tryz.prog 44 #[partV (⟨0, lb, nm, bd, m, n, t, u⟩ : E.Pt) (.slice A1 t.length c1) (.slice A2 u.length c2)] w fun e w' => e = .returned (.string ⟨(E.firstP (⟨0, lb, nm, bd, m, n, t, u⟩ : E.Pt)).toArray⟩) ∧ Below w.heap.size w w' := by
  have hused := And.intro hlb (And.intro hnm (And.intro hbd (And.intro hst (And.intro hsu (And.intro hlt (And.intro hlu (And.intro hT (And.intro ht (And.intro hu hso)))))))))
  clear hused
  have HE : Hid (E.firstP (⟨0, lb, nm, bd, m, n, t, u⟩ : E.Pt) = E.firstP (⟨0, lb, nm, bd, m, n, t, u⟩ : E.Pt)) := hid rfl
  unfold partV
  simp only
  obtain ⟨w0, hw0⟩ : ∃ w0, w0 = w.alloc (.cells #[.int .i64 0, .string lb, .string nm, .string bd, .int .i64 m, .int .i64 n, .slice A1 t.length c1, .slice A2 u.length c2] 39) := ⟨_, rfl⟩
  have hB0 : Below w.heap.size w w0 := by rw [hw0]; exact below_new _
  have hN : w0.heap[w.heap.size]? = some (.cells #[.int .i64 0, .string lb, .string nm, .string bd, .int .i64 m, .int .i64 n, .slice A1 t.length c1, .slice A2 u.length c2] 39 (0, 0)) := by rw [hw0]; exact heap_alloc_new w _
  have HB := hid hB0
  have HC := hid (literal_any (⟨0, lb, nm, bd, m, n, t, u⟩ : E.Pt) hso hnm A1 A2 c1 c2 w0 (hT.grows hB0) (ht.below hB0).size)
  unfold partV at HC
  simp only at HC
  clear hN hB0
  clear ht hu hst hsu hlt hlu hT hso
  go_enter Tryz.func44, Tryz.ntmps44
  go_wp2_with fail
  rw [← hw0]
  clear hw0
  refine (HC.out).mono ?_
  rintro e w1 ⟨rfl, hb1⟩
  go_wp2
  go_ret
  exact ⟨rfl, HB.out.trans (hb1.mono HB.out.size)⟩

set_option maxHeartbeats 4000000 in
set_option maxRecDepth 100000 in
theorem first_1 (lb nm bd : ByteArray) (m n : Int) (t u : List L.Nd) (hlb : lb.size ≤ 200) (hnm : nm.size ≤ 200) (hbd : bd.size ≤ 200) (hst : Short t) (hsu : Short u) (hlt : t.length ≤ 60) (hlu : u.length ≤ 60) (A1 A2 : Option Addr) (c1 c2 : Nat) (w : World) (hT : Tab w) (ht : Rd w w.heap.size (.slice A1 t.length c1) t) (hu : Rd w w.heap.size (.slice A2 u.length c2) u) (hso : E.sound (⟨1, lb, nm, bd, m, n, t, u⟩ : E.Pt) = true) :
    Calls Tryz.prog 44 #[partV (⟨1, lb, nm, bd, m, n, t, u⟩ : E.Pt) (.slice A1 t.length c1) (.slice A2 u.length c2)] w fun e w' => e = .returned (.string ⟨(E.firstP (⟨1, lb, nm, bd, m, n, t, u⟩ : E.Pt)).toArray⟩) ∧ Below w.heap.size w w' := by
  have hused := And.intro hlb (And.intro hnm (And.intro hbd (And.intro hst (And.intro hsu (And.intro hlt (And.intro hlu (And.intro hT (And.intro ht (And.intro hu hso)))))))))
  clear hused
  have HE : Hid (E.firstP (⟨1, lb, nm, bd, m, n, t, u⟩ : E.Pt) = E.firstP (⟨1, lb, nm, bd, m, n, t, u⟩ : E.Pt)) := hid rfl
  unfold partV
  simp only
  clear ht hu hst hsu hlt hlu hT hso
  go_enter Tryz.func44, Tryz.ntmps44
  go_wp2
  go_ret
  exact ⟨ret_str (by simp [E.firstP]), below_new _⟩

set_option maxHeartbeats 4000000 in
set_option maxRecDepth 100000 in
theorem first_2 (lb nm bd : ByteArray) (m n : Int) (t u : List L.Nd) (hlb : lb.size ≤ 200) (hnm : nm.size ≤ 200) (hbd : bd.size ≤ 200) (hst : Short t) (hsu : Short u) (hlt : t.length ≤ 60) (hlu : u.length ≤ 60) (A1 A2 : Option Addr) (c1 c2 : Nat) (w : World) (hT : Tab w) (ht : Rd w w.heap.size (.slice A1 t.length c1) t) (hu : Rd w w.heap.size (.slice A2 u.length c2) u) (hso : E.sound (⟨2, lb, nm, bd, m, n, t, u⟩ : E.Pt) = true) :
    Calls Tryz.prog 44 #[partV (⟨2, lb, nm, bd, m, n, t, u⟩ : E.Pt) (.slice A1 t.length c1) (.slice A2 u.length c2)] w fun e w' => e = .returned (.string ⟨(E.firstP (⟨2, lb, nm, bd, m, n, t, u⟩ : E.Pt)).toArray⟩) ∧ Below w.heap.size w w' := by
  have hused := And.intro hlb (And.intro hnm (And.intro hbd (And.intro hst (And.intro hsu (And.intro hlt (And.intro hlu (And.intro hT (And.intro ht (And.intro hu hso)))))))))
  clear hused
  obtain ⟨-, h⟩ := (Bool.and_eq_true _ _).mp (show (nameB 97 122 bd && (E.plain t && E.only _ _)) = true from hso)
  have hpt := ((Bool.and_eq_true _ _).mp h).1
  have HE : Hid (E.firstP (⟨2, lb, nm, bd, m, n, t, u⟩ : E.Pt) = E.firstP (⟨2, lb, nm, bd, m, n, t, u⟩ : E.Pt)) := hid rfl
  unfold partV
  simp only
  obtain ⟨w0, hw0⟩ : ∃ w0, w0 = w.alloc (.cells #[.int .i64 2, .string lb, .string nm, .string bd, .int .i64 m, .int .i64 n, .slice A1 t.length c1, .slice A2 u.length c2] 39) := ⟨_, rfl⟩
  have hB0 : Below w.heap.size w w0 := by rw [hw0]; exact below_new _
  have hN : w0.heap[w.heap.size]? = some (.cells #[.int .i64 2, .string lb, .string nm, .string bd, .int .i64 m, .int .i64 n, .slice A1 t.length c1, .slice A2 u.length c2] 39 (0, 0)) := by rw [hw0]; exact heap_alloc_new w _
  have HB := hid hB0
  have HC := hid (typed_any (⟨2, lb, nm, bd, m, n, t, u⟩ : E.Pt) hpt hst hlt hbd A1 A2 c1 c2 w0 (hT.grows hB0) (ht.below hB0).size)
  have hD : (E.typedP (⟨2, lb, nm, bd, m, n, t, u⟩ : E.Pt)).length ≤ 18300 := by
    have := tyP_len hpt hst hlt
    unfold E.typedP
    simp only [List.length_append, List.length_cons, List.length_nil, Array.length_toList]
    have : bd.data.size = bd.size := rfl
    omega
  have hDs : (⟨(E.typedP (⟨2, lb, nm, bd, m, n, t, u⟩ : E.Pt)).toArray⟩ : ByteArray).size ≤ 18300 := by show ((E.typedP (⟨2, lb, nm, bd, m, n, t, u⟩ : E.Pt)).toArray).size ≤ 18300; rw [List.size_toArray]; omega
  have HDE : Hid ((⟨(E.typedP (⟨2, lb, nm, bd, m, n, t, u⟩ : E.Pt)).toArray⟩ : ByteArray).data.toList = E.typedP (⟨2, lb, nm, bd, m, n, t, u⟩ : E.Pt)) := hid (by simp)
  unfold partV at HC
  simp only at HC
  have HPT := hid (hpt)
  clear hN hB0 hD h hpt
  clear ht hu hst hsu hlt hlu hT hso
  generalize (⟨(E.typedP (⟨2, lb, nm, bd, m, n, t, u⟩ : E.Pt)).toArray⟩ : ByteArray) = D at *
  go_enter Tryz.func44, Tryz.ntmps44
  go_wp2_with fail
  rw [← hw0]
  clear hw0
  refine (HC.out).mono ?_
  rintro e w1 ⟨rfl, hb1⟩
  go_wp2
  go_ret
  exact ⟨ret_str (by rw [E.firstP]; simp [HDE.out]), HB.out.trans (hb1.mono HB.out.size)⟩

set_option maxHeartbeats 4000000 in
set_option maxRecDepth 100000 in
theorem first_3 (lb nm bd : ByteArray) (m n : Int) (t u : List L.Nd) (hlb : lb.size ≤ 200) (hnm : nm.size ≤ 200) (hbd : bd.size ≤ 200) (hst : Short t) (hsu : Short u) (hlt : t.length ≤ 60) (hlu : u.length ≤ 60) (A1 A2 : Option Addr) (c1 c2 : Nat) (w : World) (hT : Tab w) (ht : Rd w w.heap.size (.slice A1 t.length c1) t) (hu : Rd w w.heap.size (.slice A2 u.length c2) u) (hso : E.sound (⟨3, lb, nm, bd, m, n, t, u⟩ : E.Pt) = true) :
    Calls Tryz.prog 44 #[partV (⟨3, lb, nm, bd, m, n, t, u⟩ : E.Pt) (.slice A1 t.length c1) (.slice A2 u.length c2)] w fun e w' => e = .returned (.string ⟨(E.firstP (⟨3, lb, nm, bd, m, n, t, u⟩ : E.Pt)).toArray⟩) ∧ Below w.heap.size w w' := by
  have hused := And.intro hlb (And.intro hnm (And.intro hbd (And.intro hst (And.intro hsu (And.intro hlt (And.intro hlu (And.intro hT (And.intro ht (And.intro hu hso)))))))))
  clear hused
  have HE : Hid (E.firstP (⟨3, lb, nm, bd, m, n, t, u⟩ : E.Pt) = E.firstP (⟨3, lb, nm, bd, m, n, t, u⟩ : E.Pt)) := hid rfl
  unfold partV
  simp only
  clear ht hu hst hsu hlt hlu hT hso
  go_enter Tryz.func44, Tryz.ntmps44
  go_wp2
  go_ret
  exact ⟨ret_str (by simp [E.firstP]), below_new _⟩

set_option maxHeartbeats 4000000 in
set_option maxRecDepth 100000 in
theorem first_4 (lb nm bd : ByteArray) (m n : Int) (t u : List L.Nd) (hlb : lb.size ≤ 200) (hnm : nm.size ≤ 200) (hbd : bd.size ≤ 200) (hst : Short t) (hsu : Short u) (hlt : t.length ≤ 60) (hlu : u.length ≤ 60) (A1 A2 : Option Addr) (c1 c2 : Nat) (w : World) (hT : Tab w) (ht : Rd w w.heap.size (.slice A1 t.length c1) t) (hu : Rd w w.heap.size (.slice A2 u.length c2) u) (hso : E.sound (⟨4, lb, nm, bd, m, n, t, u⟩ : E.Pt) = true) :
    Calls Tryz.prog 44 #[partV (⟨4, lb, nm, bd, m, n, t, u⟩ : E.Pt) (.slice A1 t.length c1) (.slice A2 u.length c2)] w fun e w' => e = .returned (.string ⟨(E.firstP (⟨4, lb, nm, bd, m, n, t, u⟩ : E.Pt)).toArray⟩) ∧ Below w.heap.size w w' := by
  have hused := And.intro hlb (And.intro hnm (And.intro hbd (And.intro hst (And.intro hsu (And.intro hlt (And.intro hlu (And.intro hT (And.intro ht (And.intro hu hso)))))))))
  clear hused
  obtain ⟨-, h⟩ := (Bool.and_eq_true _ _).mp (show (nameB 97 122 bd && (E.plain t && E.only _ _)) = true from hso)
  have hpt := ((Bool.and_eq_true _ _).mp h).1
  have HE : Hid (E.firstP (⟨4, lb, nm, bd, m, n, t, u⟩ : E.Pt) = E.firstP (⟨4, lb, nm, bd, m, n, t, u⟩ : E.Pt)) := hid rfl
  unfold partV
  simp only
  obtain ⟨w0, hw0⟩ : ∃ w0, w0 = w.alloc (.cells #[.int .i64 4, .string lb, .string nm, .string bd, .int .i64 m, .int .i64 n, .slice A1 t.length c1, .slice A2 u.length c2] 39) := ⟨_, rfl⟩
  have hB0 : Below w.heap.size w w0 := by rw [hw0]; exact below_new _
  have hN : w0.heap[w.heap.size]? = some (.cells #[.int .i64 4, .string lb, .string nm, .string bd, .int .i64 m, .int .i64 n, .slice A1 t.length c1, .slice A2 u.length c2] 39 (0, 0)) := by rw [hw0]; exact heap_alloc_new w _
  have HB := hid hB0
  have HC := hid (typed_any (⟨4, lb, nm, bd, m, n, t, u⟩ : E.Pt) hpt hst hlt hbd A1 A2 c1 c2 w0 (hT.grows hB0) (ht.below hB0).size)
  have hD : (E.typedP (⟨4, lb, nm, bd, m, n, t, u⟩ : E.Pt)).length ≤ 18300 := by
    have := tyP_len hpt hst hlt
    unfold E.typedP
    simp only [List.length_append, List.length_cons, List.length_nil, Array.length_toList]
    have : bd.data.size = bd.size := rfl
    omega
  have hDs : (⟨(E.typedP (⟨4, lb, nm, bd, m, n, t, u⟩ : E.Pt)).toArray⟩ : ByteArray).size ≤ 18300 := by show ((E.typedP (⟨4, lb, nm, bd, m, n, t, u⟩ : E.Pt)).toArray).size ≤ 18300; rw [List.size_toArray]; omega
  have HDE : Hid ((⟨(E.typedP (⟨4, lb, nm, bd, m, n, t, u⟩ : E.Pt)).toArray⟩ : ByteArray).data.toList = E.typedP (⟨4, lb, nm, bd, m, n, t, u⟩ : E.Pt)) := hid (by simp)
  unfold partV at HC
  simp only at HC
  have HPT := hid (hpt)
  clear hN hB0 hD h hpt
  clear ht hu hst hsu hlt hlu hT hso
  generalize (⟨(E.typedP (⟨4, lb, nm, bd, m, n, t, u⟩ : E.Pt)).toArray⟩ : ByteArray) = D at *
  go_enter Tryz.func44, Tryz.ntmps44
  go_wp2_with fail
  rw [← hw0]
  clear hw0
  refine (HC.out).mono ?_
  rintro e w1 ⟨rfl, hb1⟩
  go_wp2
  go_ret
  exact ⟨ret_str (by rw [E.firstP]; simp [HDE.out]), HB.out.trans (hb1.mono HB.out.size)⟩

set_option maxHeartbeats 4000000 in
set_option maxRecDepth 100000 in
theorem first_5 (lb nm bd : ByteArray) (m n : Int) (t u : List L.Nd) (hlb : lb.size ≤ 200) (hnm : nm.size ≤ 200) (hbd : bd.size ≤ 200) (hst : Short t) (hsu : Short u) (hlt : t.length ≤ 60) (hlu : u.length ≤ 60) (A1 A2 : Option Addr) (c1 c2 : Nat) (w : World) (hT : Tab w) (ht : Rd w w.heap.size (.slice A1 t.length c1) t) (hu : Rd w w.heap.size (.slice A2 u.length c2) u) (hso : E.sound (⟨5, lb, nm, bd, m, n, t, u⟩ : E.Pt) = true) :
    Calls Tryz.prog 44 #[partV (⟨5, lb, nm, bd, m, n, t, u⟩ : E.Pt) (.slice A1 t.length c1) (.slice A2 u.length c2)] w fun e w' => e = .returned (.string ⟨(E.firstP (⟨5, lb, nm, bd, m, n, t, u⟩ : E.Pt)).toArray⟩) ∧ Below w.heap.size w w' := by
  have hused := And.intro hlb (And.intro hnm (And.intro hbd (And.intro hst (And.intro hsu (And.intro hlt (And.intro hlu (And.intro hT (And.intro ht (And.intro hu hso)))))))))
  clear hused
  obtain ⟨-, h⟩ := (Bool.and_eq_true _ _).mp (show (nameB 97 122 nm && (nameB 97 122 bd && (E.plain t && (E.plain u && E.only _ _)))) = true from hso)
  obtain ⟨-, h⟩ := (Bool.and_eq_true _ _).mp h
  obtain ⟨hpt, h⟩ := (Bool.and_eq_true _ _).mp h
  have hpu := ((Bool.and_eq_true _ _).mp h).1
  have HE : Hid (E.firstP (⟨5, lb, nm, bd, m, n, t, u⟩ : E.Pt) = E.firstP (⟨5, lb, nm, bd, m, n, t, u⟩ : E.Pt)) := hid rfl
  unfold partV
  simp only
  obtain ⟨w0, hw0⟩ : ∃ w0, w0 = w.alloc (.cells #[.int .i64 5, .string lb, .string nm, .string bd, .int .i64 m, .int .i64 n, .slice A1 t.length c1, .slice A2 u.length c2] 39) := ⟨_, rfl⟩
  have hB0 : Below w.heap.size w w0 := by rw [hw0]; exact below_new _
  have hN : w0.heap[w.heap.size]? = some (.cells #[.int .i64 5, .string lb, .string nm, .string bd, .int .i64 m, .int .i64 n, .slice A1 t.length c1, .slice A2 u.length c2] 39 (0, 0)) := by rw [hw0]; exact heap_alloc_new w _
  have HB := hid hB0
  have cM := fun d os => Calls.regrown_of (typed_any (⟨5, lb, nm, bd, m, n, t, u⟩ : E.Pt) hpt hst hlt hbd A1 A2 c1 c2 (grow (redrawn w0 d) os) ((hT.grows hB0).grows (below_regrown w0 d os)) ((ht.below hB0).below (below_regrown w0 d os)).size)
  have cP := fun d os => Calls.regrown_of (tprint_any u hpu hsu (.slice A2 u.length c2) (grow (redrawn w0 d) os) ((hu.below hB0).below (below_regrown w0 d os)).size ((hT.grows hB0).grows (below_regrown w0 d os)))
  unfold partV at cM
  simp only at cM
  have CM := hid cM
  have CP := hid cP
  have hD : (E.typedP (⟨5, lb, nm, bd, m, n, t, u⟩ : E.Pt)).length ≤ 18300 := by
    have := tyP_len hpt hst hlt
    unfold E.typedP
    simp only [List.length_append, List.length_cons, List.length_nil, Array.length_toList]
    have : bd.data.size = bd.size := rfl
    omega
  have hF := tyP_len hpu hsu hlu
  have hDs : (⟨(E.typedP (⟨5, lb, nm, bd, m, n, t, u⟩ : E.Pt)).toArray⟩ : ByteArray).size ≤ 18300 := by show ((E.typedP (⟨5, lb, nm, bd, m, n, t, u⟩ : E.Pt)).toArray).size ≤ 18300; rw [List.size_toArray]; omega
  have HDE : Hid ((⟨(E.typedP (⟨5, lb, nm, bd, m, n, t, u⟩ : E.Pt)).toArray⟩ : ByteArray).data.toList = E.typedP (⟨5, lb, nm, bd, m, n, t, u⟩ : E.Pt)) := hid (by simp)
  have hFs : (⟨(L.tyP u).toArray⟩ : ByteArray).size ≤ 18000 := by show ((L.tyP u).toArray).size ≤ 18000; rw [List.size_toArray]; omega
  have HFE : Hid ((⟨(L.tyP u).toArray⟩ : ByteArray).data.toList = L.tyP u) := hid (by simp)
  have cN0 := Lib.cell_of_heap hN 0
  have cN1 := Lib.cell_of_heap hN 1
  have cN2 := Lib.cell_of_heap hN 2
  have cN3 := Lib.cell_of_heap hN 3
  have cN4 := Lib.cell_of_heap hN 4
  have cN5 := Lib.cell_of_heap hN 5
  have cN6 := Lib.cell_of_heap hN 6
  have cN7 := Lib.cell_of_heap hN 7
  simp only [List.getElem?_toArray] at cN0 cN1 cN2 cN3 cN4 cN5 cN6 cN7
  clear hN hB0 hD hF cM cP hpt hpu h
  clear ht hu hst hsu hlt hlu hT hso
  generalize (⟨(E.typedP (⟨5, lb, nm, bd, m, n, t, u⟩ : E.Pt)).toArray⟩ : ByteArray) = D at *
  generalize (⟨(L.tyP u).toArray⟩ : ByteArray) = F at *
  go_enter Tryz.func44, Tryz.ntmps44
  go_wp2
  rw [← hw0]
  clear hw0
  have k0 := cell_regrown cN0
  have k1 := cell_regrown cN1
  have k2 := cell_regrown cN2
  have k3 := cell_regrown cN3
  have k4 := cell_regrown cN4
  have k5 := cell_regrown cN5
  have k6 := cell_regrown cN6
  have k7 := cell_regrown cN7
  clear cN0 cN1 cN2 cN3 cN4 cN5 cN6 cN7
  refine wp_region_quiet_below (by kernel_rfl) (by kernel_rfl) ?_
  repeat (go_big_quiet_step (first | exact CM.out _ _ | exact CP.out _ _))
  refine wpQuiet_nil ?_
  intro _ hw'
  obtain ⟨⟨nq, osq⟩, hw''⟩ := hw'
  subst hw''
  go_wp2
  go_ret
  exact ⟨ret_str (by rw [E.firstP]; simp [HDE.out, HFE.out]), HB.out.trans ((below_regrown w0 nq osq).mono HB.out.size)⟩

set_option maxHeartbeats 4000000 in
set_option maxRecDepth 100000 in
theorem first_6 (lb nm bd : ByteArray) (m n : Int) (t u : List L.Nd) (hlb : lb.size ≤ 200) (hnm : nm.size ≤ 200) (hbd : bd.size ≤ 200) (hst : Short t) (hsu : Short u) (hlt : t.length ≤ 60) (hlu : u.length ≤ 60) (A1 A2 : Option Addr) (c1 c2 : Nat) (w : World) (hT : Tab w) (ht : Rd w w.heap.size (.slice A1 t.length c1) t) (hu : Rd w w.heap.size (.slice A2 u.length c2) u) (hso : E.sound (⟨6, lb, nm, bd, m, n, t, u⟩ : E.Pt) = true) :
    Calls Tryz.prog 44 #[partV (⟨6, lb, nm, bd, m, n, t, u⟩ : E.Pt) (.slice A1 t.length c1) (.slice A2 u.length c2)] w fun e w' => e = .returned (.string ⟨(E.firstP (⟨6, lb, nm, bd, m, n, t, u⟩ : E.Pt)).toArray⟩) ∧ Below w.heap.size w w' := by
  have hused := And.intro hlb (And.intro hnm (And.intro hbd (And.intro hst (And.intro hsu (And.intro hlt (And.intro hlu (And.intro hT (And.intro ht (And.intro hu hso)))))))))
  clear hused
  have HE : Hid (E.firstP (⟨6, lb, nm, bd, m, n, t, u⟩ : E.Pt) = E.firstP (⟨6, lb, nm, bd, m, n, t, u⟩ : E.Pt)) := hid rfl
  unfold partV
  simp only
  clear ht hu hst hsu hlt hlu hT hso
  go_enter Tryz.func44, Tryz.ntmps44
  go_wp2
  go_ret
  exact ⟨ret_str (by simp [E.firstP]), below_new _⟩

set_option maxHeartbeats 4000000 in
set_option maxRecDepth 100000 in
theorem first_7 (lb nm bd : ByteArray) (m n : Int) (t u : List L.Nd) (hlb : lb.size ≤ 200) (hnm : nm.size ≤ 200) (hbd : bd.size ≤ 200) (hst : Short t) (hsu : Short u) (hlt : t.length ≤ 60) (hlu : u.length ≤ 60) (A1 A2 : Option Addr) (c1 c2 : Nat) (w : World) (hT : Tab w) (ht : Rd w w.heap.size (.slice A1 t.length c1) t) (hu : Rd w w.heap.size (.slice A2 u.length c2) u) (hso : E.sound (⟨7, lb, nm, bd, m, n, t, u⟩ : E.Pt) = true) :
    Calls Tryz.prog 44 #[partV (⟨7, lb, nm, bd, m, n, t, u⟩ : E.Pt) (.slice A1 t.length c1) (.slice A2 u.length c2)] w fun e w' => e = .returned (.string ⟨(E.firstP (⟨7, lb, nm, bd, m, n, t, u⟩ : E.Pt)).toArray⟩) ∧ Below w.heap.size w w' := by
  have hused := And.intro hlb (And.intro hnm (And.intro hbd (And.intro hst (And.intro hsu (And.intro hlt (And.intro hlu (And.intro hT (And.intro ht (And.intro hu hso)))))))))
  clear hused
  have HE : Hid (E.firstP (⟨7, lb, nm, bd, m, n, t, u⟩ : E.Pt) = E.firstP (⟨7, lb, nm, bd, m, n, t, u⟩ : E.Pt)) := hid rfl
  unfold partV
  simp only
  clear ht hu hst hsu hlt hlu hT hso
  go_enter Tryz.func44, Tryz.ntmps44
  go_wp2
  go_ret
  exact ⟨ret_str (by simp [E.firstP]), below_new _⟩

set_option maxHeartbeats 4000000 in
set_option maxRecDepth 100000 in
theorem first_8 (lb nm bd : ByteArray) (m n : Int) (t u : List L.Nd) (hlb : lb.size ≤ 200) (hnm : nm.size ≤ 200) (hbd : bd.size ≤ 200) (hst : Short t) (hsu : Short u) (hlt : t.length ≤ 60) (hlu : u.length ≤ 60) (A1 A2 : Option Addr) (c1 c2 : Nat) (w : World) (hT : Tab w) (ht : Rd w w.heap.size (.slice A1 t.length c1) t) (hu : Rd w w.heap.size (.slice A2 u.length c2) u) (hso : E.sound (⟨8, lb, nm, bd, m, n, t, u⟩ : E.Pt) = true) :
    Calls Tryz.prog 44 #[partV (⟨8, lb, nm, bd, m, n, t, u⟩ : E.Pt) (.slice A1 t.length c1) (.slice A2 u.length c2)] w fun e w' => e = .returned (.string ⟨(E.firstP (⟨8, lb, nm, bd, m, n, t, u⟩ : E.Pt)).toArray⟩) ∧ Below w.heap.size w w' := by
  have hused := And.intro hlb (And.intro hnm (And.intro hbd (And.intro hst (And.intro hsu (And.intro hlt (And.intro hlu (And.intro hT (And.intro ht (And.intro hu hso)))))))))
  clear hused
  have HE : Hid (E.firstP (⟨8, lb, nm, bd, m, n, t, u⟩ : E.Pt) = E.firstP (⟨8, lb, nm, bd, m, n, t, u⟩ : E.Pt)) := hid rfl
  unfold partV
  simp only
  clear ht hu hst hsu hlt hlu hT hso
  go_enter Tryz.func44, Tryz.ntmps44
  go_wp2
  go_ret
  exact ⟨ret_str (by simp [E.firstP]), below_new _⟩

set_option maxHeartbeats 4000000 in
set_option maxRecDepth 100000 in
theorem first_9 (lb nm bd : ByteArray) (m n : Int) (t u : List L.Nd) (hlb : lb.size ≤ 200) (hnm : nm.size ≤ 200) (hbd : bd.size ≤ 200) (hst : Short t) (hsu : Short u) (hlt : t.length ≤ 60) (hlu : u.length ≤ 60) (A1 A2 : Option Addr) (c1 c2 : Nat) (w : World) (hT : Tab w) (ht : Rd w w.heap.size (.slice A1 t.length c1) t) (hu : Rd w w.heap.size (.slice A2 u.length c2) u) (hso : E.sound (⟨9, lb, nm, bd, m, n, t, u⟩ : E.Pt) = true) :
    Calls Tryz.prog 44 #[partV (⟨9, lb, nm, bd, m, n, t, u⟩ : E.Pt) (.slice A1 t.length c1) (.slice A2 u.length c2)] w fun e w' => e = .returned (.string ⟨(E.firstP (⟨9, lb, nm, bd, m, n, t, u⟩ : E.Pt)).toArray⟩) ∧ Below w.heap.size w w' := by
  have hused := And.intro hlb (And.intro hnm (And.intro hbd (And.intro hst (And.intro hsu (And.intro hlt (And.intro hlu (And.intro hT (And.intro ht (And.intro hu hso)))))))))
  clear hused
  have HE : Hid (E.firstP (⟨9, lb, nm, bd, m, n, t, u⟩ : E.Pt) = E.firstP (⟨9, lb, nm, bd, m, n, t, u⟩ : E.Pt)) := hid rfl
  unfold partV
  simp only
  clear ht hu hst hsu hlt hlu hT hso
  go_enter Tryz.func44, Tryz.ntmps44
  go_wp2
  go_ret
  exact ⟨ret_str (by simp [E.firstP]), below_new _⟩

set_option maxHeartbeats 4000000 in
set_option maxRecDepth 100000 in
theorem first_10 (lb nm bd : ByteArray) (m n : Int) (t u : List L.Nd) (hlb : lb.size ≤ 200) (hnm : nm.size ≤ 200) (hbd : bd.size ≤ 200) (hst : Short t) (hsu : Short u) (hlt : t.length ≤ 60) (hlu : u.length ≤ 60) (A1 A2 : Option Addr) (c1 c2 : Nat) (w : World) (hT : Tab w) (ht : Rd w w.heap.size (.slice A1 t.length c1) t) (hu : Rd w w.heap.size (.slice A2 u.length c2) u) (hso : E.sound (⟨10, lb, nm, bd, m, n, t, u⟩ : E.Pt) = true) :
    Calls Tryz.prog 44 #[partV (⟨10, lb, nm, bd, m, n, t, u⟩ : E.Pt) (.slice A1 t.length c1) (.slice A2 u.length c2)] w fun e w' => e = .returned (.string ⟨(E.firstP (⟨10, lb, nm, bd, m, n, t, u⟩ : E.Pt)).toArray⟩) ∧ Below w.heap.size w w' := by
  have hused := And.intro hlb (And.intro hnm (And.intro hbd (And.intro hst (And.intro hsu (And.intro hlt (And.intro hlu (And.intro hT (And.intro ht (And.intro hu hso)))))))))
  clear hused
  have HE : Hid (E.firstP (⟨10, lb, nm, bd, m, n, t, u⟩ : E.Pt) = E.firstP (⟨10, lb, nm, bd, m, n, t, u⟩ : E.Pt)) := hid rfl
  unfold partV
  simp only
  clear ht hu hst hsu hlt hlu hT hso
  go_enter Tryz.func44, Tryz.ntmps44
  go_wp2
  go_ret
  exact ⟨ret_str (by simp [E.firstP]), below_new _⟩

set_option maxHeartbeats 4000000 in
set_option maxRecDepth 100000 in
theorem first_11 (lb nm bd : ByteArray) (m n : Int) (t u : List L.Nd) (hlb : lb.size ≤ 200) (hnm : nm.size ≤ 200) (hbd : bd.size ≤ 200) (hst : Short t) (hsu : Short u) (hlt : t.length ≤ 60) (hlu : u.length ≤ 60) (A1 A2 : Option Addr) (c1 c2 : Nat) (w : World) (hT : Tab w) (ht : Rd w w.heap.size (.slice A1 t.length c1) t) (hu : Rd w w.heap.size (.slice A2 u.length c2) u) (hso : E.sound (⟨11, lb, nm, bd, m, n, t, u⟩ : E.Pt) = true) :
    Calls Tryz.prog 44 #[partV (⟨11, lb, nm, bd, m, n, t, u⟩ : E.Pt) (.slice A1 t.length c1) (.slice A2 u.length c2)] w fun e w' => e = .returned (.string ⟨(E.firstP (⟨11, lb, nm, bd, m, n, t, u⟩ : E.Pt)).toArray⟩) ∧ Below w.heap.size w w' := by
  have hused := And.intro hlb (And.intro hnm (And.intro hbd (And.intro hst (And.intro hsu (And.intro hlt (And.intro hlu (And.intro hT (And.intro ht (And.intro hu hso)))))))))
  clear hused
  have HE : Hid (E.firstP (⟨11, lb, nm, bd, m, n, t, u⟩ : E.Pt) = E.firstP (⟨11, lb, nm, bd, m, n, t, u⟩ : E.Pt)) := hid rfl
  unfold partV
  simp only
  clear ht hu hst hsu hlt hlu hT hso
  go_enter Tryz.func44, Tryz.ntmps44
  go_wp2
  go_ret
  exact ⟨ret_str (by simp [E.firstP]), below_new _⟩

set_option maxHeartbeats 4000000 in
set_option maxRecDepth 100000 in
theorem first_12 (lb nm bd : ByteArray) (m n : Int) (t u : List L.Nd) (hlb : lb.size ≤ 200) (hnm : nm.size ≤ 200) (hbd : bd.size ≤ 200) (hst : Short t) (hsu : Short u) (hlt : t.length ≤ 60) (hlu : u.length ≤ 60) (A1 A2 : Option Addr) (c1 c2 : Nat) (w : World) (hT : Tab w) (ht : Rd w w.heap.size (.slice A1 t.length c1) t) (hu : Rd w w.heap.size (.slice A2 u.length c2) u) (hso : E.sound (⟨12, lb, nm, bd, m, n, t, u⟩ : E.Pt) = true) :
    Calls Tryz.prog 44 #[partV (⟨12, lb, nm, bd, m, n, t, u⟩ : E.Pt) (.slice A1 t.length c1) (.slice A2 u.length c2)] w fun e w' => e = .returned (.string ⟨(E.firstP (⟨12, lb, nm, bd, m, n, t, u⟩ : E.Pt)).toArray⟩) ∧ Below w.heap.size w w' := by
  have hused := And.intro hlb (And.intro hnm (And.intro hbd (And.intro hst (And.intro hsu (And.intro hlt (And.intro hlu (And.intro hT (And.intro ht (And.intro hu hso)))))))))
  clear hused
  have HE : Hid (E.firstP (⟨12, lb, nm, bd, m, n, t, u⟩ : E.Pt) = E.firstP (⟨12, lb, nm, bd, m, n, t, u⟩ : E.Pt)) := hid rfl
  unfold partV
  simp only
  clear ht hu hst hsu hlt hlu hT hso
  go_enter Tryz.func44, Tryz.ntmps44
  go_wp2
  go_ret
  exact ⟨ret_str (by simp [E.firstP]), below_new _⟩

set_option maxHeartbeats 4000000 in
set_option maxRecDepth 100000 in
theorem first_13 (lb nm bd : ByteArray) (m n : Int) (t u : List L.Nd) (hlb : lb.size ≤ 200) (hnm : nm.size ≤ 200) (hbd : bd.size ≤ 200) (hst : Short t) (hsu : Short u) (hlt : t.length ≤ 60) (hlu : u.length ≤ 60) (A1 A2 : Option Addr) (c1 c2 : Nat) (w : World) (hT : Tab w) (ht : Rd w w.heap.size (.slice A1 t.length c1) t) (hu : Rd w w.heap.size (.slice A2 u.length c2) u) (hso : E.sound (⟨13, lb, nm, bd, m, n, t, u⟩ : E.Pt) = true) :
    Calls Tryz.prog 44 #[partV (⟨13, lb, nm, bd, m, n, t, u⟩ : E.Pt) (.slice A1 t.length c1) (.slice A2 u.length c2)] w fun e w' => e = .returned (.string ⟨(E.firstP (⟨13, lb, nm, bd, m, n, t, u⟩ : E.Pt)).toArray⟩) ∧ Below w.heap.size w w' := by
  have hused := And.intro hlb (And.intro hnm (And.intro hbd (And.intro hst (And.intro hsu (And.intro hlt (And.intro hlu (And.intro hT (And.intro ht (And.intro hu hso)))))))))
  clear hused
  have HE : Hid (E.firstP (⟨13, lb, nm, bd, m, n, t, u⟩ : E.Pt) = E.firstP (⟨13, lb, nm, bd, m, n, t, u⟩ : E.Pt)) := hid rfl
  unfold partV
  simp only
  clear ht hu hst hsu hlt hlu hT hso
  go_enter Tryz.func44, Tryz.ntmps44
  go_wp2
  go_ret
  exact ⟨ret_str (by simp [E.firstP]), below_new _⟩

set_option maxHeartbeats 4000000 in
set_option maxRecDepth 100000 in
theorem first_14 (lb nm bd : ByteArray) (m n : Int) (t u : List L.Nd) (hlb : lb.size ≤ 200) (hnm : nm.size ≤ 200) (hbd : bd.size ≤ 200) (hst : Short t) (hsu : Short u) (hlt : t.length ≤ 60) (hlu : u.length ≤ 60) (A1 A2 : Option Addr) (c1 c2 : Nat) (w : World) (hT : Tab w) (ht : Rd w w.heap.size (.slice A1 t.length c1) t) (hu : Rd w w.heap.size (.slice A2 u.length c2) u) (hso : E.sound (⟨14, lb, nm, bd, m, n, t, u⟩ : E.Pt) = true) :
    Calls Tryz.prog 44 #[partV (⟨14, lb, nm, bd, m, n, t, u⟩ : E.Pt) (.slice A1 t.length c1) (.slice A2 u.length c2)] w fun e w' => e = .returned (.string ⟨(E.firstP (⟨14, lb, nm, bd, m, n, t, u⟩ : E.Pt)).toArray⟩) ∧ Below w.heap.size w w' := by
  have hused := And.intro hlb (And.intro hnm (And.intro hbd (And.intro hst (And.intro hsu (And.intro hlt (And.intro hlu (And.intro hT (And.intro ht (And.intro hu hso)))))))))
  clear hused
  have HE : Hid (E.firstP (⟨14, lb, nm, bd, m, n, t, u⟩ : E.Pt) = E.firstP (⟨14, lb, nm, bd, m, n, t, u⟩ : E.Pt)) := hid rfl
  unfold partV
  simp only
  clear ht hu hst hsu hlt hlu hT hso
  go_enter Tryz.func44, Tryz.ntmps44
  go_wp2
  go_ret
  exact ⟨ret_str (by simp [E.firstP]), below_new _⟩

theorem first_any (p : E.Pt) (h : E.Pr1 p) (A1 A2 : Option Addr) (c1 c2 : Nat) (w : World) (hT : Tab w) (ht : Rd w w.heap.size (.slice A1 p.t.length c1) p.t) (hu : Rd w w.heap.size (.slice A2 p.u.length c2) p.u) :
    Calls Tryz.prog 44 #[partV p (.slice A1 p.t.length c1) (.slice A2 p.u.length c2)] w fun e w' => e = .returned (.string ⟨(E.firstP p).toArray⟩) ∧ Below w.heap.size w w' := by
  obtain ⟨hso, hlb, hnm, hbd, hst, hsu, hlt, hlu⟩ := h
  obtain ⟨k, lb, nm, bd, m, n, t, u⟩ := p
  by_cases hk : k < 0 ∨ 15 ≤ k
  · unfold E.sound at hso
    simp only at hso
    rw [if_neg (by omega), if_neg (by omega), if_neg (by omega), if_neg (by omega), if_neg (by omega), if_neg (by omega), if_neg (by omega), if_neg (by omega), if_neg (by omega), if_neg (by omega), if_neg (by omega), if_neg (by omega), if_neg (by omega), if_neg (by omega), if_neg (by omega)] at hso
    cases hso
  rcases (by omega : k = 0 ∨ k = 1 ∨ k = 2 ∨ k = 3 ∨ k = 4 ∨ k = 5 ∨ k = 6 ∨ k = 7 ∨ k = 8 ∨ k = 9 ∨ k = 10 ∨ k = 11 ∨ k = 12 ∨ k = 13 ∨ k = 14) with rfl | rfl | rfl | rfl | rfl | rfl | rfl | rfl | rfl | rfl | rfl | rfl | rfl | rfl | rfl
  · exact first_0 lb nm bd m n t u hlb hnm hbd hst hsu hlt hlu A1 A2 c1 c2 w hT ht hu hso
  · exact first_1 lb nm bd m n t u hlb hnm hbd hst hsu hlt hlu A1 A2 c1 c2 w hT ht hu hso
  · exact first_2 lb nm bd m n t u hlb hnm hbd hst hsu hlt hlu A1 A2 c1 c2 w hT ht hu hso
  · exact first_3 lb nm bd m n t u hlb hnm hbd hst hsu hlt hlu A1 A2 c1 c2 w hT ht hu hso
  · exact first_4 lb nm bd m n t u hlb hnm hbd hst hsu hlt hlu A1 A2 c1 c2 w hT ht hu hso
  · exact first_5 lb nm bd m n t u hlb hnm hbd hst hsu hlt hlu A1 A2 c1 c2 w hT ht hu hso
  · exact first_6 lb nm bd m n t u hlb hnm hbd hst hsu hlt hlu A1 A2 c1 c2 w hT ht hu hso
  · exact first_7 lb nm bd m n t u hlb hnm hbd hst hsu hlt hlu A1 A2 c1 c2 w hT ht hu hso
  · exact first_8 lb nm bd m n t u hlb hnm hbd hst hsu hlt hlu A1 A2 c1 c2 w hT ht hu hso
  · exact first_9 lb nm bd m n t u hlb hnm hbd hst hsu hlt hlu A1 A2 c1 c2 w hT ht hu hso
  · exact first_10 lb nm bd m n t u hlb hnm hbd hst hsu hlt hlu A1 A2 c1 c2 w hT ht hu hso
  · exact first_11 lb nm bd m n t u hlb hnm hbd hst hsu hlt hlu A1 A2 c1 c2 w hT ht hu hso
  · exact first_12 lb nm bd m n t u hlb hnm hbd hst hsu hlt hlu A1 A2 c1 c2 w hT ht hu hso
  · exact first_13 lb nm bd m n t u hlb hnm hbd hst hsu hlt hlu A1 A2 c1 c2 w hT ht hu hso
  · exact first_14 lb nm bd m n t u hlb hnm hbd hst hsu hlt hlu A1 A2 c1 c2 w hT ht hu hso

end Go.Proofs.YthbieinbpfjgkaaGreatDoor
end
