/-
  The texts AsQ3, one behind the other. Conditions: those that each of them names.
-/
import Derived.Test.YthbieinbpfjgkaaGreatDoorMA18
import Derived.Test.YthbieinbpfjgkaaGreatDoorMX1
import Derived.Lib.QuietBelow
import Derived.BigQuiet
section
/-
  The walks of ast.last and ast.between. Conditions: a sound part, names of at most 200 bytes, types of at most 60 nodes; the table of powers of ten.
-/
namespace Go.Proofs.YthbieinbpfjgkaaGreatDoor
open Go.RowKit Go.Sort

set_option maxHeartbeats 4000000 in
set_option maxRecDepth 100000 in
theorem last_0 (lb nm bd : ByteArray) (m n : Int) (t u : List L.Nd) (hlb : lb.size ≤ 200) (hnm : nm.size ≤ 200) (hbd : bd.size ≤ 200) (hst : Short t) (hsu : Short u) (hlt : t.length ≤ 60) (hlu : u.length ≤ 60) (A1 A2 : Option Addr) (c1 c2 : Nat) (w : World) (hT : Tab w) (ht : Rd w w.heap.size (.slice A1 t.length c1) t) (hu : Rd w w.heap.size (.slice A2 u.length c2) u) (hso : E.sound (⟨0, lb, nm, bd, m, n, t, u⟩ : E.Pt) = true) :
    Calls Tryz.prog 46 #[partV (⟨0, lb, nm, bd, m, n, t, u⟩ : E.Pt) (.slice A1 t.length c1) (.slice A2 u.length c2)] w fun e w' => e = .returned (.string ⟨(E.lastP (⟨0, lb, nm, bd, m, n, t, u⟩ : E.Pt)).toArray⟩) ∧ Below w.heap.size w w' := by
  have hused := And.intro hlb (And.intro hnm (And.intro hbd (And.intro hst (And.intro hsu (And.intro hlt (And.intro hlu (And.intro hT (And.intro ht (And.intro hu hso)))))))))
  clear hused
  have HE : Hid (E.lastP (⟨0, lb, nm, bd, m, n, t, u⟩ : E.Pt) = E.lastP (⟨0, lb, nm, bd, m, n, t, u⟩ : E.Pt)) := hid rfl
  unfold partV
  simp only
  clear ht hu hst hsu hlt hlu hT hso
  go_enter Tryz.func46, Tryz.ntmps46
  go_wp2
  go_ret
  exact ⟨ret_str (by simp [E.lastP]), below_new _⟩

set_option maxHeartbeats 4000000 in
set_option maxRecDepth 100000 in
theorem last_1 (lb nm bd : ByteArray) (m n : Int) (t u : List L.Nd) (hlb : lb.size ≤ 200) (hnm : nm.size ≤ 200) (hbd : bd.size ≤ 200) (hst : Short t) (hsu : Short u) (hlt : t.length ≤ 60) (hlu : u.length ≤ 60) (A1 A2 : Option Addr) (c1 c2 : Nat) (w : World) (hT : Tab w) (ht : Rd w w.heap.size (.slice A1 t.length c1) t) (hu : Rd w w.heap.size (.slice A2 u.length c2) u) (hso : E.sound (⟨1, lb, nm, bd, m, n, t, u⟩ : E.Pt) = true) :
    Calls Tryz.prog 46 #[partV (⟨1, lb, nm, bd, m, n, t, u⟩ : E.Pt) (.slice A1 t.length c1) (.slice A2 u.length c2)] w fun e w' => e = .returned (.string ⟨(E.lastP (⟨1, lb, nm, bd, m, n, t, u⟩ : E.Pt)).toArray⟩) ∧ Below w.heap.size w w' := by
  have hused := And.intro hlb (And.intro hnm (And.intro hbd (And.intro hst (And.intro hsu (And.intro hlt (And.intro hlu (And.intro hT (And.intro ht (And.intro hu hso)))))))))
  clear hused
  have HE : Hid (E.lastP (⟨1, lb, nm, bd, m, n, t, u⟩ : E.Pt) = E.lastP (⟨1, lb, nm, bd, m, n, t, u⟩ : E.Pt)) := hid rfl
  unfold partV
  simp only
  clear ht hu hst hsu hlt hlu hT hso
  go_enter Tryz.func46, Tryz.ntmps46
  go_wp2
  go_ret
  exact ⟨ret_str (by simp [E.lastP]), below_new _⟩

set_option maxHeartbeats 4000000 in
set_option maxRecDepth 100000 in
theorem last_2 (lb nm bd : ByteArray) (m n : Int) (t u : List L.Nd) (hlb : lb.size ≤ 200) (hnm : nm.size ≤ 200) (hbd : bd.size ≤ 200) (hst : Short t) (hsu : Short u) (hlt : t.length ≤ 60) (hlu : u.length ≤ 60) (A1 A2 : Option Addr) (c1 c2 : Nat) (w : World) (hT : Tab w) (ht : Rd w w.heap.size (.slice A1 t.length c1) t) (hu : Rd w w.heap.size (.slice A2 u.length c2) u) (hso : E.sound (⟨2, lb, nm, bd, m, n, t, u⟩ : E.Pt) = true) :
    Calls Tryz.prog 46 #[partV (⟨2, lb, nm, bd, m, n, t, u⟩ : E.Pt) (.slice A1 t.length c1) (.slice A2 u.length c2)] w fun e w' => e = .returned (.string ⟨(E.lastP (⟨2, lb, nm, bd, m, n, t, u⟩ : E.Pt)).toArray⟩) ∧ Below w.heap.size w w' := by
  have hused := And.intro hlb (And.intro hnm (And.intro hbd (And.intro hst (And.intro hsu (And.intro hlt (And.intro hlu (And.intro hT (And.intro ht (And.intro hu hso)))))))))
  clear hused
  have HE : Hid (E.lastP (⟨2, lb, nm, bd, m, n, t, u⟩ : E.Pt) = E.lastP (⟨2, lb, nm, bd, m, n, t, u⟩ : E.Pt)) := hid rfl
  unfold partV
  simp only
  clear ht hu hst hsu hlt hlu hT hso
  go_enter Tryz.func46, Tryz.ntmps46
  go_wp2
  go_ret
  exact ⟨ret_str (by simp [E.lastP]), below_new _⟩

set_option maxHeartbeats 4000000 in
set_option maxRecDepth 100000 in
theorem last_3 (lb nm bd : ByteArray) (m n : Int) (t u : List L.Nd) (hlb : lb.size ≤ 200) (hnm : nm.size ≤ 200) (hbd : bd.size ≤ 200) (hst : Short t) (hsu : Short u) (hlt : t.length ≤ 60) (hlu : u.length ≤ 60) (A1 A2 : Option Addr) (c1 c2 : Nat) (w : World) (hT : Tab w) (ht : Rd w w.heap.size (.slice A1 t.length c1) t) (hu : Rd w w.heap.size (.slice A2 u.length c2) u) (hso : E.sound (⟨3, lb, nm, bd, m, n, t, u⟩ : E.Pt) = true) :
    Calls Tryz.prog 46 #[partV (⟨3, lb, nm, bd, m, n, t, u⟩ : E.Pt) (.slice A1 t.length c1) (.slice A2 u.length c2)] w fun e w' => e = .returned (.string ⟨(E.lastP (⟨3, lb, nm, bd, m, n, t, u⟩ : E.Pt)).toArray⟩) ∧ Below w.heap.size w w' := by
  have hused := And.intro hlb (And.intro hnm (And.intro hbd (And.intro hst (And.intro hsu (And.intro hlt (And.intro hlu (And.intro hT (And.intro ht (And.intro hu hso)))))))))
  clear hused
  have HE : Hid (E.lastP (⟨3, lb, nm, bd, m, n, t, u⟩ : E.Pt) = E.lastP (⟨3, lb, nm, bd, m, n, t, u⟩ : E.Pt)) := hid rfl
  unfold partV
  simp only
  clear ht hu hst hsu hlt hlu hT hso
  go_enter Tryz.func46, Tryz.ntmps46
  go_wp2
  go_ret
  exact ⟨ret_str (by simp [E.lastP]), below_new _⟩

set_option maxHeartbeats 4000000 in
set_option maxRecDepth 100000 in
theorem last_4 (lb nm bd : ByteArray) (m n : Int) (t u : List L.Nd) (hlb : lb.size ≤ 200) (hnm : nm.size ≤ 200) (hbd : bd.size ≤ 200) (hst : Short t) (hsu : Short u) (hlt : t.length ≤ 60) (hlu : u.length ≤ 60) (A1 A2 : Option Addr) (c1 c2 : Nat) (w : World) (hT : Tab w) (ht : Rd w w.heap.size (.slice A1 t.length c1) t) (hu : Rd w w.heap.size (.slice A2 u.length c2) u) (hso : E.sound (⟨4, lb, nm, bd, m, n, t, u⟩ : E.Pt) = true) :
    Calls Tryz.prog 46 #[partV (⟨4, lb, nm, bd, m, n, t, u⟩ : E.Pt) (.slice A1 t.length c1) (.slice A2 u.length c2)] w fun e w' => e = .returned (.string ⟨(E.lastP (⟨4, lb, nm, bd, m, n, t, u⟩ : E.Pt)).toArray⟩) ∧ Below w.heap.size w w' := by
  have hused := And.intro hlb (And.intro hnm (And.intro hbd (And.intro hst (And.intro hsu (And.intro hlt (And.intro hlu (And.intro hT (And.intro ht (And.intro hu hso)))))))))
  clear hused
  have HE : Hid (E.lastP (⟨4, lb, nm, bd, m, n, t, u⟩ : E.Pt) = E.lastP (⟨4, lb, nm, bd, m, n, t, u⟩ : E.Pt)) := hid rfl
  unfold partV
  simp only
  clear ht hu hst hsu hlt hlu hT hso
  go_enter Tryz.func46, Tryz.ntmps46
  go_wp2
  go_ret
  exact ⟨ret_str (by simp [E.lastP]), below_new _⟩

set_option maxHeartbeats 4000000 in
set_option maxRecDepth 100000 in
theorem last_5 (lb nm bd : ByteArray) (m n : Int) (t u : List L.Nd) (hlb : lb.size ≤ 200) (hnm : nm.size ≤ 200) (hbd : bd.size ≤ 200) (hst : Short t) (hsu : Short u) (hlt : t.length ≤ 60) (hlu : u.length ≤ 60) (A1 A2 : Option Addr) (c1 c2 : Nat) (w : World) (hT : Tab w) (ht : Rd w w.heap.size (.slice A1 t.length c1) t) (hu : Rd w w.heap.size (.slice A2 u.length c2) u) (hso : E.sound (⟨5, lb, nm, bd, m, n, t, u⟩ : E.Pt) = true) :
    Calls Tryz.prog 46 #[partV (⟨5, lb, nm, bd, m, n, t, u⟩ : E.Pt) (.slice A1 t.length c1) (.slice A2 u.length c2)] w fun e w' => e = .returned (.string ⟨(E.lastP (⟨5, lb, nm, bd, m, n, t, u⟩ : E.Pt)).toArray⟩) ∧ Below w.heap.size w w' := by
  have hused := And.intro hlb (And.intro hnm (And.intro hbd (And.intro hst (And.intro hsu (And.intro hlt (And.intro hlu (And.intro hT (And.intro ht (And.intro hu hso)))))))))
  clear hused
  have HE : Hid (E.lastP (⟨5, lb, nm, bd, m, n, t, u⟩ : E.Pt) = E.lastP (⟨5, lb, nm, bd, m, n, t, u⟩ : E.Pt)) := hid rfl
  unfold partV
  simp only
  clear ht hu hst hsu hlt hlu hT hso
  go_enter Tryz.func46, Tryz.ntmps46
  go_wp2
  go_ret
  exact ⟨ret_str (by simp [E.lastP]), below_new _⟩

set_option maxHeartbeats 4000000 in
set_option maxRecDepth 100000 in
theorem last_6 (lb nm bd : ByteArray) (m n : Int) (t u : List L.Nd) (hlb : lb.size ≤ 200) (hnm : nm.size ≤ 200) (hbd : bd.size ≤ 200) (hst : Short t) (hsu : Short u) (hlt : t.length ≤ 60) (hlu : u.length ≤ 60) (A1 A2 : Option Addr) (c1 c2 : Nat) (w : World) (hT : Tab w) (ht : Rd w w.heap.size (.slice A1 t.length c1) t) (hu : Rd w w.heap.size (.slice A2 u.length c2) u) (hso : E.sound (⟨6, lb, nm, bd, m, n, t, u⟩ : E.Pt) = true) :
    Calls Tryz.prog 46 #[partV (⟨6, lb, nm, bd, m, n, t, u⟩ : E.Pt) (.slice A1 t.length c1) (.slice A2 u.length c2)] w fun e w' => e = .returned (.string ⟨(E.lastP (⟨6, lb, nm, bd, m, n, t, u⟩ : E.Pt)).toArray⟩) ∧ Below w.heap.size w w' := by
  have hused := And.intro hlb (And.intro hnm (And.intro hbd (And.intro hst (And.intro hsu (And.intro hlt (And.intro hlu (And.intro hT (And.intro ht (And.intro hu hso)))))))))
  clear hused
  have HE : Hid (E.lastP (⟨6, lb, nm, bd, m, n, t, u⟩ : E.Pt) = E.lastP (⟨6, lb, nm, bd, m, n, t, u⟩ : E.Pt)) := hid rfl
  unfold partV
  simp only
  clear ht hu hst hsu hlt hlu hT hso
  go_enter Tryz.func46, Tryz.ntmps46
  go_wp2
  go_ret
  exact ⟨ret_str (by simp [E.lastP]), below_new _⟩

set_option maxHeartbeats 4000000 in
set_option maxRecDepth 100000 in
theorem last_7 (lb nm bd : ByteArray) (m n : Int) (t u : List L.Nd) (hlb : lb.size ≤ 200) (hnm : nm.size ≤ 200) (hbd : bd.size ≤ 200) (hst : Short t) (hsu : Short u) (hlt : t.length ≤ 60) (hlu : u.length ≤ 60) (A1 A2 : Option Addr) (c1 c2 : Nat) (w : World) (hT : Tab w) (ht : Rd w w.heap.size (.slice A1 t.length c1) t) (hu : Rd w w.heap.size (.slice A2 u.length c2) u) (hso : E.sound (⟨7, lb, nm, bd, m, n, t, u⟩ : E.Pt) = true) :
    Calls Tryz.prog 46 #[partV (⟨7, lb, nm, bd, m, n, t, u⟩ : E.Pt) (.slice A1 t.length c1) (.slice A2 u.length c2)] w fun e w' => e = .returned (.string ⟨(E.lastP (⟨7, lb, nm, bd, m, n, t, u⟩ : E.Pt)).toArray⟩) ∧ Below w.heap.size w w' := by
  have hused := And.intro hlb (And.intro hnm (And.intro hbd (And.intro hst (And.intro hsu (And.intro hlt (And.intro hlu (And.intro hT (And.intro ht (And.intro hu hso)))))))))
  clear hused
  have HE : Hid (E.lastP (⟨7, lb, nm, bd, m, n, t, u⟩ : E.Pt) = E.lastP (⟨7, lb, nm, bd, m, n, t, u⟩ : E.Pt)) := hid rfl
  unfold partV
  simp only
  clear ht hu hst hsu hlt hlu hT hso
  go_enter Tryz.func46, Tryz.ntmps46
  go_wp2
  go_ret
  exact ⟨ret_str (by simp [E.lastP]), below_new _⟩

set_option maxHeartbeats 4000000 in
set_option maxRecDepth 100000 in
theorem last_8 (lb nm bd : ByteArray) (m n : Int) (t u : List L.Nd) (hlb : lb.size ≤ 200) (hnm : nm.size ≤ 200) (hbd : bd.size ≤ 200) (hst : Short t) (hsu : Short u) (hlt : t.length ≤ 60) (hlu : u.length ≤ 60) (A1 A2 : Option Addr) (c1 c2 : Nat) (w : World) (hT : Tab w) (ht : Rd w w.heap.size (.slice A1 t.length c1) t) (hu : Rd w w.heap.size (.slice A2 u.length c2) u) (hso : E.sound (⟨8, lb, nm, bd, m, n, t, u⟩ : E.Pt) = true) :
    Calls Tryz.prog 46 #[partV (⟨8, lb, nm, bd, m, n, t, u⟩ : E.Pt) (.slice A1 t.length c1) (.slice A2 u.length c2)] w fun e w' => e = .returned (.string ⟨(E.lastP (⟨8, lb, nm, bd, m, n, t, u⟩ : E.Pt)).toArray⟩) ∧ Below w.heap.size w w' := by
  have hused := And.intro hlb (And.intro hnm (And.intro hbd (And.intro hst (And.intro hsu (And.intro hlt (And.intro hlu (And.intro hT (And.intro ht (And.intro hu hso)))))))))
  clear hused
  have HE : Hid (E.lastP (⟨8, lb, nm, bd, m, n, t, u⟩ : E.Pt) = E.lastP (⟨8, lb, nm, bd, m, n, t, u⟩ : E.Pt)) := hid rfl
  unfold partV
  simp only
  clear ht hu hst hsu hlt hlu hT hso
  go_enter Tryz.func46, Tryz.ntmps46
  go_wp2
  go_ret
  exact ⟨ret_str (by simp [E.lastP]), below_new _⟩

set_option maxHeartbeats 4000000 in
set_option maxRecDepth 100000 in
theorem last_9 (lb nm bd : ByteArray) (m n : Int) (t u : List L.Nd) (hlb : lb.size ≤ 200) (hnm : nm.size ≤ 200) (hbd : bd.size ≤ 200) (hst : Short t) (hsu : Short u) (hlt : t.length ≤ 60) (hlu : u.length ≤ 60) (A1 A2 : Option Addr) (c1 c2 : Nat) (w : World) (hT : Tab w) (ht : Rd w w.heap.size (.slice A1 t.length c1) t) (hu : Rd w w.heap.size (.slice A2 u.length c2) u) (hso : E.sound (⟨9, lb, nm, bd, m, n, t, u⟩ : E.Pt) = true) :
    Calls Tryz.prog 46 #[partV (⟨9, lb, nm, bd, m, n, t, u⟩ : E.Pt) (.slice A1 t.length c1) (.slice A2 u.length c2)] w fun e w' => e = .returned (.string ⟨(E.lastP (⟨9, lb, nm, bd, m, n, t, u⟩ : E.Pt)).toArray⟩) ∧ Below w.heap.size w w' := by
  have hused := And.intro hlb (And.intro hnm (And.intro hbd (And.intro hst (And.intro hsu (And.intro hlt (And.intro hlu (And.intro hT (And.intro ht (And.intro hu hso)))))))))
  clear hused
  have HE : Hid (E.lastP (⟨9, lb, nm, bd, m, n, t, u⟩ : E.Pt) = E.lastP (⟨9, lb, nm, bd, m, n, t, u⟩ : E.Pt)) := hid rfl
  unfold partV
  simp only
  clear ht hu hst hsu hlt hlu hT hso
  go_enter Tryz.func46, Tryz.ntmps46
  go_wp2
  go_ret
  exact ⟨ret_str (by simp [E.lastP]), below_new _⟩

set_option maxHeartbeats 4000000 in
set_option maxRecDepth 100000 in
theorem last_10 (lb nm bd : ByteArray) (m n : Int) (t u : List L.Nd) (hlb : lb.size ≤ 200) (hnm : nm.size ≤ 200) (hbd : bd.size ≤ 200) (hst : Short t) (hsu : Short u) (hlt : t.length ≤ 60) (hlu : u.length ≤ 60) (A1 A2 : Option Addr) (c1 c2 : Nat) (w : World) (hT : Tab w) (ht : Rd w w.heap.size (.slice A1 t.length c1) t) (hu : Rd w w.heap.size (.slice A2 u.length c2) u) (hso : E.sound (⟨10, lb, nm, bd, m, n, t, u⟩ : E.Pt) = true) :
    Calls Tryz.prog 46 #[partV (⟨10, lb, nm, bd, m, n, t, u⟩ : E.Pt) (.slice A1 t.length c1) (.slice A2 u.length c2)] w fun e w' => e = .returned (.string ⟨(E.lastP (⟨10, lb, nm, bd, m, n, t, u⟩ : E.Pt)).toArray⟩) ∧ Below w.heap.size w w' := by
  have hused := And.intro hlb (And.intro hnm (And.intro hbd (And.intro hst (And.intro hsu (And.intro hlt (And.intro hlu (And.intro hT (And.intro ht (And.intro hu hso)))))))))
  clear hused
  have HE : Hid (E.lastP (⟨10, lb, nm, bd, m, n, t, u⟩ : E.Pt) = E.lastP (⟨10, lb, nm, bd, m, n, t, u⟩ : E.Pt)) := hid rfl
  unfold partV
  simp only
  clear ht hu hst hsu hlt hlu hT hso
  go_enter Tryz.func46, Tryz.ntmps46
  go_wp2
  go_ret
  exact ⟨ret_str (by simp [E.lastP]), below_new _⟩

set_option maxHeartbeats 4000000 in
set_option maxRecDepth 100000 in
theorem last_11 (lb nm bd : ByteArray) (m n : Int) (t u : List L.Nd) (hlb : lb.size ≤ 200) (hnm : nm.size ≤ 200) (hbd : bd.size ≤ 200) (hst : Short t) (hsu : Short u) (hlt : t.length ≤ 60) (hlu : u.length ≤ 60) (A1 A2 : Option Addr) (c1 c2 : Nat) (w : World) (hT : Tab w) (ht : Rd w w.heap.size (.slice A1 t.length c1) t) (hu : Rd w w.heap.size (.slice A2 u.length c2) u) (hso : E.sound (⟨11, lb, nm, bd, m, n, t, u⟩ : E.Pt) = true) :
    Calls Tryz.prog 46 #[partV (⟨11, lb, nm, bd, m, n, t, u⟩ : E.Pt) (.slice A1 t.length c1) (.slice A2 u.length c2)] w fun e w' => e = .returned (.string ⟨(E.lastP (⟨11, lb, nm, bd, m, n, t, u⟩ : E.Pt)).toArray⟩) ∧ Below w.heap.size w w' := by
  have hused := And.intro hlb (And.intro hnm (And.intro hbd (And.intro hst (And.intro hsu (And.intro hlt (And.intro hlu (And.intro hT (And.intro ht (And.intro hu hso)))))))))
  clear hused
  have HE : Hid (E.lastP (⟨11, lb, nm, bd, m, n, t, u⟩ : E.Pt) = E.lastP (⟨11, lb, nm, bd, m, n, t, u⟩ : E.Pt)) := hid rfl
  unfold partV
  simp only
  clear ht hu hst hsu hlt hlu hT hso
  go_enter Tryz.func46, Tryz.ntmps46
  go_wp2
  go_ret
  exact ⟨ret_str (by simp [E.lastP]), below_new _⟩

set_option maxHeartbeats 4000000 in
set_option maxRecDepth 100000 in
theorem last_12 (lb nm bd : ByteArray) (m n : Int) (t u : List L.Nd) (hlb : lb.size ≤ 200) (hnm : nm.size ≤ 200) (hbd : bd.size ≤ 200) (hst : Short t) (hsu : Short u) (hlt : t.length ≤ 60) (hlu : u.length ≤ 60) (A1 A2 : Option Addr) (c1 c2 : Nat) (w : World) (hT : Tab w) (ht : Rd w w.heap.size (.slice A1 t.length c1) t) (hu : Rd w w.heap.size (.slice A2 u.length c2) u) (hso : E.sound (⟨12, lb, nm, bd, m, n, t, u⟩ : E.Pt) = true) :
    Calls Tryz.prog 46 #[partV (⟨12, lb, nm, bd, m, n, t, u⟩ : E.Pt) (.slice A1 t.length c1) (.slice A2 u.length c2)] w fun e w' => e = .returned (.string ⟨(E.lastP (⟨12, lb, nm, bd, m, n, t, u⟩ : E.Pt)).toArray⟩) ∧ Below w.heap.size w w' := by
  have hused := And.intro hlb (And.intro hnm (And.intro hbd (And.intro hst (And.intro hsu (And.intro hlt (And.intro hlu (And.intro hT (And.intro ht (And.intro hu hso)))))))))
  clear hused
  obtain ⟨-, h⟩ := (Bool.and_eq_true _ _).mp (show (nameB 65 90 nm && (E.plain t && E.only _ _)) = true from hso)
  have hpt := ((Bool.and_eq_true _ _).mp h).1
  have HE : Hid (E.lastP (⟨12, lb, nm, bd, m, n, t, u⟩ : E.Pt) = E.lastP (⟨12, lb, nm, bd, m, n, t, u⟩ : E.Pt)) := hid rfl
  unfold partV
  simp only
  obtain ⟨w0, hw0⟩ : ∃ w0, w0 = w.alloc (.cells #[.int .i64 12, .string lb, .string nm, .string bd, .int .i64 m, .int .i64 n, .slice A1 t.length c1, .slice A2 u.length c2] 39) := ⟨_, rfl⟩
  have hB0 : Below w.heap.size w w0 := by rw [hw0]; exact below_new _
  have hN : w0.heap[w.heap.size]? = some (.cells #[.int .i64 12, .string lb, .string nm, .string bd, .int .i64 m, .int .i64 n, .slice A1 t.length c1, .slice A2 u.length c2] 39 (0, 0)) := by rw [hw0]; exact heap_alloc_new w _
  have HB := hid hB0
  have HC := hid (tprint_any t hpt hst (.slice A1 t.length c1) w0 (ht.below hB0).size (hT.grows hB0))
  have hD := tyP_len hpt hst hlt
  have hDs : (⟨(L.tyP t).toArray⟩ : ByteArray).size ≤ 18000 := by show ((L.tyP t).toArray).size ≤ 18000; rw [List.size_toArray]; omega
  have HDE : Hid ((⟨(L.tyP t).toArray⟩ : ByteArray).data.toList = L.tyP t) := hid (by simp)
  clear hN hB0 hD hpt h
  clear ht hu hst hsu hlt hlu hT hso
  generalize (⟨(L.tyP t).toArray⟩ : ByteArray) = D at *
  go_enter Tryz.func46, Tryz.ntmps46
  go_wp2_with fail
  rw [← hw0]
  clear hw0
  refine (HC.out).mono ?_
  rintro e w1 ⟨rfl, hb1⟩
  go_wp2
  go_ret
  exact ⟨ret_str (by rw [E.lastP]; simp [HDE.out]), HB.out.trans (hb1.mono HB.out.size)⟩

set_option maxHeartbeats 4000000 in
set_option maxRecDepth 100000 in
theorem last_13 (lb nm bd : ByteArray) (m n : Int) (t u : List L.Nd) (hlb : lb.size ≤ 200) (hnm : nm.size ≤ 200) (hbd : bd.size ≤ 200) (hst : Short t) (hsu : Short u) (hlt : t.length ≤ 60) (hlu : u.length ≤ 60) (A1 A2 : Option Addr) (c1 c2 : Nat) (w : World) (hT : Tab w) (ht : Rd w w.heap.size (.slice A1 t.length c1) t) (hu : Rd w w.heap.size (.slice A2 u.length c2) u) (hso : E.sound (⟨13, lb, nm, bd, m, n, t, u⟩ : E.Pt) = true) :
    Calls Tryz.prog 46 #[partV (⟨13, lb, nm, bd, m, n, t, u⟩ : E.Pt) (.slice A1 t.length c1) (.slice A2 u.length c2)] w fun e w' => e = .returned (.string ⟨(E.lastP (⟨13, lb, nm, bd, m, n, t, u⟩ : E.Pt)).toArray⟩) ∧ Below w.heap.size w w' := by
  have hused := And.intro hlb (And.intro hnm (And.intro hbd (And.intro hst (And.intro hsu (And.intro hlt (And.intro hlu (And.intro hT (And.intro ht (And.intro hu hso)))))))))
  clear hused
  have hpt := ((Bool.and_eq_true _ _).mp (show (E.plain t && E.only _ _) = true from hso)).1
  have HE : Hid (E.lastP (⟨13, lb, nm, bd, m, n, t, u⟩ : E.Pt) = E.lastP (⟨13, lb, nm, bd, m, n, t, u⟩ : E.Pt)) := hid rfl
  unfold partV
  simp only
  obtain ⟨w0, hw0⟩ : ∃ w0, w0 = w.alloc (.cells #[.int .i64 13, .string lb, .string nm, .string bd, .int .i64 m, .int .i64 n, .slice A1 t.length c1, .slice A2 u.length c2] 39) := ⟨_, rfl⟩
  have hB0 : Below w.heap.size w w0 := by rw [hw0]; exact below_new _
  have hN : w0.heap[w.heap.size]? = some (.cells #[.int .i64 13, .string lb, .string nm, .string bd, .int .i64 m, .int .i64 n, .slice A1 t.length c1, .slice A2 u.length c2] 39 (0, 0)) := by rw [hw0]; exact heap_alloc_new w _
  have HB := hid hB0
  have HC := hid (tprint_any t hpt hst (.slice A1 t.length c1) w0 (ht.below hB0).size (hT.grows hB0))
  have hD := tyP_len hpt hst hlt
  have hDs : (⟨(L.tyP t).toArray⟩ : ByteArray).size ≤ 18000 := by show ((L.tyP t).toArray).size ≤ 18000; rw [List.size_toArray]; omega
  have HDE : Hid ((⟨(L.tyP t).toArray⟩ : ByteArray).data.toList = L.tyP t) := hid (by simp)
  clear hN hB0 hD hpt
  clear ht hu hst hsu hlt hlu hT hso
  generalize (⟨(L.tyP t).toArray⟩ : ByteArray) = D at *
  go_enter Tryz.func46, Tryz.ntmps46
  go_wp2_with fail
  rw [← hw0]
  clear hw0
  refine (HC.out).mono ?_
  rintro e w1 ⟨rfl, hb1⟩
  go_wp2
  go_ret
  exact ⟨ret_str (by rw [E.lastP]; simp [HDE.out]), HB.out.trans (hb1.mono HB.out.size)⟩

set_option maxHeartbeats 4000000 in
set_option maxRecDepth 100000 in
theorem last_14 (lb nm bd : ByteArray) (m n : Int) (t u : List L.Nd) (hlb : lb.size ≤ 200) (hnm : nm.size ≤ 200) (hbd : bd.size ≤ 200) (hst : Short t) (hsu : Short u) (hlt : t.length ≤ 60) (hlu : u.length ≤ 60) (A1 A2 : Option Addr) (c1 c2 : Nat) (w : World) (hT : Tab w) (ht : Rd w w.heap.size (.slice A1 t.length c1) t) (hu : Rd w w.heap.size (.slice A2 u.length c2) u) (hso : E.sound (⟨14, lb, nm, bd, m, n, t, u⟩ : E.Pt) = true) :
    Calls Tryz.prog 46 #[partV (⟨14, lb, nm, bd, m, n, t, u⟩ : E.Pt) (.slice A1 t.length c1) (.slice A2 u.length c2)] w fun e w' => e = .returned (.string ⟨(E.lastP (⟨14, lb, nm, bd, m, n, t, u⟩ : E.Pt)).toArray⟩) ∧ Below w.heap.size w w' := by
  have hused := And.intro hlb (And.intro hnm (And.intro hbd (And.intro hst (And.intro hsu (And.intro hlt (And.intro hlu (And.intro hT (And.intro ht (And.intro hu hso)))))))))
  clear hused
  obtain ⟨hpt, h⟩ := (Bool.and_eq_true _ _).mp (show (E.plain t && (E.plain u && (decide (0 ≤ n) && E.only _ _))) = true from hso)
  have hpu := ((Bool.and_eq_true _ _).mp h).1
  have HE : Hid (E.lastP (⟨14, lb, nm, bd, m, n, t, u⟩ : E.Pt) = E.lastP (⟨14, lb, nm, bd, m, n, t, u⟩ : E.Pt)) := hid rfl
  unfold partV
  simp only
  obtain ⟨w0, hw0⟩ : ∃ w0, w0 = w.alloc (.cells #[.int .i64 14, .string lb, .string nm, .string bd, .int .i64 m, .int .i64 n, .slice A1 t.length c1, .slice A2 u.length c2] 39) := ⟨_, rfl⟩
  have hB0 : Below w.heap.size w w0 := by rw [hw0]; exact below_new _
  have hN : w0.heap[w.heap.size]? = some (.cells #[.int .i64 14, .string lb, .string nm, .string bd, .int .i64 m, .int .i64 n, .slice A1 t.length c1, .slice A2 u.length c2] 39 (0, 0)) := by rw [hw0]; exact heap_alloc_new w _
  have HB := hid hB0
  have cM := fun d os => Calls.regrown_of (tprint_any t hpt hst (.slice A1 t.length c1) (grow (redrawn w0 d) os) ((ht.below hB0).below (below_regrown w0 d os)).size ((hT.grows hB0).grows (below_regrown w0 d os)))
  have cP := fun d os => Calls.regrown_of (tprint_any u hpu hsu (.slice A2 u.length c2) (grow (redrawn w0 d) os) ((hu.below hB0).below (below_regrown w0 d os)).size ((hT.grows hB0).grows (below_regrown w0 d os)))
  have CM := hid cM
  have CP := hid cP
  have hD := tyP_len hpt hst hlt
  have hF := tyP_len hpu hsu hlu
  have hDs : (⟨(L.tyP t).toArray⟩ : ByteArray).size ≤ 18000 := by show ((L.tyP t).toArray).size ≤ 18000; rw [List.size_toArray]; omega
  have HDE : Hid ((⟨(L.tyP t).toArray⟩ : ByteArray).data.toList = L.tyP t) := hid (by simp)
  have hFs : (⟨(L.tyP u).toArray⟩ : ByteArray).size ≤ 18000 := by show ((L.tyP u).toArray).size ≤ 18000; rw [List.size_toArray]; omega
  have HFE : Hid ((⟨(L.tyP u).toArray⟩ : ByteArray).data.toList = L.tyP u) := hid (by simp)
  have cN0 := Lib.cell_of_heap hN 0
  have cN1 := Lib.cell_of_heap hN 1
  have cN2 := Lib.cell_of_heap hN 2
  have cN3 := Lib.cell_of_heap hN 3
  have cN4 := Lib.cell_of_heap hN 4
  have cN5 := Lib.cell_of_heap hN 5
  have cN6 := Lib.cell_of_heap hN 6
  have cN7 := Lib.cell_of_heap hN 7
  simp only [List.getElem?_toArray] at cN0 cN1 cN2 cN3 cN4 cN5 cN6 cN7
  clear hN hB0 hD hF cM cP hpt hpu h
  clear ht hu hst hsu hlt hlu hT hso
  obtain ⟨D, hDg⟩ : ∃ D : ByteArray, D = ⟨(L.tyP t).toArray⟩ := ⟨_, rfl⟩
  obtain ⟨F, hFg⟩ : ∃ D : ByteArray, D = ⟨(L.tyP u).toArray⟩ := ⟨_, rfl⟩
  rw [← hDg] at CM hDs HDE
  rw [← hFg] at CP hFs HFE
  clear hDg hFg
  go_enter Tryz.func46, Tryz.ntmps46
  go_wp2
  rw [← hw0]
  clear hw0
  have k0 := cell_regrown cN0
  have k1 := cell_regrown cN1
  have k2 := cell_regrown cN2
  have k3 := cell_regrown cN3
  have k4 := cell_regrown cN4
  have k5 := cell_regrown cN5
  have k6 := cell_regrown cN6
  have k7 := cell_regrown cN7
  clear cN0 cN1 cN2 cN3 cN4 cN5 cN6 cN7
  refine wp_region_quiet_below (by kernel_rfl) (by kernel_rfl) ?_
  repeat (go_big_quiet_step (fail))
  go_big_quiet_step (exact CM.out _ _)
  repeat (go_big_quiet_step (fail))
  go_big_quiet_step (exact CP.out _ _)
  repeat (go_big_quiet_step (fail))
  refine wpQuiet_nil ?_
  intro _ hw'
  obtain ⟨⟨nq, osq⟩, hw''⟩ := hw'
  subst hw''
  go_wp2
  go_ret
  exact ⟨ret_str (by rw [E.lastP]; simp [HDE.out, HFE.out]), HB.out.trans ((below_regrown w0 nq osq).mono HB.out.size)⟩

theorem last_any (p : E.Pt) (h : E.Pr1 p) (A1 A2 : Option Addr) (c1 c2 : Nat) (w : World) (hT : Tab w) (ht : Rd w w.heap.size (.slice A1 p.t.length c1) p.t) (hu : Rd w w.heap.size (.slice A2 p.u.length c2) p.u) :
    Calls Tryz.prog 46 #[partV p (.slice A1 p.t.length c1) (.slice A2 p.u.length c2)] w fun e w' => e = .returned (.string ⟨(E.lastP p).toArray⟩) ∧ Below w.heap.size w w' := by
  obtain ⟨hso, hlb, hnm, hbd, hst, hsu, hlt, hlu⟩ := h
  obtain ⟨k, lb, nm, bd, m, n, t, u⟩ := p
  by_cases hk : k < 0 ∨ 15 ≤ k
  · unfold E.sound at hso
    simp only at hso
    rw [if_neg (by omega), if_neg (by omega), if_neg (by omega), if_neg (by omega), if_neg (by omega), if_neg (by omega), if_neg (by omega), if_neg (by omega), if_neg (by omega), if_neg (by omega), if_neg (by omega), if_neg (by omega), if_neg (by omega), if_neg (by omega), if_neg (by omega)] at hso
    cases hso
  rcases (by omega : k = 0 ∨ k = 1 ∨ k = 2 ∨ k = 3 ∨ k = 4 ∨ k = 5 ∨ k = 6 ∨ k = 7 ∨ k = 8 ∨ k = 9 ∨ k = 10 ∨ k = 11 ∨ k = 12 ∨ k = 13 ∨ k = 14) with rfl | rfl | rfl | rfl | rfl | rfl | rfl | rfl | rfl | rfl | rfl | rfl | rfl | rfl | rfl
  · exact last_0 lb nm bd m n t u hlb hnm hbd hst hsu hlt hlu A1 A2 c1 c2 w hT ht hu hso
  · exact last_1 lb nm bd m n t u hlb hnm hbd hst hsu hlt hlu A1 A2 c1 c2 w hT ht hu hso
  · exact last_2 lb nm bd m n t u hlb hnm hbd hst hsu hlt hlu A1 A2 c1 c2 w hT ht hu hso
  · exact last_3 lb nm bd m n t u hlb hnm hbd hst hsu hlt hlu A1 A2 c1 c2 w hT ht hu hso
  · exact last_4 lb nm bd m n t u hlb hnm hbd hst hsu hlt hlu A1 A2 c1 c2 w hT ht hu hso
  · exact last_5 lb nm bd m n t u hlb hnm hbd hst hsu hlt hlu A1 A2 c1 c2 w hT ht hu hso
  · exact last_6 lb nm bd m n t u hlb hnm hbd hst hsu hlt hlu A1 A2 c1 c2 w hT ht hu hso
  · exact last_7 lb nm bd m n t u hlb hnm hbd hst hsu hlt hlu A1 A2 c1 c2 w hT ht hu hso
  · exact last_8 lb nm bd m n t u hlb hnm hbd hst hsu hlt hlu A1 A2 c1 c2 w hT ht hu hso
  · exact last_9 lb nm bd m n t u hlb hnm hbd hst hsu hlt hlu A1 A2 c1 c2 w hT ht hu hso
  · exact last_10 lb nm bd m n t u hlb hnm hbd hst hsu hlt hlu A1 A2 c1 c2 w hT ht hu hso
  · exact last_11 lb nm bd m n t u hlb hnm hbd hst hsu hlt hlu A1 A2 c1 c2 w hT ht hu hso
  · exact last_12 lb nm bd m n t u hlb hnm hbd hst hsu hlt hlu A1 A2 c1 c2 w hT ht hu hso
  · exact last_13 lb nm bd m n t u hlb hnm hbd hst hsu hlt hlu A1 A2 c1 c2 w hT ht hu hso
  · exact last_14 lb nm bd m n t u hlb hnm hbd hst hsu hlt hlu A1 A2 c1 c2 w hT ht hu hso

set_option maxHeartbeats 4000000 in
set_option maxRecDepth 100000 in
theorem between_any (p : E.Pt) (hk0 : 0 ≤ p.kind ∧ p.kind < 15) (hnm : p.name.size ≤ 200) (k : Nat) (hk : 0 < k ∧ k ≤ 1000) (vt vu : Value) (w : World) :
    Calls Tryz.prog 45 #[partV p vt vu, .int .i64 k] w fun e w' => e = .returned (.string ⟨(E.betwP p k).toArray⟩) ∧ Below w.heap.size w w' := by
  obtain ⟨K, lb, nm, bd, m, n, t, u⟩ := p
  unfold partV
  simp only at *
  rcases (by omega : K = 0 ∨ K = 1 ∨ K = 2 ∨ K = 3 ∨ K = 4 ∨ K = 5 ∨ K = 6 ∨ K = 7 ∨ K = 8 ∨ K = 9 ∨ K = 10 ∨ K = 11 ∨ K = 12 ∨ K = 13 ∨ K = 14) with rfl | rfl | rfl | rfl | rfl | rfl | rfl | rfl | rfl | rfl | rfl | rfl | rfl | rfl | rfl
  · clear hk hk0
    go_enter Tryz.func45, Tryz.ntmps45
    go_wp2
    go_ret
    exact ⟨ret_str (by simp [E.betwP]), below_new _⟩
  · clear hk hk0
    go_enter Tryz.func45, Tryz.ntmps45
    go_wp2
    go_ret
    exact ⟨ret_str (by simp [E.betwP]), below_new _⟩
  · clear hk hk0
    go_enter Tryz.func45, Tryz.ntmps45
    go_wp2
    go_ret
    exact ⟨ret_str (by simp [E.betwP]), below_new _⟩
  · clear hk hk0
    go_enter Tryz.func45, Tryz.ntmps45
    go_wp2
    go_ret
    exact ⟨ret_str (by simp [E.betwP]), below_new _⟩
  · clear hk hk0
    go_enter Tryz.func45, Tryz.ntmps45
    go_wp2
    go_ret
    exact ⟨ret_str (by simp [E.betwP]), below_new _⟩
  · clear hk hk0
    go_enter Tryz.func45, Tryz.ntmps45
    go_wp2
    go_ret
    exact ⟨ret_str (by simp [E.betwP]), below_new _⟩
  · by_cases h1 : k = 1
    · subst h1
      clear hk hk0
      go_enter Tryz.func45, Tryz.ntmps45
      go_wp2
      go_ret
      exact ⟨ret_str (by simp [E.betwP]), below_new _⟩
    · have g1 : ((k : Int) == 1) = false := by simp; omega
      have HE : Hid (¬ k = 1) := hid h1
      clear hk hk0 h1
      go_enter Tryz.func45, Tryz.ntmps45
      go_wp2
      go_ret
      exact ⟨ret_str (by simp [E.betwP, HE.out]), below_new _⟩
  · by_cases h1 : k = 1
    · subst h1
      clear hk hk0
      go_enter Tryz.func45, Tryz.ntmps45
      go_wp2
      go_ret
      exact ⟨ret_str (by simp [E.betwP]), below_new _⟩
    · have g1 : ((k : Int) == 1) = false := by simp; omega
      have HE : Hid (¬ k = 1) := hid h1
      clear hk hk0 h1
      go_enter Tryz.func45, Tryz.ntmps45
      go_wp2
      go_ret
      exact ⟨ret_str (by simp [E.betwP, HE.out]), below_new _⟩
  · clear hk hk0
    go_enter Tryz.func45, Tryz.ntmps45
    go_wp2
    go_ret
    exact ⟨ret_str (by simp [E.betwP]), below_new _⟩
  · clear hk hk0
    go_enter Tryz.func45, Tryz.ntmps45
    go_wp2
    go_ret
    exact ⟨ret_str (by simp [E.betwP]), below_new _⟩
  · clear hk hk0
    go_enter Tryz.func45, Tryz.ntmps45
    go_wp2
    go_ret
    exact ⟨ret_str (by simp [E.betwP]), below_new _⟩
  · clear hk hk0
    go_enter Tryz.func45, Tryz.ntmps45
    go_wp2
    go_ret
    exact ⟨ret_str (by simp [E.betwP]), below_new _⟩
  · clear hk hk0
    go_enter Tryz.func45, Tryz.ntmps45
    go_wp2
    go_ret
    exact ⟨ret_str (by simp [E.betwP]), below_new _⟩
  · clear hk hk0
    go_enter Tryz.func45, Tryz.ntmps45
    go_wp2
    go_ret
    exact ⟨ret_str (by simp [E.betwP]), below_new _⟩
  · clear hk hk0
    go_enter Tryz.func45, Tryz.ntmps45
    go_wp2
    go_ret
    exact ⟨ret_str (by simp [E.betwP]), below_new _⟩

end Go.Proofs.YthbieinbpfjgkaaGreatDoor
end
