/-
  The texts AsQ1, one behind the other. Conditions: those that each of them names.
-/
import Derived.Test.YthbieinbpfjgkaaGreatDoorMA8
import Derived.Test.YthbieinbpfjgkaaGreatDoorMB4
import Derived.Test.YthbieinbpfjgkaaGreatDoorMA3
import Derived.Lib.QuietBelow
import Derived.BigQuiet
section
/-
  The walks of ast.typed and ast.literal, and ty.Print at a plain type. Conditions: plain types of at most 60 nodes, labels, names of at most 200 bytes; the table of powers of ten.
-/
namespace Go.Proofs.YthbieinbpfjgkaaGreatDoor
open Go.RowKit Go.Sort

theorem tprint_any (t : List L.Nd) (hp : E.plain t = true) (hS : Short t) (v : Value) (w : World) (hx : Rd w w.heap.size v t) (hT : Tab w) :
    Calls Tryz.prog 75 #[v] w fun e w' => e = .returned (.string ⟨(L.tyP t).toArray⟩) ∧ Below w.heap.size w w' := by
  obtain ⟨x, ks, rfl, hl, -, hok, -⟩ := (L.rightL_iff _).1 ((Bool.and_eq_true _ _).mp hp).1
  rw [L.tyP_eq hok]
  exact print_any x ks hok hS (by simpa using hl) v w hx hT

theorem tyP_len {t : List L.Nd} (hp : E.plain t = true) (hS : Short t) (h60 : t.length ≤ 60) : (L.tyP t).length ≤ 18000 := by
  obtain ⟨x, ks, rfl, hl, -, hok, -⟩ := (L.rightL_iff _).1 ((Bool.and_eq_true _ _).mp hp).1
  rw [L.tyP_eq hok]
  have := prT_len (p := false) hok hS
  simp at h60
  omega

theorem ret_str {S : ByteArray} {l : List UInt8} (h : S.data.toList = l) : (.returned (.string S) : Ending) = .returned (.string ⟨l.toArray⟩) := by
  subst h
  rfl

set_option maxHeartbeats 4000000 in
set_option maxRecDepth 100000 in
theorem typed_any (p : E.Pt) (hp : E.plain p.t = true) (hS : Short p.t) (hl : p.t.length ≤ 60) (hb : p.bind.size ≤ 200) (A1 A2 : Option Addr) (c1 c2 : Nat) (w : World) (hT : Tab w) (ht : Rd w w.heap.size (.slice A1 p.t.length c1) p.t) :
    Calls Tryz.prog 74 #[partV p (.slice A1 p.t.length c1) (.slice A2 p.u.length c2)] w fun e w' => e = .returned (.string ⟨(E.typedP p).toArray⟩) ∧ Below w.heap.size w w' := by
  have hD := tyP_len hp hS hl
  obtain ⟨k1, s1, s2, s3, n1, n2, t1, t2⟩ := p
  unfold partV E.typedP
  simp only at *
  obtain ⟨O, hO⟩ : ∃ O : Array Value, O = #[.int .i64 k1, .string s1, .string s2, .string s3, .int .i64 n1, .int .i64 n2, .slice A1 t1.length c1, .slice A2 t2.length c2] := ⟨_, rfl⟩
  obtain ⟨w0, hw0⟩ : ∃ w0, w0 = w.alloc (.cells O 39) := ⟨_, rfl⟩
  have hB0 : Below w.heap.size w w0 := by rw [hw0]; exact below_new _
  have hN : w0.heap[w.heap.size]? = some (.cells O 39 (0, 0)) := by rw [hw0]; exact heap_alloc_new w _
  have cM := fun d os => Calls.regrown_of (tprint_any t1 hp hS (.slice A1 t1.length c1) (grow (redrawn w0 d) os) ((ht.below hB0).below (below_regrown w0 d os)).size ((hT.grows hB0).grows (below_regrown w0 d os)))
  have CM := hid cM
  have cN3 := Lib.cell_of_heap hN 3
  have cN6 := Lib.cell_of_heap hN 6
  subst hO
  simp only [List.getElem?_toArray] at cN3 cN6
  have HW := hid hw0
  have HB := hid hB0
  have hDs : (⟨(L.tyP t1).toArray⟩ : ByteArray).size ≤ 18000 := by show (L.tyP t1).toArray.size ≤ 18000; simpa using hD
  have HDE : Hid ((⟨(L.tyP t1).toArray⟩ : ByteArray).data.toList = L.tyP t1) := hid (by simp)
  clear hN hT ht hp hS cM hB0 hD
  generalize (⟨(L.tyP t1).toArray⟩ : ByteArray) = D at *
  go_enter Tryz.func74, Tryz.ntmps74
  go_wp2
  rw [← hw0]
  clear hw0
  have k3 := cell_regrown cN3
  have k6 := cell_regrown cN6
  clear cN3 cN6
  refine wp_region_quiet_below (by kernel_rfl) (by kernel_rfl) ?_
  repeat (go_big_quiet_step (exact CM.out _ _))
  refine wpQuiet_nil ?_
  intro _ hw'
  obtain ⟨⟨nq, osq⟩, hw''⟩ := hw'
  subst hw''
  go_wp2
  go_ret
  exact ⟨ret_str (by simp [HDE.out]), HB.out.trans ((below_regrown w0 nq osq).mono HB.out.size)⟩

end Go.Proofs.YthbieinbpfjgkaaGreatDoor
end
