/-
  The law's plain, over a row of types. Condition: slices that read as nodes, at most ten of them.
-/
import Derived.Test.YtpndbgdimkpfjaaPvP
namespace Go.Proofs.Ytpndbgdimkpfjaa
open Go.RowKit Go.Sort

def allG (ts : List (Value × List L.Nd)) : Bool := ts.all fun t => L.good 60 t.2

theorem all_step {ts : List (Value × List L.Nd)} {k : Nat} (h : k < ts.length) : allG (ts.drop k) = (L.good 60 ts[k].2 && allG (ts.drop (k + 1))) := by
  rw [List.drop_eq_getElem_cons h]
  rfl

set_option maxHeartbeats 2000000 in
set_option maxRecDepth 100000 in
theorem plain_many (ts : List (Value × List L.Nd)) (w : World) (G cap : Nat) (hG : G < w.heap.size) (hn : ts.length ≤ 10) (hR : ∀ t ∈ ts, Rd w w.heap.size t.1 t.2) (hc : ∀ (j : Nat) (h : j < ts.length), w.cell? ⟨G, j, none⟩ = some ts[j].1) :
    Calls Try.prog 11 #[.slice (some ⟨G, 0, none⟩) ts.length cap] w fun e w' => e = .returned (.bool (allG ts)) ∧ Below w.heap.size w w' := by
  have HR := hid hR
  have HC := hid hc
  clear hR hc
  go_enter Try.func11, Try.ntmps11
  go_wp2_with fail
  go_loopw [3] (fun vi wr => ∃ k : Nat, vi = .int .i64 k ∧ k ≤ ts.length ∧ Below w.heap.size w wr ∧ Hid (allG (ts.drop k) = allG ts)) (fun vi _ => ts.length - (intOf vi).toNat)
  case atStart => exact ⟨0, rfl, by omega, Below.refl _ _, hid rfl⟩
  case round =>
    obtain ⟨k, rfl, hk, hB, hS⟩ := hrel
    by_cases hlt : k < ts.length
    · have hm : ts[k] ∈ ts := List.getElem_mem hlt
      have hr := ((HR.out _ hm).below hB).mono hB.size
      have c0 : wr.cell? ⟨G, k, none⟩ = some ts[k].1 := (hB.cell (p := ⟨G, k, none⟩) hG).trans (HC.out k hlt)
      have hst : Hid (allG (ts.drop k) = (L.good 60 ts[k].2 && allG (ts.drop (k + 1)))) := hid (all_step hlt)
      clear hm
      generalize ts[k] = T at *
      obtain ⟨v, l⟩ := T
      simp only at hr c0
      have hp := plain7_any l 60 (by omega) v wr hr
      rw [show (((60 : Nat) : Int)) = 60 from rfl] at hp
      obtain ⟨A, cp, rfl, -⟩ := hr
      cases hg : L.good 60 l with
      | false =>
        rw [hg] at hp
        have HP := hid hp
        have HZ : Hid (allG ts = false) := hid (by rw [← hS.out, hst.out]; simp [hg])
        clear hp hg
        go_wp2_with fail
        refine (HP.out).mono ?_
        rintro e w1 ⟨rfl, h1⟩
        go_wp2
        go_ret
        exact ⟨ret_bool HZ.out.symm, hB.trans (h1.mono hB.size)⟩
      | true =>
        rw [hg] at hp
        have HP := hid hp
        have HZ : Hid (allG (ts.drop (k + 1)) = allG ts) := hid (by rw [← hS.out, hst.out]; simp [hg])
        clear hp hg
        go_wp2_with fail
        refine (HP.out).mono ?_
        rintro e w1 ⟨rfl, h1⟩
        go_wp2
        go_roundw
        case rel => exact ⟨k + 1, by go_num, by omega, hB.trans (h1.mono hB.size), HZ⟩
        case measure => simp [intOf]; omega
    · have HZ : Hid (allG ts = true) := hid (by rw [← hS.out, List.drop_eq_nil_of_le (by omega)]; rfl)
      go_wp2
      go_ret
      exact ⟨ret_bool HZ.out.symm, hB⟩

end Go.Proofs.Ytpndbgdimkpfjaa
