/-
  The walk of container/heap's Push over graph's queue. Conditions: few items, each a module's place.
-/
import Derived.Test.YtahaflapkdjmhaaGrF2
namespace Go.Proofs.Ytahaflapkdjmhaa
open Go.RowKit

theorem Gr.fn_snoc (its : List Nat) (x k : Nat) (hk : k < its.length) : Gr.fn (its ++ [x]) k = Gr.fn its k := by
  simp [Gr.fn, List.getD, List.getElem?_append_left hk]
theorem Gr.heap_snoc {le : Nat → Nat → Prop} {its : List Nat} {x : Nat} (h : Hp.Heap le (Gr.fn its) its.length) : Hp.UpI le (Gr.fn (its ++ [x])) (its.length + 1) its.length := by
  refine Hp.up_start le _ _ ?_
  intro k h0 hk
  rw [Gr.fn_snoc its x _ hk, Gr.fn_snoc its x _ (by omega)]
  exact h k h0 hk

set_option maxHeartbeats 4000000 in
set_option maxRecDepth 1000000 in
theorem hpush_any {w : World} {B q : Nat} {lv : Value} {A : Option Addr} {c : Nat} {its : List Nat} (h : Qu w B q lv A c its) (hl : its.length < 1000) {l : List Gr.Md} (hx : RdM w B lv l) (hB : B ≤ w.heap.size) (hlt : ∀ a ∈ its, a < l.length) (hh : Hp.Heap (Gr.nle l) (Gr.fn its) its.length) {x : Nat} (hxl : x < l.length) :
    Calls Try.prog 17 #[.iface 46 (.pointer (some ⟨q, 0, none⟩)), .iface 3 (.int .i64 (x : Int))] w fun e w' => e = .returned (.tuple #[]) ∧ ∃ A' c' its', its'.Perm (x :: its) ∧ Hp.Heap (Gr.nle l) (Gr.fn its') its'.length ∧ Qu w' B q lv A' c' its' ∧ QK w w' q A A' := by
  have hmp := m_push
  have hml := m_len
  have HX := hid hx
  have HLT := hid hlt
  have HH := hid hh
  have hrl := h.rowlo
  have hqlo := h.lo
  have H := hid (qpush_any h hB (by omega) x)
  clear hx hlt hh h
  go_enter Try.func17, Try.ntmps17
  go_wp2_with fail
  refine (H.out).mono ?_
  rintro e w1 ⟨rfl, A1, c1, hq1, hk1⟩
  have HL := hid (len_any hq1)
  have HQ1 := hid hq1
  have HK1 := hid hk1
  have hs1 := hk1.size
  have hlen : ((its ++ [x]).length : Int) = (its.length : Int) + 1 := by simp
  rw [hlen] at HL
  clear hq1 hk1 hlen
  go_wp2_with fail
  refine (HL.out).mono ?_
  rintro e w2 ⟨rfl, rfl⟩
  have HU := hid (up_any HQ1.out (by simp; omega) (HX.out.below (HK1.out.below hqlo (fun g hg => (hrl g hg).1) hB)) (by omega) (fun a ha => by
    rcases List.mem_append.1 ha with h1 | h1
    · exact HLT.out a h1
    · rw [List.mem_singleton.1 h1]; exact hxl) (j := its.length) (by simp) (by
      have := Gr.heap_snoc (x := x) HH.out
      simpa using this))
  go_wp2_with fail
  refine (HU.out).mono ?_
  rintro e w3 ⟨rfl, its', hp, hhp, hq3, hk3⟩
  have HE := hid (show ∃ A' c' its', its'.Perm (x :: its) ∧ Hp.Heap (Gr.nle l) (Gr.fn its') its'.length ∧ Qu w3 B q lv A' c' its' ∧ QK w w3 q A A' from ⟨A1, c1, its', hp.trans (List.perm_append_singleton x its), by rw [hp.length_eq]; exact hhp, hq3, HK1.out.trans hk3⟩)
  clear hp hhp hq3 hk3
  go_wp2_with fail
  go_end0
  exact ⟨rfl, HE.out⟩

end Go.Proofs.Ytahaflapkdjmhaa
