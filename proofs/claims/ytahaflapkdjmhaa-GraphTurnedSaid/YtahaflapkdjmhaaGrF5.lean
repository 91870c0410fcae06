/-
  The walk of container/heap's Pop over graph's queue. Conditions: few items, each a module's place; at least one.
-/
import Derived.Test.YtahaflapkdjmhaaGrF4
namespace Go.Proofs.Ytahaflapkdjmhaa
open Go.RowKit

/-- The first one in the last one's place. -/
theorem Gr.pop_split {its : List Nat} {n : Nat} (hn : its.length = n + 1) : ∃ pre, swapL its 0 n = pre ++ [its.getD 0 0] ∧ pre.length = n ∧ (pre ++ [its.getD 0 0]).Perm its ∧ ∀ k, k < n → fn pre k = Hp.swap (fn its) 0 n k := by
  have hlen : (swapL its 0 n).length = n + 1 := (swapL_length its 0 n).trans hn
  have e : swapL its 0 n = (swapL its 0 n).take n ++ [its.getD 0 0] := by
    apply List.ext_getElem (by simp [hlen])
    intro k h1 h2
    by_cases hk : k < n
    · rw [List.getElem_append_left (by simp; omega)]
      simp
    · have hkn : k = n := by rw [hlen] at h1; omega
      subst hkn
      have hl2 : (List.take k (swapL its 0 k)).length = k := by rw [List.length_take, hlen]; omega
      rw [List.getElem_append_right (by omega)]
      simp [swapL]
  refine ⟨(swapL its 0 n).take n, e, by simp [hlen], ?_, fun k hk => ?_⟩
  · rw [← e]
    exact swapL_perm its 0 n (by omega) (by omega)
  · rw [← fn_swap its 0 n (by omega) (by omega)]
    simp [fn, List.getD, hk]

set_option maxHeartbeats 4000000 in
set_option maxRecDepth 1000000 in
theorem hpop_any {w : World} {B q : Nat} {lv : Value} {A : Option Addr} {c : Nat} {its : List Nat} (h : Qu w B q lv A c its) (hl : its.length < 1000) {l : List Gr.Md} (hx : RdM w B lv l) (hB : B ≤ w.heap.size) (hlt : ∀ a ∈ its, a < l.length) (hh : Hp.Heap (Gr.nle l) (Gr.fn its) its.length) (hne : 0 < its.length) :
    Calls Try.prog 19 #[.iface 46 (.pointer (some ⟨q, 0, none⟩))] w fun e w' => ∃ x its', e = .returned (.iface 3 (.int .i64 (x : Nat))) ∧ its.Perm (x :: its') ∧ (∀ y ∈ its', Gr.nle l x y) ∧ Hp.Heap (Gr.nle l) (Gr.fn its') its'.length ∧ Qu w' B q lv A c its' ∧ QK w w' q A A := by
  have hml := m_len
  have hms := m_swap
  have hmp := m_pop
  obtain ⟨n, hn⟩ : ∃ n, its.length = n + 1 := ⟨its.length - 1, by omega⟩
  obtain ⟨pre, hp1, hp2, hp3, hp4⟩ := Gr.pop_split hn
  have HL := hid (len_any h)
  rw [show ((its.length : Nat) : Int) = (n : Int) + 1 by omega] at HL
  have HS : Hid (Calls Try.prog 50 #[.pointer (some ⟨q, 0, none⟩), .int .i64 0, .int .i64 (n : Int)] w fun e w' => e = .returned (.tuple #[]) ∧ Qu w' B q lv A c (pre ++ [its.getD 0 0]) ∧ QK w w' q A A) := hid (by
    rw [← hp1]
    by_cases e : n = 0
    · subst e
      exact qswap_one h (by omega) (i := 0) (by omega)
    · exact qswap_any h (by omega) (i := 0) (j := n) (by omega) (by omega) (fun e2 => e e2.symm))
  have HX := hid hx
  have HLT : Hid (∀ a ∈ pre ++ [its.getD 0 0], a < l.length) := hid (fun a ha => hlt a (hp3.mem_iff.1 ha))
  have HD : Hid (Hp.DnI (Gr.nle l) (Gr.fn pre) pre.length 0) := hid (by
    have hd := Hp.dn_start (Gr.nle l) (Gr.fn its) n (by rw [← hn]; exact hh)
    rw [hp2]
    constructor
    · intro k k0 kn ke
      rw [hp4 k kn, hp4 _ (by omega)]
      exact hd.1 k k0 kn ke
    · intro k k0 kn ke i0
      omega)
  have HR : Hid (∀ y ∈ pre, Gr.nle l (its.getD 0 0) y) := hid (fun y hy => by
    have hy2 : y ∈ its := hp3.mem_iff.1 (List.mem_append_left _ hy)
    obtain ⟨k, hk, rfl⟩ := List.getElem_of_mem hy2
    have := Hp.root (Gr.nle l) (Gr.nle_trans l) (Gr.nle_refl l) (Gr.fn its) its.length hh k hk
    simpa [Gr.fn, List.getD, hk] using this)
  have HP := hid hp3
  have HP2 := hid hp2
  have hrl := h.rowlo
  have hqlo := h.lo
  obtain ⟨x, hxe⟩ : ∃ x, x = its.getD 0 0 := ⟨_, rfl⟩
  rw [← hxe] at HS HLT HR HP
  have hp2b : pre.length < 1000 := by omega
  clear h hx hlt hh hne hn hp1 hp2 hp3 hp4 hxe hl
  have en : (n : Int) = (pre.length : Int) := by rw [HP2.out]
  rw [en] at HL HS
  clear en
  go_enter Try.func19, Try.ntmps19
  go_wp2_with fail
  refine (HL.out).mono ?_
  rintro e w1 ⟨rfl, rfl⟩
  go_wp2_with fail
  refine (HS.out).mono ?_
  rintro e w2 ⟨rfl, hq2, hk2⟩
  have HD2 := hid (down_any hq2 hp2b (HX.out.below (hk2.below hqlo (fun g hg => (hrl g hg).1) hB)) (Nat.le_trans hB hk2.size) HLT.out HD.out)
  have HK2 := hid hk2
  clear hq2 hk2
  go_wp2_with fail
  refine (HD2.out).mono ?_
  rintro e w3 ⟨b, pre', rfl, hpp, hhp, hq3, hk3⟩
  have hl3 : pre'.length ≤ 1000 := by rw [hpp.length_eq]; omega
  have HPP := hid (qpop_any hq3 hl3)
  have HE := hid (show pre'.Perm pre ∧ Hp.Heap (Gr.nle l) (Gr.fn pre') pre'.length ∧ QK w w3 q A A from ⟨hpp, hhp, HK2.out.trans hk3⟩)
  clear hpp hhp hq3 hk3 hl3
  go_wp2_with fail
  refine (HPP.out).mono ?_
  rintro e w4 ⟨rfl, hq4, hk4⟩
  have HQ4 := hid hq4
  have HK4 := hid (HE.out.2.2.trans hk4)
  clear hq4 hk4
  go_wp2_with fail
  go_ret
  refine ⟨x, pre', rfl, ?_, fun y hy => HR.out y (HE.out.1.mem_iff.1 hy), HE.out.2.1, HQ4.out, HK4.out⟩
  exact HP.out.symm.trans ((List.perm_append_singleton x pre).trans (HE.out.1.symm.cons x))

end Go.Proofs.Ytahaflapkdjmhaa
