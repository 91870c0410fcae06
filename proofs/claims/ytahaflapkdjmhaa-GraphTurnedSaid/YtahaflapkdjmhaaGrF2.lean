/-
  The walks of container/heap's up and Push over graph's queue. Conditions: few items, each a module's place.
-/
import Derived.Test.YtahaflapkdjmhaaGrF
namespace Go.Proofs.Ytahaflapkdjmhaa
open Go.RowKit

theorem m_push (a : Addr) (w : World) : (method 198 46 (.pointer (some a)) "Push").run Try.prog w = .ok (49, .pointer (some a)) w := by kernel_rfl
theorem m_pop (a : Addr) (w : World) : (method 198 46 (.pointer (some a)) "Pop").run Try.prog w = .ok (48, .pointer (some a)) w := by kernel_rfl
theorem m_len (a : Addr) (w : World) : (method 198 46 (.pointer (some a)) "Len").run Try.prog w = .ok (18, .pointer (some a)) w := by kernel_rfl
theorem m_swap (a : Addr) (w : World) : (method 198 46 (.pointer (some a)) "Swap").run Try.prog w = .ok (50, .pointer (some a)) w := by kernel_rfl
theorem m_less (a : Addr) (w : World) : (method 198 46 (.pointer (some a)) "Less").run Try.prog w = .ok (47, .pointer (some a)) w := by kernel_rfl

theorem below_drewN (B : Nat) (w : World) (n : Nat) : Below B w (w.drewN n) := ⟨rfl, rfl, rfl, Nat.le_refl _, fun _ _ => rfl⟩

set_option maxHeartbeats 4000000 in
set_option maxRecDepth 1000000 in
theorem up_any {w : World} {B q : Nat} {lv : Value} {A : Option Addr} {c : Nat} {its : List Nat} (h : Qu w B q lv A c its) (hl : its.length ≤ 1000) {l : List Gr.Md} (hx : RdM w B lv l) (hB : B ≤ w.heap.size) (hlt : ∀ a ∈ its, a < l.length) {j : Nat} (hj : j < its.length) (hu : Hp.UpI (Gr.nle l) (Gr.fn its) its.length j) :
    Calls Try.prog 24 #[.iface 46 (.pointer (some ⟨q, 0, none⟩)), .int .i64 (j : Int)] w fun e w' => e = .returned (.tuple #[]) ∧ ∃ its', its'.Perm its ∧ Hp.Heap (Gr.nle l) (Gr.fn its') its.length ∧ Qu w' B q lv A c its' ∧ QK w w' q A A := by
  have HX := hid hx
  have HL := hid hlt
  have hms := m_swap
  have hml := m_less
  have H0 := hid h
  have HU := hid hu
  have hrl := h.rowlo
  have hqlo := h.lo
  clear h hu hx hlt
  obtain ⟨n, hn⟩ : ∃ n, n = its.length := ⟨_, rfl⟩
  rw [← hn] at hl hj HU
  have HN := hid hn
  clear hn
  go_enter Try.func24, Try.ntmps24
  go_wp2_with fail
  go_loopw [1] (fun vj wr => ∃ (k : Nat) (ik : List Nat), vj = .int .i64 k ∧ k < n ∧ Hid (ik.Perm its ∧ Hp.UpI (Gr.nle l) (Gr.fn ik) n k) ∧ Qu wr B q lv A c ik ∧ QK w wr q A A) (fun vj _ => (intOf vj).toNat)
  case atStart => exact ⟨j, its, rfl, hj, hid ⟨.refl _, HU.out⟩, H0.out, QK.refl _ _ _⟩
  case round =>
    obtain ⟨k, ik, rfl, hk, hE, hQ, hK⟩ := hrel
    have hlen : ik.length = n := hE.out.1.length_eq.trans HN.out.symm
    have HQ := hid hQ
    have HK := hid hK
    clear hQ hK
    by_cases hk0 : k = 0
    · subst hk0
      go_wp2_with fail
      go_end0
      exact ⟨rfl, ik, hE.out.1, by rw [← HN.out]; exact Hp.up_done _ _ _ _ hE.out.2 (Or.inl rfl), HQ.out, HK.out⟩
    · obtain ⟨i, hi⟩ : ∃ i : Nat, i = (k - 1) / 2 := ⟨_, rfl⟩
      have e1 : ((k : Int) - 1) / 2 = (i : Int) := by omega
      have e2 : ((k : Int) - 1).tdiv 2 = (i : Int) := by rw [Int.tdiv_eq_ediv_of_nonneg (by omega)]; exact e1
      have e3 : ((i : Int) == (k : Int)) = false := by simp; omega
      have hik : i < k := by omega
      have HC := hid (qless_any HQ.out (by omega) (l := l) ((HX.out.below (HK.out.below hqlo (fun g hg => (hrl g hg).1) hB)).mono (Nat.le_trans hB HK.out.size)) (fun a ha => HL.out a (hE.out.1.mem_iff.1 ha)) (i := k) (j := i) (by omega) (by omega))
      have HI := hid hi
      clear hi
      have hlen := hid hlen
      cases hb : Gr.nlt l (ik.getD k 0) (ik.getD i 0) with
      | false =>
        rw [hb] at HC
        have HB := hid hb
        clear hb
        go_wp2_with fail
        refine (HC.out).mono ?_
        rintro e w1 ⟨rfl, m, rfl⟩
        go_wp2_with fail
        go_end0
        refine ⟨rfl, ik, hE.out.1, ?_, HQ.out.heap rfl, HK.out.heap rfl rfl rfl rfl⟩
        rw [← HN.out]
        refine Hp.up_done _ _ _ _ hE.out.2 (Or.inr ?_)
        rw [← HI.out]
        exact HB.out
      | true =>
        rw [hb] at HC
        have HB := hid hb
        clear hb
        go_wp2_with fail
        refine (HC.out).mono ?_
        rintro e w1 ⟨rfl, m, rfl⟩
        have HQ1 := hid (HQ.out.heap (w' := wr.drewN m) rfl)
        have HS := hid (qswap_any HQ1.out (by have := hlen.out; omega) (i := i) (j := k) (by have := hlen.out; omega) (by have := hlen.out; omega) (by omega))
        go_wp2_with fail
        refine (HS.out).mono ?_
        rintro e w2 ⟨rfl, hq2, hk2⟩
        have HQ2 := hid hq2
        have HK2 := hid ((HK.out.heap (w2 := wr.drewN m) rfl rfl rfl rfl).trans hk2)
        clear hq2 hk2
        go_wp2_with fail
        go_roundw
        case rel =>
          have hl1 := hlen.out
          refine ⟨i, swapL ik i k, by go_num, by omega, hid ⟨(Gr.swapL_perm ik i k (by omega) (by omega)).trans hE.out.1, ?_⟩, HQ2.out, HK2.out⟩
          rw [Gr.fn_swap ik i k (by omega) (by omega)]
          have hi2 := HI.out
          have := Hp.up_step (Gr.nle l) (Gr.nle_trans l) (Gr.nle_tot l) (Gr.fn ik) n k hE.out.2 (by omega) hk (by
            rw [← hi2]
            unfold Gr.nle
            show ¬ Gr.nlt l (ik.getD k 0) (ik.getD i 0) = false
            rw [HB.out]
            simp)
          rw [← hi2] at this
          exact this
        case measure => simp [intOf]; omega

end Go.Proofs.Ytahaflapkdjmhaa
