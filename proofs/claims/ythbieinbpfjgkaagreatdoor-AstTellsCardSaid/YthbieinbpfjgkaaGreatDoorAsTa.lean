/-
  The walks of the reference's figures and lit. Conditions: a number that is not negative; a sound literal, a name of at most 200 bytes.
-/
import Derived.Test.YthbieinbpfjgkaaGreatDoorAsPn
import Derived.Test.YthbieinbpfjgkaaGreatDoorM4
import Derived.Test.YthbieinbpfjgkaaGreatDoorMA2
namespace Go.Proofs.YthbieinbpfjgkaaGreatDoor
open Go.RowKit

set_option maxHeartbeats 2000000 in
set_option maxRecDepth 100000 in
theorem afigures_any (n : Int) (h0 : 0 ≤ n) (h1 : n ≤ 9223372036854775807) (w : World) :
    Calls Tryz.prog 102 #[.int .i64 n] w fun e w' => e = .returned (.string ⟨(Lib.itoa n).toArray⟩) ∧ Below w.heap.size w w' := by
  obtain ⟨u, rfl⟩ : ∃ u : Nat, n = u := ⟨n.toNat, by omega⟩
  have hlen := Lib.itoa_length_le (u : Int) (by omega) h1
  rw [Lib.itoa_nonneg] at hlen ⊢
  have HL := hid hlen
  clear hlen h0
  go_enter Tryz.func102, Tryz.ntmps102
  go_wp2
  go_loopw [0, 3] (fun vn vs wr => ∃ (q : Nat) (s : ByteArray), vn = .int .i64 q ∧ vs = .string s ∧ q ≤ u ∧ s.size ≤ 30 ∧ Below w.heap.size w wr ∧ Hid (Lib.decDigits q ++ s.data.toList = Lib.decDigits u)) (fun vn _ _ => (intOf vn).toNat)
  case atStart => exact ⟨u, ⟨#[]⟩, rfl, rfl, Nat.le_refl _, by decide, Below.refl _ _, hid (by simp)⟩
  case round =>
    obtain ⟨q, s, rfl, rfl, hq, hs, hB, hE⟩ := hrel
    have hbw := hB.size
    by_cases h9 : 9 < q
    · have hv0 : (0 : Int) ≤ 48 + (q : Int) % 10 := by omega
      have hv1 : 48 + (q : Int) % 10 < 256 := by omega
      have hwr := wrap_fig _ hv0 hv1
      have hcv := fig_byte (wr.alloc (.cells #[.int .u8 (48 + (q : Int) % 10)] 5)) wr.heap.size _ hv0 hv1 (by simp [go_sem])
      have hmod : (48 + (q : Int) % 10).toNat = 48 + q % 10 := by omega
      rw [hmod] at hcv
      have HE2 : Hid (Lib.decDigits (q / 10) ++ ((⟨#[(48 + q % 10).toUInt8]⟩ : ByteArray) ++ s).data.toList = Lib.decDigits u) := hid (by
        rw [← hE.out, ← dec_step h9]
        simp)
      have hsl : ((⟨#[(48 + q % 10).toUInt8]⟩ : ByteArray) ++ s).size ≤ 30 := by
        have h := congrArg List.length HE2.out
        have h2 := HL.out
        rw [List.length_append, fig_len] at h
        rw [ByteArray.size_append]
        show 1 + s.size ≤ 30
        omega
      have hs1 : (⟨#[(48 + q % 10).toUInt8]⟩ : ByteArray).size ≤ 1 := Nat.le_refl _
      generalize (⟨#[(48 + q % 10).toUInt8]⟩ : ByteArray) = D at *
      go_wp2
      go_roundw
      case rel => exact ⟨q / 10, D ++ s, by go_num, rfl, by omega, hsl, hB.alloc hbw _, HE2⟩
      case measure => simp [intOf]; omega
    · have hv0 : (0 : Int) ≤ 48 + (q : Int) := by omega
      have hv1 : 48 + (q : Int) < 256 := by omega
      have hwr := wrap_fig _ hv0 hv1
      have hcv := fig_byte (wr.alloc (.cells #[.int .u8 (48 + (q : Int))] 5)) wr.heap.size _ hv0 hv1 (by simp [go_sem])
      have hmod : (48 + (q : Int)).toNat = 48 + q := by omega
      rw [hmod] at hcv
      have HE2 : Hid ((⟨#[(48 + q).toUInt8]⟩ : ByteArray) ++ s = ⟨(Lib.decDigits u).toArray⟩) := hid (by
        rw [← hE.out, ← dec_last (by omega)]
        apply ByteArray.ext
        simp)
      have hs1 : (⟨#[(48 + q).toUInt8]⟩ : ByteArray).size ≤ 1 := Nat.le_refl _
      generalize (⟨#[(48 + q).toUInt8]⟩ : ByteArray) = D at *
      go_wp2
      go_ret
      exact ⟨by rw [HE2.out] <;> rfl, hB.alloc hbw _⟩


set_option maxHeartbeats 4000000 in
set_option maxRecDepth 100000 in
theorem rlit_any (p : E.Pt) (hs : E.sound p = true) (hk : p.kind = 0) (hnm : p.name.size ≤ 200) (A1 A2 : Option Addr) (c1 c2 : Nat) (w : World) (ht : Rd w w.heap.size (.slice A1 p.t.length c1) p.t) :
    Calls Tryz.prog 77 #[partV p (.slice A1 p.t.length c1) (.slice A2 p.u.length c2)] w fun e w' => e = .returned (.string ⟨(E.litP p).toArray⟩) ∧ Below w.heap.size w w' := by
  obtain ⟨x, hx, -, -, -, -, -, hl⟩ := E.snd0 hs hk
  have hnum : p.kind = 0 → x.kind = 1 → p.num ≤ 9223372036854775807 := fun _ k1 => by
    have h := hs
    unfold E.sound E.litOK at h
    rw [if_pos hk, hx] at h
    simp only at h
    rw [if_pos k1] at h
    simp only [Bool.and_eq_true, decide_eq_true_eq] at h
    have := h.2.2.1
    omega
  have hnum1 := hnum hk
  obtain ⟨k, lb, nm, bd, m, n, t, u⟩ := p
  simp only at hx hk hnm hl ht hnum1
  subst hx
  subst hk
  have HE : Hid (E.litP ⟨0, lb, nm, bd, m, n, [x], u⟩ = if x.kind = 2 then (if n = 0 then [102, 97, 108, 115, 101] else [116, 114, 117, 101]) else if x.kind = 3 then X.G.quoteL nm.data.toList else if x.kind = 4 then [40, 41] else Lib.itoa n) := hid rfl
  rw [HE.out]
  unfold partV
  simp only [List.length_cons, List.length_nil, Nat.zero_add] at ht ⊢
  obtain ⟨O, hO⟩ : ∃ O : Array Value, O = #[.int .i64 0, .string lb, .string nm, .string bd, .int .i64 m, .int .i64 n, .slice A1 1 c1, .slice A2 u.length c2] := ⟨_, rfl⟩
  obtain ⟨b, o, rfl, hb, x0⟩ : ∃ b o, A1 = some ⟨b, o, none⟩ ∧ b < w.heap.size ∧ w.cell? ⟨b, o, none⟩ = some (.int .i64 x.kind) := by
    obtain ⟨A', c', hv, -, -, -, hc⟩ := ht
    simp only [Value.slice.injEq] at hv
    obtain ⟨rfl, -⟩ := hv
    obtain ⟨b, o, h3, h4, h5⟩ := hc (by simp)
    exact ⟨b, o, h3, h4, (h5 0 (by simp)).1⟩
  have HBX := hid (below_new (w := w) (.cells #[.int .i64 0, .string lb, .string nm, .string bd, .int .i64 m, .int .i64 n, .slice (some ⟨b, o, none⟩) 1 c1, .slice A2 u.length c2] 39))
  obtain ⟨xk, hxk⟩ : ∃ xk, x.kind = xk := ⟨_, rfl⟩
  rw [hxk] at x0 hl hnum1 ⊢
  clear hxk hs ht hO HE
  rcases hl with ⟨k1, hp, -⟩ | ⟨k2, hp, -⟩ | ⟨k3, -⟩ | ⟨k4, -⟩
  · subst k1
    have HF := hid (fun W => afigures_any n hp (hnum1 rfl) W)
    rw [if_neg (by decide), if_neg (by decide), if_neg (by decide)]
    go_enter Tryz.func77, Tryz.ntmps77
    go_wp2_with fail
    refine (HF.out _).mono ?_
    rintro e w1 ⟨rfl, h1⟩
    go_wp2
    go_ret
    exact ⟨rfl, HBX.out.trans (h1.mono HBX.out.size)⟩
  · subst k2
    rw [if_pos rfl]
    rcases hp with hp | hp
    · subst hp
      go_enter Tryz.func77, Tryz.ntmps77
      go_wp2
      go_ret
      exact ⟨rfl, HBX.out⟩
    · subst hp
      go_enter Tryz.func77, Tryz.ntmps77
      go_wp2
      go_ret
      exact ⟨rfl, HBX.out⟩
  · subst k3
    have HF := hid (fun W => X.refQuote_any nm (by omega) W)
    rw [if_neg (by decide), if_pos rfl]
    go_enter Tryz.func77, Tryz.ntmps77
    go_wp2_with fail
    refine (HF.out _).mono ?_
    rintro e w1 ⟨rfl, rfl⟩
    go_wp2
    go_ret
    exact ⟨rfl, HBX.out⟩
  · subst k4
    rw [if_neg (by decide), if_neg (by decide), if_pos rfl]
    go_enter Tryz.func77, Tryz.ntmps77
    go_wp2
    go_ret
    exact ⟨rfl, HBX.out⟩

end Go.Proofs.YthbieinbpfjgkaaGreatDoor
