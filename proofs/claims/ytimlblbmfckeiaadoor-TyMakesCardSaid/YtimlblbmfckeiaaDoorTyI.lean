/-
  The walk of the reference's shallow. Conditions: at most 20000 nodes, each of which has from 0 to 50 children.
-/
import Derived.Test.YtimlblbmfckeiaaDoorTyK
import Derived.Test.YtimlblbmfckeiaaDoorTyH
namespace Go.Proofs.YtimlblbmfckeiaaDoor
open Go.RowKit

def lenV : Value → Nat
  | .slice _ n _ => n
  | _ => 0

/-- The stack's slice, the top last. -/
theorem OwnI.top {B : Nat} {v : Value} {t : Nat} {r : List Nat} {w : World} (h : OwnI B v (t :: r).reverse w) : ∃ g cap, v = .slice (some ⟨g, 0, none⟩) (r.length + 1) cap ∧ B ≤ g ∧ w.cell? ⟨g, r.length, none⟩ = some (.int .i64 ((t : Nat) : Int)) ∧ w.frozen? ⟨g, r.length, none⟩ = false ∧ r.length + 1 ≤ cap ∧ cap ≤ maxLen := by
  have hl : (t :: r).reverse.length = r.length + 1 := by simp
  unfold OwnI at h
  rw [hl] at h
  rcases h.2 with ⟨_, h0⟩ | ⟨g, cap, cur, hv, hb, hh, hc, hm, _⟩
  · omega
  · subst hv
    refine ⟨g, cap, rfl, hb, ?_, World.ownsRow.frozenAt h _, hc, hm⟩
    rw [World.ownsRow.cellAt h _ (by omega)]
    simp [cellsI]

theorem OwnI.pop {B g cap t : Nat} {r : List Nat} {w : World} (h : OwnI B (.slice (some ⟨g, 0, none⟩) (r.length + 1) cap) (t :: r).reverse w) : OwnI B (.slice (some ⟨g, 0, none⟩) r.length cap) r.reverse w := by
  have hl : (t :: r).reverse.length = r.length + 1 := by simp
  unfold OwnI at h ⊢
  rw [hl] at h
  rw [List.length_reverse]
  refine ⟨by simp [cellsI], ?_⟩
  rcases h.2 with ⟨h0, _⟩ | ⟨g', cap', cur, hv, hb, hh, hc, hm, hcs, ht⟩
  · cases h0
  · refine .inr ⟨g', cap', cur, ?_, hb, hh, by omega, hm, hcs, ?_⟩
    · simp only [Value.slice.injEq] at hv ⊢
      exact ⟨hv.1, trivial, hv.2.2⟩
    · have := congrArg (List.take r.length) ht
      rw [List.take_take] at this
      rw [Nat.mul_one] at this ⊢
      rw [show min r.length (r.length + 1) = r.length by omega] at this
      rw [this]
      simp [cellsI]

theorem OwnI.dec {B g cap m : Nat} {r : List Nat} {w : World} (h : OwnI B (.slice (some ⟨g, 0, none⟩) (r.length + 1) cap) ((m + 1) :: r).reverse w) : OwnI B (.slice (some ⟨g, 0, none⟩) (r.length + 1) cap) (m :: r).reverse (w.setCell ⟨g, r.length, none⟩ (.int .i64 ((m : Nat) : Int))) := by
  have hl : ((m + 1) :: r).reverse.length = r.length + 1 := by simp
  have hl2 : (m :: r).reverse.length = r.length + 1 := by simp
  unfold OwnI at h ⊢
  rw [hl] at h
  rw [hl2]
  have := (World.ownsRow.stored h r.length (.int .i64 ((m : Nat) : Int))).1
  have e : (cellsI ((m + 1) :: r).reverse).set r.length (.int .i64 ((m : Nat) : Int)) = cellsI (m :: r).reverse := by
    simp only [cellsI, List.reverse_cons, List.map_append, List.map_cons, List.map_nil]
    rw [List.set_append_right _ _ (by simp)]
    simp
  rw [e] at this
  exact this

set_option maxHeartbeats 4000000 in
set_option maxRecDepth 100000 in
theorem shallow_any (l : List L.Nd) (hF : Few l) (v : Value) (w : World) (hx : Rd w w.heap.size v l) :
    Calls Tryd.prog 27 #[v] w fun e w' => e = .returned (.bool (L.shal [] l)) ∧ Below w.heap.size w w' := by
  obtain ⟨i0, hi, hz0, hz1, hz2⟩ := info_parts infoInt
  obtain ⟨A, cap, rfl, hl1, hl2, -, hcx⟩ := hx
  unfold maxLen at hl2
  obtain ⟨hl, hM⟩ := hF
  have HCX := hid hcx
  have HM := hid hM
  clear hcx hM
  go_enter Tryd.func27, Tryd.ntmps27
  go_wp2
  go_loopw [3, 4] (fun vo vi wr => ∃ (k : Nat) (s : List Nat), vi = .int .i64 k ∧ k ≤ l.length ∧ OwnI w.heap.size vo s.reverse wr ∧ Below w.heap.size w wr ∧ (∀ m ∈ s, 1 ≤ m ∧ m ≤ 50) ∧ Hid (L.shal s (l.drop k) = L.shal [] l)) (fun _ vi _ => l.length - (intOf vi).toNat)
  case atStart => exact ⟨0, [], rfl, by omega, World.ownsRow_made w #[] 0 (Nat.le_refl _) (Nat.zero_le _) (by simp), below_new _, by simp, hid rfl⟩
  case round =>
    obtain ⟨k, s, rfl, hk, hO, hB, hs, hE⟩ := hrel
    by_cases hlt : k < l.length
    · obtain ⟨b, o, rfl, hb, hcx⟩ := HCX.out (by rintro rfl; simp at hlt)
      obtain ⟨x0, x1, x2⟩ := hcx k hlt
      have ex : ∀ j, wr.cell? ⟨b, j, none⟩ = w.cell? ⟨b, j, none⟩ := fun j => hB.cell (p := ⟨b, j, none⟩) hb
      rw [← ex] at x0 x1 x2
      have hm := HM.out _ (List.getElem_mem hlt)
      have hdr : Hid (l.drop k = l[k] :: l.drop (k + 1)) := hid (List.drop_eq_getElem_cons hlt)
      clear hcx ex
      generalize l[k] = X at *
      obtain ⟨k1, s1, n1⟩ := X
      have hmn := refMany_any k1 n1 s1
      obtain ⟨mm, hmm⟩ : ∃ mm : Nat, L.many ⟨k1, s1, n1⟩ = mm := ⟨(L.many ⟨k1, s1, n1⟩).toNat, by omega⟩
      obtain ⟨Ao, capo, hvo, -⟩ := hO.rd
      rw [List.length_reverse] at hvo
      have HO := hid hO
      have HSS := hid hs
      have hbw := hB.size
      clear hO hs
      by_cases h100 : 100 ≤ s.length
      · have HZ : Hid (L.shal [] l = false) := hid (by rw [← hE.out, hdr.out, L.shal, if_pos h100])
        subst hvo
        clear hmn
        go_wp2
        go_ret
        exact ⟨ret_bool HZ.out.symm, hB⟩
      · have HE2 : Hid (L.shal (L.norm (mm :: s)) (l.drop (k + 1)) = L.shal [] l) := hid (by rw [← hE.out, hdr.out, L.shal, if_neg h100, hmm]; rfl)
        rw [hmm] at hmn hm
        have HMN := hid hmn
        have hO1 : Hid (wr.ownsRow w.heap.size 3 1 u3 s.length (cellsI s.reverse)) := hid (by have := HO.out; unfold OwnI at this; rw [List.length_reverse] at this; exact this)
        have hsl : s.length < 100 := by omega
        subst hvo
        clear hmn
        go_wp2_with fail
        refine (HMN.out _).mono ?_
        rintro e w1 ⟨rfl, hb1⟩
        have hB1 : Below w.heap.size w w1 := hB.trans (hb1.mono hbw)
        have hO2 : w1.ownsRow w.heap.size 3 1 (.slice Ao s.length capo) s.length (cellsI s.reverse) := by
          have h : OwnI w.heap.size (.slice Ao s.length capo) s.reverse w1 := HO.out.below hb1
          unfold OwnI at h
          rw [List.length_reverse] at h
          exact h
        clear x0 x1 x2 hb1
        go_wp2_with (at_builtin; refine wpList_append_own _ rfl _ _ 29 rfl w.heap.size 3 i0 (.int .i64 0) 1 8 Tryd.underlying29 hi hz0 hz1 hz2 rfl (by decide) _ _ _ rfl (World.ownsRow.alloc hO2 _) ⟨w1.heap.size, 0, none⟩ 1 1 [.int .i64 mm] rfl rfl ?c1 ?c2 ?c3 ?c4 ?c5 ?_)
        case c1 => intro j u hj; match j, hj with | 0, hj => simp at hj; subst hj; simp [Addr.add]
        case c2 => intro u hu; simp at hu; subst hu; rfl
        case c3 => unfold maxLen; omega
        case c4 => omega
        case c5 => have := hB1.size; simp; omega
        intro v' w2 hown hgrow _
        have hB2 : Below w.heap.size w w2 := (hB1.alloc hB1.size _).grown hgrow (by have := hB1.size; simp; omega) (fun k hk => (World.ownsRow.lt hO2 k hk).1)
        have hO3 : OwnI w.heap.size v' (mm :: s).reverse w2 := by
          rw [List.reverse_cons]
          refine OwnI.snoc mm ?_
          rw [List.length_reverse]
          exact hown
        clear hown hgrow hO2 hB1 hO1
        go_wp2
        go_loopw [3] (fun vo wi => ∃ s2 : List Nat, OwnI w.heap.size vo s2.reverse wi ∧ Below w.heap.size w wi ∧ L.norm s2 = L.norm (mm :: s) ∧ (∀ x ∈ s2.tail, 1 ≤ x) ∧ (∀ x ∈ s2, x ≤ 50) ∧ s2.length ≤ 100) (fun vo _ => lenV vo)
        case atStart => exact ⟨mm :: s, hO3, hB2, rfl, fun x hx => (HSS.out x hx).1, fun x hx => by rcases List.mem_cons.1 hx with rfl | hx; omega; exact (HSS.out x hx).2, by simp; omega⟩
        case round =>
          obtain ⟨s2, hO4, hB4, hn4, ht4, h504, hl4⟩ := hrel
          cases s2 with
          | nil =>
            obtain ⟨Ai, capi, rfl, -⟩ := hO4.rd
            have hnil : OwnI w.heap.size (.slice Ai ([] : List Nat).reverse.length capi) ([] : List Nat).reverse wr := hO4
            have HNI := hid hnil
            have HE3 : Hid (L.shal [] (l.drop (k + 1)) = L.shal [] l) := hid (by rw [← HE2.out, ← hn4]; simp [L.norm])
            clear hO4 hn4 hnil
            go_wp2
            go_roundw
            case rel => exact ⟨k + 1, [], by go_num, by omega, HNI.out, hB4, by simp, HE3⟩
            case measure => simp [intOf]; omega
          | cons t r =>
            obtain ⟨g, capi, hvv, hBg, hcell, hfz, hcp1, hcp2⟩ := hO4.top
            rw [hvv] at hO4
            subst hvv
            have HO4 := hid hO4
            have hrl : r.length ≤ 99 := by simp at hl4; omega
            unfold maxLen at hcp2
            clear hO4
            by_cases ht0 : t = 0
            · subst ht0
              cases r with
              | nil =>
                have HP := hid HO4.out.pop
                have HN4 : Hid (L.norm [] = L.norm (mm :: s)) := hid (by rw [← hn4]; simp [L.norm])
                simp only [List.length_nil, Nat.zero_add] at hcell hfz hcp1
                clear hn4
                go_wp2
                go_roundw
                case rel => exact ⟨[], HP.out, hB4, HN4.out, by simp, by simp, by simp⟩
                case measure => simp [lenV]
              | cons m r2 =>
                have hm1 : 1 ≤ m := ht4 m (by simp)
                obtain ⟨m', rfl⟩ : ∃ m', m = m' + 1 := ⟨m - 1, by omega⟩
                have HP := hid HO4.out.pop
                obtain ⟨g', capi', hv2, _, hcell2, hfz2, _, _⟩ := HP.out.top
                simp only [List.length_cons, Value.slice.injEq, Option.some.injEq, Addr.mk.injEq, and_true, true_and] at hv2
                obtain ⟨rfl, rfl⟩ := hv2
                have HD := hid (OwnI.dec HP.out)
                have hm50 : m' + 1 ≤ 50 := h504 _ (by simp)
                have HN4 : Hid (L.norm (m' :: r2) = L.norm (mm :: s)) := hid (by rw [← hn4, L.norm_zero])
                have HT4 := hid ht4
                have H504 := hid h504
                simp only [List.length_cons] at hcell hrl hcp1 hfz
                have hl4' : r2.length + 2 ≤ 100 := by simp at hl4; omega
                clear hn4 ht4 h504 hl4
                go_wp2
                exact ⟨⟨m' :: r2, HD.out, hB4.setCell (p := ⟨g, r2.length, none⟩) hBg _, HN4.out, fun x hx => HT4.out x (by simp at hx ⊢; exact Or.inr hx), fun x hx => by rcases List.mem_cons.1 hx with rfl | hx; omega; exact H504.out x (by simp [hx]), by simp; omega⟩, by simp [lenV]⟩
            · have htz : ((t : Int) == 0) = false := by simp; omega
              have HE3 : Hid (L.shal (t :: r) (l.drop (k + 1)) = L.shal [] l) := hid (by
                obtain ⟨t', rfl⟩ : ∃ t', t = t' + 1 := ⟨t - 1, by omega⟩
                rw [← HE2.out, ← hn4, L.norm_pos])
              have HT4 := hid ht4
              have H504 := hid h504
              clear hn4 ht4 h504
              go_wp2
              go_roundw
              case rel => exact ⟨k + 1, t :: r, by go_num, by omega, HO4.out, hB4, fun x hx => ⟨by rcases List.mem_cons.1 hx with rfl | hx; omega; exact HT4.out x hx, H504.out x hx⟩, HE3⟩
              case measure => simp [intOf]; omega
    · go_wp2
      go_ret
      refine ⟨ret_bool ?_, hB⟩
      rw [← hE.out, List.drop_eq_nil_of_le (by omega), L.shal]

end Go.Proofs.YtimlblbmfckeiaaDoor
