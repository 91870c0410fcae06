/-
  The walks of core's Fits, Shrink, Least, Grow, Most. Conditions: sets of at most 1000 numbers, at most 1000 bad sets of at most 1000 numbers, each once.
-/
import Derived.Test.YtnhjiappmblnmaaCrB
import Derived.Test.YtnhjiappmblnmaaCrD
namespace Go.Proofs.Ytnhjiappmblnmaa.Cr
open Go
theorem mem_mid {l r : List Int} {n x : Int} : x ∈ n :: (l ++ r) ↔ x ∈ (l ++ [n]) ++ r := by
  simp only [List.mem_cons, List.mem_append, List.not_mem_nil, or_false]
  constructor
  · rintro (h | h | h)
    · exact Or.inl (Or.inr h)
    · exact Or.inl (Or.inl h)
    · exact Or.inr h
  · rintro ((h | h) | h)
    · exact Or.inr (Or.inl h)
    · exact Or.inl h
    · exact Or.inr (Or.inr h)
theorem lackL_nil (s : List Int) : lackL s [] = [] := rfl
theorem grow_lack {bad : List (List Int)} {s : List Int} : ∀ (r c : List Int), fitsB bad c = true → (∀ x ∈ s, x ∈ c) → growR bad c r = growR bad c (lackL s r)
  | [], c, _, _ => rfl
  | n :: r, c, hc, hs => by
    have e : lackL s (n :: r) = if n ∈ s then lackL s r else n :: lackL s r := by
      unfold lackL
      rw [List.filter_cons]
      by_cases h : n ∈ s <;> simp [h]
    rw [e]
    by_cases h : n ∈ s
    · rw [if_pos h, growR, with_mem (hs n h), if_pos hc]
      exact grow_lack r c hc hs
    · rw [if_neg h, growR, growR]
      by_cases g : fitsB bad (withL c n) = true
      · rw [if_pos g, if_pos g]
        exact grow_lack r _ g fun x hx => (mem_with _ _ _).2 (Or.inr (hs x hx))
      · rw [if_neg g, if_neg g]
        exact grow_lack r c hc hs
theorem mostB_lack (s all : List Int) (bad : List (List Int)) : mostB s all bad = (fitsB bad s && (lackL s all).all fun n => !fitsB bad (withL s n)) := by
  unfold mostB lackL
  congr 1
  rw [Bool.eq_iff_iff, List.all_eq_true, List.all_eq_true]
  simp only [List.mem_filter, Bool.or_eq_true, Bool.not_eq_true', decide_eq_true_eq, decide_eq_false_iff_not]
  constructor
  · rintro h x ⟨h1, h2⟩
    exact (h x h1).resolve_left h2
  · intro h x hx
    by_cases g : x ∈ s
    · exact Or.inl g
    · exact Or.inr (h x ⟨hx, g⟩)
end Go.Proofs.Ytnhjiappmblnmaa.Cr
namespace Go.Proofs.Ytnhjiappmblnmaa
open Go.RowKit Go.Sort

/-- A trial, and the box in which it lies. -/
structure Stp (w : World) (s fb M1 tb : Nat) (bad : List (List Int)) (S : List Int) : Prop where
  tr : Tr w s fb M1 bad S
  box : w.heap[tb]? = some (.cells #[.func (.func 34) #[] #[.pointer (some ⟨fb, 0, none⟩)], .func (.func 35) #[] #[.pointer (some ⟨fb, 0, none⟩)], .func (.func 36) #[] #[.pointer (some ⟨s + 5, 0, none⟩)]] 39 (0, 0))
  hi : M1 ≤ tb
theorem Stp.lo {w : World} {s fb M1 tb : Nat} {bad : List (List Int)} {S : List Int} (h : Stp w s fb M1 tb bad S) : s + 6 ≤ fb ∧ fb < M1 := ⟨TrC.lo h.tr, TrC.hi h.tr⟩
theorem Stp.fr {Q : Nat → Prop} {w w' : World} {s fb M1 tb : Nat} {bad : List (List Int)} {S : List Int} (h : Stp w s fb M1 tb bad S) (hf : Fr Q w w') (hq : ∀ i, Q i → i ≤ s ∨ tb < i) : Stp w' s fb M1 tb bad S :=
  ⟨TrC.fr h.tr hf fun i hi => (hq i hi).imp id fun g => Nat.le_trans h.hi (Nat.le_of_lt g), hf.heap h.box (fun g => by have := h.hi; have := h.lo; have := hq _ g; omega), h.hi⟩
theorem Stp.moved {w w' : World} {s fb M1 tb : Nat} {bad : List (List Int)} {S T : List Int} (h : Stp w s fb M1 tb bad S) (t : Tr w' s fb M1 bad T) (hf : Fr (fun i => i = s + 3 ∨ i = s + 5) w w') : Stp w' s fb M1 tb bad T :=
  ⟨t, hf.heap h.box (fun g => by have := h.hi; have := h.lo; omega), h.hi⟩
theorem Stp.congr {w : World} {s fb M1 tb : Nat} {bad : List (List Int)} {S T : List Int} (h : Stp w s fb M1 tb bad S) (e : ∀ x, x ∈ S ↔ x ∈ T) : Stp w s fb M1 tb bad T := ⟨h.tr.congr e, h.box, h.hi⟩
theorem Stp.cells {w : World} {s fb M1 tb : Nat} {bad : List (List Int)} {S : List Int} (h : Stp w s fb M1 tb bad S) : w.cell? ⟨tb, 0, none⟩ = some (.func (.func 34) #[] #[.pointer (some ⟨fb, 0, none⟩)]) ∧ w.cell? ⟨tb, 1, none⟩ = some (.func (.func 35) #[] #[.pointer (some ⟨fb, 0, none⟩)]) ∧ w.cell? ⟨tb, 2, none⟩ = some (.func (.func 36) #[] #[.pointer (some ⟨s + 5, 0, none⟩)]) :=
  ⟨(heap_cell h.box 0).trans rfl, (heap_cell h.box 1).trans rfl, (heap_cell h.box 2).trans rfl⟩
theorem Stp.made {w : World} {s fb M1 : Nat} {bad : List (List Int)} {S : List Int} (h : Tr w s fb M1 bad S) (hM : M1 ≤ w.heap.size) : Stp (w.alloc (.cells #[.func (.func 34) #[] #[.pointer (some ⟨fb, 0, none⟩)], .func (.func 35) #[] #[.pointer (some ⟨fb, 0, none⟩)], .func (.func 36) #[] #[.pointer (some ⟨s + 5, 0, none⟩)]] 39)) s fb M1 w.heap.size bad S :=
  ⟨TrC.fr h (Fr.of_below (P := fun i => w.heap.size ≤ i) (below_new _) fun _ hi => hi) (fun _ hi => Or.inr (Nat.le_trans hM hi)), heap_alloc_new _ _, hM⟩

theorem run_field2 (a b c : Value) (w : World) : (Instr.field 39 (.agg #[a, b, c]) 2).run Try.prog w = .ok c w := by kernel_rfl
set_option maxHeartbeats 2000000 in
set_option maxRecDepth 100000 in
theorem coreFits_any (s : List Int) (bad : List (List Int)) (hs : Cr.isSet s) (hl : s.length ≤ 1000) (hb : Cr.Few bad) (v u : Value) (w : World) (hx : RdZ w w.heap.size v s) (hu : RdZZ w w.heap.size u bad) :
    Calls Try.prog 15 #[v, u] w fun e w' => e = .returned (.bool (Cr.fitsB bad s)) ∧ Below w.heap.size w w' := by
  have HA := hid (set_any s hs hl v w hx)
  have HIN := hid hx.inZ
  have HS := hid hs
  have HBF := hid hb
  have HU := hid hu
  obtain ⟨A, cap, rfl, -⟩ := hx.val
  obtain ⟨A2, cap2, rfl, -⟩ := hu.val
  clear hx hu hs hb
  go_enter Try.func15, Try.ntmps15
  go_wp2_with fail
  refine (HA.out).mono ?_
  rintro e w1 ⟨v1, rfl, h1, b1⟩
  have HBG := hid (begin_any s bad HS.out.nodup hl HBF.out v1 _ w1 (h1.rdz HIN.out) (HU.out.to b1))
  have HB1 := hid b1
  clear h1 b1 HA
  go_wp2_with fail
  refine (HBG.out).mono ?_
  rintro e w2 ⟨fb, M1, rfl, t2, m2, b2⟩
  have HF := hid (fits_any t2)
  have HB2 := hid (HB1.out.trans (b2.mono HB1.out.size))
  clear t2 m2 b2 HBG
  have hfl := run_field2
  go_wp2_with fail
  refine (HF.out).mono ?_
  rintro e w3 ⟨rfl, rfl⟩
  go_wp2_with fail
  go_ret
  exact ⟨rfl, HB2.out⟩

def ShrinkPost (s : List Int) (bad : List (List Int)) (w : World) (e : Ending) (w' : World) : Prop := ∃ v, e = .returned (.tuple #[v, .bool (!Cr.fitsB bad s)]) ∧ RdZ w' w'.heap.size v (Cr.shrinkL s bad) ∧ Below w.heap.size w w'

set_option maxHeartbeats 8000000 in
set_option maxRecDepth 100000 in
theorem coreShrink_any (s : List Int) (bad : List (List Int)) (hs : Cr.isSet s) (hl : s.length ≤ 1000) (hb : Cr.Few bad) (v u : Value) (w : World) (hx : RdZ w w.heap.size v s) (hu : RdZZ w w.heap.size u bad) :
    Calls Try.prog 10 #[v, u] w (ShrinkPost s bad w) := by
  obtain ⟨i0, hi, hz0, hz1, hz2⟩ := info_parts info_int
  have HA := hid (set_any s hs hl v w hx)
  have HIN := hid hx.inZ
  have HS := hid hs
  have HBF := hid hb
  have HU := hid hu
  obtain ⟨A, cap, rfl, -⟩ := hx.val
  obtain ⟨A2, cap2, rfl, -⟩ := hu.val
  clear hx hu hs hb
  go_enter Try.func10, Try.ntmps10
  go_wp2_with fail
  refine (HA.out).mono ?_
  rintro e w1 ⟨v1, rfl, h1, b1⟩
  have HBG := hid (begin_any s bad HS.out.nodup hl HBF.out v1 _ w1 (h1.rdz HIN.out) (HU.out.to b1))
  have HB1 := hid b1
  obtain ⟨A1, cap1, rfl, g1, g2⟩ := h1.val
  unfold maxLen at g2
  have HO1 := hid h1
  clear h1 b1 HA
  go_wp2_with fail
  refine (HBG.out).mono ?_
  rintro e w2 ⟨fb, M1, rfl, t2, m2, b2⟩
  have HF := hid (fits_any (Stp.made t2 m2).tr)
  have HP := hid (Stp.made t2 m2)
  have HM2 := hid m2
  have HB2 := hid b2
  obtain ⟨b, hfb⟩ : ∃ b, Cr.fitsB bad s = b := ⟨_, rfl⟩
  have HFB := hid hfb
  rw [hfb] at HF
  have HB3 := hid (show Below w1.heap.size w1 (w2.alloc (.cells #[.func (.func 34) #[] #[.pointer (some ⟨fb, 0, none⟩)], .func (.func 35) #[] #[.pointer (some ⟨fb, 0, none⟩)], .func (.func 36) #[] #[.pointer (some ⟨w1.heap.size + 5, 0, none⟩)]] 39)) from b2.alloc b2.size _)
  have HZ3 := hid (show (w2.alloc (.cells #[.func (.func 34) #[] #[.pointer (some ⟨fb, 0, none⟩)], .func (.func 35) #[] #[.pointer (some ⟨fb, 0, none⟩)], .func (.func 36) #[] #[.pointer (some ⟨w1.heap.size + 5, 0, none⟩)]] 39)).heap.size = w2.heap.size + 1 by simp)
  clear t2 m2 b2 HBG hfb
  go_wp2_with fail
  refine (HF.out).mono ?_
  rintro e w3 ⟨rfl, rfl⟩
  obtain ⟨w3, hw3⟩ : ∃ w3, w2.alloc (.cells #[.func (.func 34) #[] #[.pointer (some ⟨fb, 0, none⟩)], .func (.func 35) #[] #[.pointer (some ⟨fb, 0, none⟩)], .func (.func 36) #[] #[.pointer (some ⟨w1.heap.size + 5, 0, none⟩)]] 39) = w3 := ⟨_, rfl⟩
  rw [hw3] at HP HB3 HZ3 ⊢
  obtain ⟨tb, htb⟩ : ∃ tb, w2.heap.size = tb := ⟨_, rfl⟩
  rw [htb] at HP HZ3 HM2 ⊢
  have HTB := hid (show w1.heap.size ≤ tb from htb ▸ HB2.out.size)
  clear hw3 HF htb HB2
  have HW3 := hid (HB1.out.trans (HB3.out.mono HB1.out.size))
  cases b with
  | true =>
    have HE := hid (show ShrinkPost s bad w (.returned (.tuple #[.slice none 0 0, .bool false])) w3 from ⟨_, by rw [HFB.out]; rfl, by rw [Cr.shrinkL_no HFB.out]; exact RdZ.nil _ _, HW3.out⟩)
    go_wp2_with fail
    go_ret2
    exact HE.out
  | false =>
    obtain ⟨s0, hs0⟩ : ∃ s0, w1.heap.size = s0 := ⟨_, rfl⟩
    rw [hs0] at HP HB3 HTB ⊢
    have HR := hid (show RdZ w3 s0 (.slice A1 s.length cap1) s from hs0 ▸ ((HO1.out.rdz HIN.out).below (by rw [hs0]; exact HB3.out)))
    have HWS := hid (show w.heap.size ≤ s0 from hs0 ▸ HB1.out.size)
    have HLO := hid HP.out.lo
    have HIZ := hid HIN.out
    clear hs0 HO1 HB1 HIN HU HB3
    go_wp2_with fail
    go_loopw [7, 20] (fun v7 v20 wr => ∃ (i : Nat) (l : List Int), v20 = .int .i64 i ∧ i ≤ s.length ∧ l.length ≤ i ∧ Hid (Cr.shrR bad l (s.drop i) = Cr.shrinkL s bad) ∧ Hid (l ++ s.drop i).Nodup ∧ Hid (∀ z ∈ l, InZ z) ∧ Hid (Stp wr s0 fb M1 tb bad (l ++ s.drop i)) ∧ Hid (OwnZ (tb + 1) v7 l wr) ∧ Hid (Fr (fun i => (s0 < i ∧ i < tb) ∨ tb < i) w3 wr)) (fun _ v20 _ => s.length - (intOf v20).toNat)
    case atStart => exact ⟨0, [], rfl, by omega, by simp, hid (by rw [Cr.shrinkL_yes HFB.out]; rfl), hid (by simpa using HS.out.nodup), hid (by simp), hid (by simpa using HP.out), hid (OwnZ.nil _ _), hid (Fr.refl _ _)⟩
    case round =>
      obtain ⟨i, l, rfl, hi', hll, hE, hN, hI, hT, hO, hF⟩ := hrel
      obtain ⟨wo, hwo⟩ : ∃ wo : World, wo = wr := ⟨_, rfl⟩
      subst hwo
      by_cases hlt : i < s.length
      · have hiz : (i : Int) < (s.length : Int) := by omega
        obtain ⟨b1, o1, rfl, -, c1⟩ := (HR.out.fr hF.out fun j hj => by have := HLO.out; have := HP.out.hi; omega).atv (Below.refl _ _) hlt
        have hz := HIZ.out s[i] (List.getElem_mem hlt)
        have hdr : s.drop i = s[i] :: s.drop (i + 1) := List.drop_eq_getElem_cons hlt
        rw [hdr] at hE hN hT
        obtain ⟨n, hn⟩ : ∃ n, s[i] = n := ⟨_, rfl⟩
        rw [hn] at c1 hz hE hN hT
        obtain ⟨r, hr⟩ : ∃ r, s.drop (i + 1) = r := ⟨_, rfl⟩
        rw [hr] at hE hN hT
        obtain ⟨x0, x1, x2⟩ := hT.out.cells
        have HTK := hid (take_any hT.out.tr HBF.out n hz (by simp))
        rw [Cr.without_mid hN.out] at HTK
        have HRR := hid hr
        have HZN := hid hz
        clear hn hr hdr hz
        go_wp2_with fail
        refine (HTK.out).mono ?_
        rintro e w4 ⟨rfl, t4, f4⟩
        have P4 := hid (hT.out.moved t4 f4)
        have O4 := hid (hO.out.fr f4 fun g hg e => by have := (hO.out.lt g hg).1; have := HP.out.hi; have := HLO.out; omega)
        have F4 := hid (hF.out.trans (f4.mono fun j _ hj => Or.inl (by have := HP.out.hi; have := HLO.out; omega)))
        have HFI := hid (fits_any t4)
        obtain ⟨q, hq⟩ : ∃ q, Cr.fitsB bad (l ++ r) = q := ⟨_, rfl⟩
        have HQ := hid hq
        rw [hq] at HFI
        obtain ⟨y0, y1, y2⟩ := P4.out.cells
        clear t4 f4 x0 x1 x2 hT hO hF hq HTK
        go_wp2_with fail
        refine (HFI.out).mono ?_
        rintro e w5 ⟨rfl, rfl⟩
        cases q with
        | true =>
          have hnn : n ∉ l ++ r := by
            have := hN.out
            rw [List.nodup_append, List.nodup_cons] at this
            intro h
            rcases List.mem_append.1 h with h | h
            · exact this.2.2 n h n (by simp) rfl
            · exact this.2.1.1 h
          have HPU := hid (put_any P4.out.tr HBF.out n HZN.out hnn)
          clear hnn
          go_wp2_with fail
          refine (HPU.out).mono ?_
          rintro e w6 ⟨rfl, t6, f6⟩
          have P6 := hid ((P4.out.moved t6 f6).congr fun x => Cr.mem_mid (l := l) (r := r))
          have O6 := hid (O4.out.fr f6 fun g hg e => by have := (O4.out.lt g hg).1; have := HP.out.hi; have := HLO.out; omega)
          have F6 := hid (F4.out.trans (f6.mono fun j _ hj => Or.inl (by have := HP.out.hi; have := HLO.out; omega)))
          have hsz := hid (show tb + 1 ≤ w6.heap.size by have := F6.out.size; have := HZ3.out; omega)
          have HOA := hid (show (w6.alloc (.cells #[.int .i64 n] 3)).ownsRow (tb + 1) 3 1 u7 l.length (l.map (Value.int .i64)) from World.ownsRow.alloc O6.out _)
          clear t6 f6 y0 y1 y2 HPU P4 O4 F4 HFI
          go_wp2_with (at_builtin; refine wpList_append_own _ rfl _ _ 22 rfl (tb + 1) 3 i0 (.int .i64 0) 1 8 Try.underlying22 hi hz0 hz1 hz2 rfl (by decide) _ _ _ rfl HOA.out ⟨w6.heap.size, 0, none⟩ 1 1 [.int .i64 n] rfl rfl ?c1 ?c2 ?c3 ?c4 ?c5 ?_)
          case c1 => exact cell_one_new w6 _ _
          case c2 => intro u hu; simp at hu; subst hu; rfl
          case c3 => unfold maxLen; omega
          case c4 => omega
          case c5 => have := hsz.out; simp; omega
          intro v' w7 hown hgrow _
          have hF7 : Fr (fun i => tb < i) w6 w7 := by
            have g := grown_after (below_new (w := w6) (.cells #[.int .i64 n] 3)) hgrow
            exact Fr.grown g fun k hk => (World.ownsRow.lt HOA.out k hk).1
          have P7 := hid (P6.out.fr hF7 fun j hj => Or.inr hj)
          have F7 := hid (F6.out.trans (hF7.mono fun j _ hj => Or.inr hj))
          have O7 := hid (show OwnZ (tb + 1) v' (l ++ [n]) w7 from by
            unfold OwnZ
            rw [List.map_append, List.length_append]
            exact hown)
          have E7 := hid (show Cr.shrR bad (l ++ [n]) (s.drop (i + 1)) = Cr.shrinkL s bad by
            rw [← hE.out, HRR.out, Cr.shrR, if_pos HQ.out])
          have N7 := hid (show ((l ++ [n]) ++ s.drop (i + 1)).Nodup by rw [HRR.out]; simpa using hN.out)
          have I7 := hid (show ∀ z ∈ l ++ [n], InZ z from fun z hz => by
            rcases List.mem_append.1 hz with h | h
            · exact hI.out z h
            · rw [List.mem_singleton] at h; rw [h]; exact HZN.out)
          have P8 := hid (show Stp w7 s0 fb M1 tb bad ((l ++ [n]) ++ s.drop (i + 1)) by rw [HRR.out]; exact P7.out)
          clear hown hgrow hF7 HOA
          go_wp2_with fail
          go_roundw
          case rel => exact ⟨i + 1, l ++ [n], by go_num, by omega, by simp; omega, E7, N7, I7, P8, O7, F7⟩
          case measure => simp [intOf]; omega
        | false =>
          have E7 := hid (show Cr.shrR bad l (s.drop (i + 1)) = Cr.shrinkL s bad by
            rw [← hE.out, HRR.out, Cr.shrR, if_neg (by rw [HQ.out]; simp)])
          have N7 := hid (show (l ++ s.drop (i + 1)).Nodup by
            rw [HRR.out]
            exact hN.out.sublist (List.Sublist.append (List.Sublist.refl l) (List.sublist_cons_self n r)))
          have P8 := hid (show Stp w4 s0 fb M1 tb bad (l ++ s.drop (i + 1)) by rw [HRR.out]; exact P4.out)
          clear y0 y1 y2
          go_wp2_with fail
          go_roundw
          case rel => exact ⟨i + 1, l, by go_num, by omega, by omega, E7, N7, hI, P8, O4, F4⟩
          case measure => simp [intOf]; omega
      · have hiz : ¬ (i : Int) < (s.length : Int) := by omega
        have HE := hid (show ShrinkPost s bad w (.returned (.tuple #[u7, .bool true])) wo from by
          have e := hE.out
          rw [List.drop_of_length_le (by omega), Cr.shrR] at e
          exact ⟨_, by rw [HFB.out]; rfl, e ▸ hO.out.rdz hI.out, HW3.out.trans (hF.out.below HW3.out.size fun j hj => by have := HTB.out; have := HWS.out; omega)⟩)
        clear hE hN hI hT hO hF
        go_wp2_with fail
        go_ret2
        exact HE.out
end Go.Proofs.Ytnhjiappmblnmaa
