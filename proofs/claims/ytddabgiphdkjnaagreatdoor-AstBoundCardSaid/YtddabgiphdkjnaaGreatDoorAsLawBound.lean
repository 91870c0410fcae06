/-
  AstBound is true for any row of parts and any name: in a Fun of a name the others are free. No conditions but the card's own.
-/
import Derived.Test.YtddabgiphdkjnaaGreatDoorRows
import Derived.Test.YtddabgiphdkjnaaGreatDoorCards
import Derived.Test.YtddabgiphdkjnaaGreatDoorTie
import Derived.Test.YtddabgiphdkjnaaGreatDoorMA17
import Derived.Test.YtddabgiphdkjnaaGreatDoorMA16
import Derived.Test.YtddabgiphdkjnaaGreatDoorMA19
import Derived.SevenTiedAt
namespace Go.Proofs.YtddabgiphdkjnaaGreatDoor.astBound
open Go.ChangeShapes Go.WideShapes Go.ChangeAt Go.RowKit
open Go.ChangeMaps (open_string shut_string)

theorem own : ownKnob Tryz.prog.godebug = none := by kernel_rfl

/-- Where a name more is bound, the others are free. -/
theorem free_more (f : E.Fo) (n : ByteArray) : ∀ (x : E.Pt) (k : Nat) (bs : List ByteArray) (s : ByteArray), s ∈ f.free x k (n :: bs) ↔ s ∈ f.free x k bs ∧ s ≠ n := by
  have own : ∀ (y : E.Pt) (bs : List ByteArray) (s : ByteArray), s ∈ E.ownN y (n :: bs) ↔ s ∈ E.ownN y bs ∧ s ≠ n := fun y bs s => by
    unfold E.ownN
    by_cases h1 : y.kind = 1
    · by_cases h2 : Lib.containsS bs y.name = true
      · have h3 : Lib.containsS (n :: bs) y.name = true := by rw [E.containsS_mem] at h2 ⊢; simp [h2]
        simp [h2, h3]
      · have h2' : Lib.containsS bs y.name = false := by simpa using h2
        by_cases h4 : y.name = n
        · have h3 : Lib.containsS (n :: bs) y.name = true := by rw [E.containsS_mem]; simp [h4]
          simp [h1, h2', h3]
          rintro rfl
          exact h4
        · have h3 : Lib.containsS (n :: bs) y.name = false := by
            rw [Bool.eq_false_iff, ne_eq, E.containsS_mem]
            rw [Bool.eq_false_iff, ne_eq, E.containsS_mem] at h2'
            simp [h4, h2']
          simp [h1, h2', h3]
          rintro rfl
          exact h4
    · simp [h1]
  induction f with
  | nil => intro x k bs s; simp [E.Fo.free]
  | cons y ks r ih1 ih2 =>
    intro x k bs s
    simp only [E.Fo.free, List.mem_append, List.cons_append, ih1, ih2, own]
    constructor
    · rintro ((⟨h, g⟩ | ⟨h, g⟩) | ⟨h, g⟩)
      · exact ⟨Or.inl (Or.inl h), g⟩
      · exact ⟨Or.inl (Or.inr h), g⟩
      · exact ⟨Or.inr h, g⟩
    · rintro ⟨(h | h) | h, g⟩
      · exact Or.inl (Or.inl ⟨h, g⟩)
      · exact Or.inl (Or.inr ⟨h, g⟩)
      · exact Or.inr ⟨h, g⟩

def funP (nm : ByteArray) : E.Pt := ⟨2, ⟨#[]⟩, ⟨#[]⟩, nm, 0, 0, [⟨0, ⟨#[]⟩, 0⟩], []⟩

/-- A Fun of a name around an expression. -/
theorem fun_right {nm : ByteArray} {la : List E.Pt} {x : E.Pt} {ks : E.Fo} (hl : la = x :: ks.flat) (hok : (E.Fo.cons x ks .nil).ok = true) (h : E.rightL (funP nm :: la) = true) :
    (E.Fo.cons (funP nm) (.cons x ks .nil) .nil).ok = true := by
  obtain ⟨y, kf, hf, -, -, hok2, -⟩ := (E.rightL_iff _).1 h
  injection hf with h1 h2
  subst h1
  obtain ⟨a1, a2, a3, a4, -⟩ := E.ok_cons hok2
  have e := (E.Fo.flat_inj kf (.cons x ks .nil) [] [] (E.ok_fit _ a4) (E.ok_fit _ hok) (by
    have : E.many (funP nm) = 1 := rfl
    rw [this] at a2
    show kf.count = 1
    omega) (by rw [← h2, hl]; simp [E.Fo.flat])).1
  rw [e] at hok2
  exact hok2

theorem free_fun (nm : ByteArray) (x : E.Pt) (ks : E.Fo) : freeS (E.freeT (funP nm) (.cons x ks .nil) []) = (freeS (E.freeT x ks [])).filter (fun s => decide (s ≠ nm)) := by
  refine E.Asc.one (freeS_asc _) ((freeS_asc _).filter _) (fun s => ?_)
  have e : E.freeT (funP nm) (.cons x ks .nil) [] = E.freeT x ks [nm] := by
    show E.ownN (funP nm) [] ++ (E.freeT x ks ([] ++ E.bindsL (funP nm) 0) ++ []) = _
    rw [List.append_nil]
    rfl
  have h := free_more (.cons x ks .nil) nm (⟨3, ⟨#[]⟩, ⟨#[]⟩, ⟨#[]⟩, 0, 0, [], []⟩) 0 [] s
  have e1 : ∀ bs, (E.Fo.cons x ks .nil).free (⟨3, ⟨#[]⟩, ⟨#[]⟩, ⟨#[]⟩, 0, 0, [], []⟩) 0 bs = E.freeT x ks bs := fun bs => by
    rw [E.Fo.free_cons]
    show E.freeT x ks (bs ++ []) ++ [] = _
    rw [List.append_nil, List.append_nil]
  rw [e1, e1] at h
  rw [freeS_mem, e, h, List.mem_filter, freeS_mem]
  simp

set_option maxHeartbeats 8000000 in
set_option maxRecDepth 100000 in
theorem astBound_true {W : World} (va : Value) (la : List E.Pt) (ha : RdP W W.heap.size va la) (_ : ∀ y ∈ la, NumP y) (nm : ByteArray) {p0 : Prop} (_ : p0) (hT : Tab W) (hK : KTab W) (hM : MCell W) :
    Calls Tryz.prog 8 #[va, .string nm] W fun e w' => e = .returned (.bool true) ∧ Below W.heap.size W w' := by
  have FA := hid (rfew_any la 100 (by decide) va W ha)
  have AL := hid (fun (W' : World) (hW : Below W.heap.size W W') => aalive_any W' (hT.grows hW) (hK.grows hW) (hM.grows hW))
  have HA := hid ha
  have HK := hid hK
  have HM := hid hM
  have h2W := hM.choose_spec.2
  obtain ⟨Aa, ca, hva, hl1, hl2, -⟩ := ha
  unfold maxLen at hl2
  clear hT hK hM
  cases hfa : E.fewL la 100 with
  | false =>
    rw [hfa] at FA
    subst hva
    clear hfa
    go_enter Tryz.func8, Tryz.ntmps8
    go_wp2_with fail
    refine (FA.out).mono ?_
    rintro e w1 ⟨rfl, hw1⟩
    have hw2 := hw1.symm
    subst hw2
    clear hw1
    go_wp2_with fail
    refine (AL.out _ (Below.refl _ _)).mono ?_
    rintro e w1 ⟨rfl, h1⟩
    go_wp2
    go_ret
    exact ⟨rfl, h1⟩
  | true =>
    rw [hfa] at FA
    have HSA : Hid (∀ x ∈ la, Small x) := hid fun x hx => E.small_of_few (List.all_eq_true.1 ((Bool.and_eq_true _ _).mp hfa).2 x hx)
    have h100 : la.length ≤ 100 := of_decide_eq_true ((Bool.and_eq_true _ _).mp hfa).1
    have RR := hid (raright_any la HSA.out va W HA.out)
    clear hfa
    cases hra : E.rightL la with
    | false =>
      rw [hra] at RR
      subst hva
      clear hra
      go_enter Tryz.func8, Tryz.ntmps8
      go_wp2_with fail
      refine (FA.out).mono ?_
      rintro e w1 ⟨rfl, hw1⟩
      have hw2 := hw1.symm
      subst hw2
      clear hw1
      go_wp2_with fail
      refine (RR.out).mono ?_
      rintro e w1 ⟨rfl, hr1⟩
      go_wp2_with fail
      refine (AL.out _ hr1).mono ?_
      rintro e w2 ⟨rfl, h1⟩
      go_wp2
      go_ret
      exact ⟨rfl, hr1.trans (h1.mono hr1.size)⟩
    | true =>
      rw [hra] at RR
      by_cases hn : 100 < nm.size
      · subst hva
        clear hra
        go_enter Tryz.func8, Tryz.ntmps8
        go_wp2_with fail
        refine (FA.out).mono ?_
        rintro e w1 ⟨rfl, hw1⟩
        have hw2 := hw1.symm
        subst hw2
        clear hw1
        go_wp2_with fail
        refine (RR.out).mono ?_
        rintro e w1 ⟨rfl, hr1⟩
        go_wp2_with fail
        refine (AL.out _ hr1).mono ?_
        rintro e w2 ⟨rfl, h1⟩
        go_wp2
        go_ret
        exact ⟨rfl, hr1.trans (h1.mono hr1.size)⟩
      obtain ⟨x, ks, hlx, -, -, hok, -⟩ := (E.rightL_iff la).1 hra
      have hmany : ∀ y ∈ la, -1000000 ≤ y.many ∧ y.many ≤ 1000000 := fun y hy => E.many_bound (E.sound_flat (E.Fo.cons x ks .nil) hok y (by rw [hlx] at hy; simpa [E.Fo.flat] using hy))
      obtain ⟨ys, b, o, cap, hys, hry, hvb, hb, hcap1, hcap2, hcells⟩ := HA.out.pick (by rw [hlx]; simp)
      have HYS := hid hys
      have HRY := hid hry
      have HCE := hid hcells
      unfold maxLen at hcap2
      have HYL : Hid (ys.length = la.length) := hid (by rw [← hys, List.length_map])
      have HLX := hid hlx
      have HOK := hid hok
      have HMY := hid hmany
      have hla0 : 0 < la.length := by rw [hlx]; simp
      have HSF : Hid (∀ y ∈ funP nm :: la, Small y) := hid fun y hy => by
        rcases List.mem_cons.1 hy with rfl | h
        · exact ⟨by show (⟨#[]⟩ : ByteArray).size ≤ 2000000; decide, by show nm.size ≤ 2000000; omega, by show (⟨#[]⟩ : ByteArray).size ≤ 2000000; decide, by intro z hz; simp [funP] at hz; subst hz; decide, by intro z hz; simp [funP] at hz⟩
        · exact HSA.out y h
      have HFR := hid (fun (W' : World) (hW : Below W.heap.size W W') => afree_any x ks (E.ok_fit _ hok) (by rw [← hlx]; exact hmany) (by have := congrArg List.length hlx; simp at this; omega) va W' (by rw [← hlx]; exact HA.out.below hW) (HK.out.grows hW) (by have := hW.size; omega))
      obtain ⟨ip, hip, hz0, hz1, hz2⟩ := info_parts infoPart
      clear hra hlx hok hmany hys hry hcells hva hl1 hl2
      subst hvb
      go_enter Tryz.func8, Tryz.ntmps8
      go_wp2_with fail
      refine (FA.out).mono ?_
      rintro e w1 ⟨rfl, hw1⟩
      have hw2 := hw1.symm
      subst hw2
      clear hw1
      go_wp2_with fail
      refine (RR.out).mono ?_
      rintro e w1 ⟨rfl, hr1⟩
      have B1 := hid hr1
      -- the Fun's row
      have HOF : Hid (((w1.alloc (.cells #[.int .i64 0, .string ⟨#[]⟩, .int .i64 0] 41)).alloc (.cells #[.int .i64 2, .string ⟨#[]⟩, .string ⟨#[]⟩, .string nm, .int .i64 0, .int .i64 0, .slice (some ⟨w1.heap.size, 0, none⟩) 1 1, .slice none 0 0] 39)).ownsRow w1.heap.size 39 8 (.slice (some ⟨w1.heap.size + 1, 0, none⟩) 1 1) 1 (cellsP [(funP nm, .slice (some ⟨w1.heap.size, 0, none⟩) 1 1, .slice none 0 0)])) := hid (by
        have h := World.ownsRow_lit (base := w1.heap.size) (e := 39) (size := 8) (w1.alloc (.cells #[.int .i64 0, .string ⟨#[]⟩, .int .i64 0] 41)) #[.int .i64 2, .string ⟨#[]⟩, .string ⟨#[]⟩, .string nm, .int .i64 0, .int .i64 0, .slice (some ⟨w1.heap.size, 0, none⟩) 1 1, .slice none 0 0] 1 (by simp) (by decide) rfl
        have hs : (w1.alloc (.cells #[.int .i64 0, .string ⟨#[]⟩, .int .i64 0] 41)).heap.size = w1.heap.size + 1 := by simp
        rw [hs] at h
        exact h)
      have hN1 : ((w1.alloc (.cells #[.int .i64 0, .string ⟨#[]⟩, .int .i64 0] 41)).alloc (.cells #[.int .i64 2, .string ⟨#[]⟩, .string ⟨#[]⟩, .string nm, .int .i64 0, .int .i64 0, .slice (some ⟨w1.heap.size, 0, none⟩) 1 1, .slice none 0 0] 39)).heap[w1.heap.size]? = some (.cells #[.int .i64 0, .string ⟨#[]⟩, .int .i64 0] 41 (0, 0)) := by
        rw [Lib.alloc_old _ _ _ (by simp)]; exact heap_alloc_new w1 _
      have HN1 := hid hN1
      have hBF : Below w1.heap.size w1 ((w1.alloc (.cells #[.int .i64 0, .string ⟨#[]⟩, .int .i64 0] 41)).alloc (.cells #[.int .i64 2, .string ⟨#[]⟩, .string ⟨#[]⟩, .string nm, .int .i64 0, .int .i64 0, .slice (some ⟨w1.heap.size, 0, none⟩) 1 1, .slice none 0 0] 39)) := (below_new _).trans ((below_new _).mono (by simp))
      have BF := hid hBF
      have BWF := hid (hr1.trans (hBF.mono hr1.size))
      have HSRC : Hid (∀ j u, (cellsP ys)[j]? = some u → ((w1.alloc (.cells #[.int .i64 0, .string ⟨#[]⟩, .int .i64 0] 41)).alloc (.cells #[.int .i64 2, .string ⟨#[]⟩, .string ⟨#[]⟩, .string nm, .int .i64 0, .int .i64 0, .slice (some ⟨w1.heap.size, 0, none⟩) 1 1, .slice none 0 0] 39)).cell? ((⟨b, o, none⟩ : Addr).add j) = some u) := hid fun j u hu => by
        have e : ((⟨b, o, none⟩ : Addr).add j) = ⟨b, o + j, none⟩ := by simp [Addr.add]
        rw [e, BWF.out.cell (p := ⟨b, o + j, none⟩) hb]
        exact HCE.out j u hu
      have HONE := hid (cellsP_one HRY.out)
      have HLN : Hid ((cellsP ys).length = la.length * 8) := hid (by rw [cellsP_len, HYL.out])
      clear hr1 hN1 hBF
      go_wp2_with (at_builtin; refine wpList_append_own _ rfl _ _ 23 rfl w1.heap.size 39 ip (.agg #[.int .i64 0, .string ⟨#[]⟩, .string ⟨#[]⟩, .string ⟨#[]⟩, .int .i64 0, .int .i64 0, .slice none 0 0, .slice none 0 0]) 8 120 Tryz.underlying23 hip hz0 hz1 hz2 rfl (by decide) _ _ _ rfl HOF.out ⟨b, o, none⟩ la.length cap (cellsP ys) rfl HLN.out HSRC.out HONE.out ?c3 ?c4 ?c5 ?_)
      case c3 => unfold maxLen; omega
      case c4 => omega
      case c5 => exact BF.out.size
      intro v4 w4 hown hgrow _
      have hrow : (Value.slice (some ⟨w1.heap.size + 1, 0, none⟩) 1 1).ownBlock = some (w1.heap.size + 1) := rfl
      rw [hrow] at hgrow
      have O4 : OwnP w1.heap.size v4 ((funP nm, .slice (some ⟨w1.heap.size, 0, none⟩) 1 1, .slice none 0 0) :: ys) w4 := by
        unfold OwnP
        rw [List.length_cons, HYL.out, Nat.add_comm]
        exact hown
      have hz1' := B1.out.size
      have BW4' : Below W.heap.size W w4 := BWF.out.grown hgrow (by simp; omega) (fun k hk => by have := Option.some.inj hk; omega)
      have hN4 : w4.heap[w1.heap.size]? = some (.cells #[.int .i64 0, .string ⟨#[]⟩, .int .i64 0] 41 (0, 0)) := (hgrow.block _ (by simp; omega) (by simp)).trans HN1.out
      have RY : RdY w4 w4.heap.size ((funP nm, .slice (some ⟨w1.heap.size, 0, none⟩) 1 1, .slice none 0 0) :: ys) := fun y' hy' => by
        rcases List.mem_cons.1 hy' with rfl | h
        · have cn := fun j => Lib.cell_of_heap hN4 j
          refine ⟨⟨_, 1, rfl, by show 1 ≤ 1; omega, by decide, fun h => (by cases h), fun _ => ⟨w1.heap.size, 0, rfl, heap_lt hN4, fun i hi => ?_⟩⟩, rd_nil _ _⟩
          have : i = 0 := by simpa [funP] using hi
          subst this
          exact ⟨cn 0, cn 1, cn 2⟩
        · have := HRY.out y' h
          exact ⟨((this.1.low BW4').mono BW4'.size), ((this.2.low BW4').mono BW4'.size)⟩
      have R4 := O4.rdp (by simp) RY
      have e4 : ((funP nm, Value.slice (some ⟨w1.heap.size, 0, none⟩) 1 1, Value.slice none 0 0) :: ys).map (·.1) = funP nm :: la := by rw [List.map_cons, HYS.out]
      rw [e4] at R4
      obtain ⟨g4, c4, hv4, -⟩ := O4.form (by simp)
      obtain ⟨n4, hn4⟩ : ∃ n, n = ((funP nm, Value.slice (some ⟨w1.heap.size, 0, none⟩) 1 1, Value.slice none 0 0) :: ys).length := ⟨_, rfl⟩
      rw [← hn4] at hv4
      subst hv4
      have B4 := hid BW4'
      have RF4 := hid R4
      have HRF := hid (raright_any (funP nm :: la) HSF.out _ _ R4)
      clear hown hgrow O4 BW4' hN4 RY R4 e4 hn4 HN1 BF BWF HSRC hrow
      cases hrf : E.rightL (funP nm :: la) with
      | false =>
        rw [hrf] at HRF
        clear hrf
        go_wp2_with fail
        refine (HRF.out).mono ?_
        rintro e w5 ⟨rfl, h5⟩
        have B5 := hid (B4.out.trans (h5.mono B4.out.size))
        go_wp2_with fail
        refine (AL.out _ B5.out).mono ?_
        rintro e w6 ⟨rfl, h6⟩
        go_wp2
        go_ret
        exact ⟨rfl, B5.out.trans (h6.mono B5.out.size)⟩
      | true =>
        rw [hrf] at HRF
        have hokf := fun_right HLX.out HOK.out hrf
        have HRL := hid hrf
        have HFF := hid (fun (W' : World) (hW : Below w4.heap.size w4 W') => afree_any (funP nm) (.cons x ks .nil) (E.ok_fit _ hokf) (by
          have e : funP nm :: (E.Fo.cons x ks .nil).flat = funP nm :: la := by rw [HLX.out]; simp [E.Fo.flat]
          rw [e]
          intro y hy
          rcases List.mem_cons.1 hy with rfl | h
          · exact ⟨by show (-1000000 : Int) ≤ 0; decide, by show (0 : Int) ≤ 1000000; decide⟩
          · exact HMY.out y h) (by have := congrArg List.length HLX.out; simp [E.Fo.flat] at this ⊢; omega) (.slice (some ⟨g4, 0, none⟩) n4 c4) W' (by
          have e : funP nm :: (E.Fo.cons x ks .nil).flat = funP nm :: la := by rw [HLX.out]; simp [E.Fo.flat]
          rw [e]
          exact RF4.out.below hW) ((HK.out.grows B4.out).grows hW) (by have := hW.size; have := B4.out.size; omega))
        rw [free_fun] at HFF
        obtain ⟨LS, hLS⟩ : ∃ LS, LS = freeS (E.freeT x ks []) := ⟨_, rfl⟩
        rw [← hLS] at HFF HFR
        obtain ⟨MS, hMS⟩ : ∃ MS, MS = LS.filter (fun s => decide (s ≠ nm)) := ⟨_, rfl⟩
        rw [← hMS] at HFF
        have HMS := hid hMS
        have hLl : LS.length ≤ 1000 := by
          rw [hLS]
          unfold freeS
          rw [List.length_map]
          have h1 := Lib.compact_length_le ((List.map (fun x => x.data.toList) (E.freeT x ks [])).mergeSort fun x y => decide (x ≤ y))
          rw [List.length_mergeSort, List.length_map] at h1
          have h2 := (E.Fo.cons x ks .nil).free_length (⟨3, ⟨#[]⟩, ⟨#[]⟩, ⟨#[]⟩, 0, 0, [], []⟩) 0 []
          have h3 : (E.freeT x ks []).length ≤ (E.Fo.cons x ks .nil).flat.length := by
            refine Nat.le_trans ?_ h2
            rw [E.Fo.free_cons]
            show (E.freeT x ks []).length ≤ (E.freeT x ks ([] ++ []) ++ []).length
            simp
          have h4 := congrArg List.length HLX.out
          simp [E.Fo.flat] at h3 h4
          omega
        have hMl : MS.length ≤ 1000 := by rw [hMS]; exact Nat.le_trans (List.length_filter_le _ _) hLl
        clear hrf hokf hLS hMS
        go_wp2_with fail
        refine (HRF.out).mono ?_
        rintro e w5 ⟨rfl, h5⟩
        have B5 := hid (B4.out.trans (h5.mono B4.out.size))
        have BB5 := hid h5
        clear h5
        go_wp2_with fail
        refine (HFR.out _ B5.out).mono ?_
        rintro e w6 ⟨vl, rfl, ol, h6⟩
        have B6 := hid (B5.out.trans (h6.mono B5.out.size))
        have BB6 := hid (BB5.out.trans (h6.mono BB5.out.size))
        have RL6 := hid ol.rd
        obtain ⟨Al, cl, rfl⟩ := ol.val
        clear h6 ol
        go_wp2_with fail
        refine (HFF.out _ BB6.out).mono ?_
        rintro e w7 ⟨vm, rfl, om, h7⟩
        have B7 := hid (B6.out.trans (h7.mono B6.out.size))
        have BB7 := hid (BB6.out.trans (h7.mono BB6.out.size))
        have RL7 := hid (RL6.out.below h7)
        have RM7 := hid om.rd
        obtain ⟨Am, cm, rfl⟩ := om.val
        clear h7 om
        go_wp2
        go_loopw [8, 9] (fun v8 v9 wr => ∃ i k : Nat, v8 = .int .i64 k ∧ v9 = .int .i64 i ∧ i ≤ LS.length ∧ k ≤ MS.length ∧ Hid (MS.drop k = (LS.drop i).filter (fun s => decide (s ≠ nm))) ∧ Hid (Below w7.heap.size w7 wr)) (fun _ v9 _ => LS.length - (intOf v9).toNat)
        case atStart => exact ⟨0, 0, rfl, rfl, by omega, by omega, HMS, hid (Below.refl _ _)⟩
        case round =>
          obtain ⟨i, k, rfl, rfl, hi, hk, hD, BR⟩ := hrel
          by_cases hlt : i < LS.length
          · have hil : (i : Int) < (LS.length : Int) := by omega
            have RLr := hid (RL7.out.below BR.out)
            have RMr := hid (RM7.out.below BR.out)
            obtain ⟨A', c', hv', hcl⟩ := RLr.out
            simp only [Value.slice.injEq, true_and] at hv'
            obtain ⟨rfl, rfl⟩ := hv'
            obtain ⟨bl, ol, rfl, hbl, hcl⟩ := hcl (by rintro rfl; simp at hlt)
            have cl1 := hcl i hlt
            have hst := hid (hD.out.trans (by rw [List.drop_eq_getElem_cons hlt, List.filter_cons]))
            clear hcl
            generalize LS[i] = s at *
            have hse := eqS s nm
            by_cases hs : s = nm
            · have e1 : (s.toList == nm.toList) = true := by rw [hse]; simp [hs]
              have HD2 : Hid (MS.drop k = (LS.drop (i + 1)).filter (fun s => decide (s ≠ nm))) := hid (by rw [hst.out, if_neg (by simp [hs])])
              clear hse hs hD
              go_wp2
              go_roundw
              case rel => first | exact ⟨i + 1, k, by go_num, by go_num, by omega, hk, HD2, BR⟩ | ((repeat apply Exists.intro); exact ⟨⟨i + 1, k, by go_num, by go_num, by omega, hk, HD2, BR⟩, rfl⟩)
              case measure => simp [intOf]; omega
            · have e1 : (s.toList == nm.toList) = false := by rw [hse]; simp [hs]
              have hst2 : MS.drop k = s :: (LS.drop (i + 1)).filter (fun s => decide (s ≠ nm)) := by rw [hst.out, if_pos (by simp [hs])]
              have hkl : k < MS.length := by
                rcases Nat.lt_or_ge k MS.length with h | h
                · exact h
                · rw [List.drop_eq_nil_of_le h] at hst2; cases hst2
              have hkd := List.drop_eq_getElem_cons hkl
              rw [hst2] at hkd
              injection hkd with hks hkr
              have HD2 : Hid (MS.drop (k + 1) = (LS.drop (i + 1)).filter (fun s => decide (s ≠ nm))) := hid hkr.symm
              obtain ⟨A'', c'', hv'', hcm⟩ := RMr.out
              simp only [Value.slice.injEq, true_and] at hv''
              obtain ⟨rfl, rfl⟩ := hv''
              obtain ⟨bm, om, rfl, hbm, hcm⟩ := hcm (by rintro rfl; simp at hkl)
              have cm1 := hcm k hkl
              rw [← hks] at cm1
              have hkl2 : ¬ (MS.length : Int) ≤ (k : Int) := by omega
              have hkl3 : (k : Int) < (MS.length : Int) := by omega
              have e2 : (s.toList == s.toList) = true := by simp
              clear hse hs hD hst hst2 hks hkr hcm
              go_wp2
              go_quiet (fail)
              go_wp2
              go_roundw
              case rel => first | exact ⟨i + 1, k + 1, by go_num, by go_num, by omega, by omega, HD2, hid (below_drewN BR.out _)⟩ | ((repeat apply Exists.intro); exact ⟨⟨i + 1, k + 1, by go_num, by go_num, by omega, by omega, HD2, hid (below_drewN BR.out _)⟩, rfl⟩)
              case measure => simp [intOf]; omega
          · have hke : k = MS.length := by
              have h1 := hD.out
              rw [List.drop_eq_nil_of_le (show LS.length ≤ i by omega), List.filter_nil, List.drop_eq_nil_iff] at h1
              omega
            have hil : ¬ (i : Int) < (LS.length : Int) := by omega
            have HKE : ((k : Int) == (MS.length : Int)) = true := by rw [hke]; simp
            have B8 := hid (B7.out.trans (BR.out.mono B7.out.size))
            have BB8 := hid (BB7.out.trans (BR.out.mono BB7.out.size))
            clear hke
            go_wp2_with fail
            refine (AL.out _ B8.out).mono ?_
            rintro e w9 ⟨rfl, h9⟩
            have B9 := hid (B8.out.trans (h9.mono B8.out.size))
            have BB9 := hid (BB8.out.trans (h9.mono BB8.out.size))
            have HRG := hid (aright_all (funP nm :: la) HSF.out _ _ (RF4.out.below BB9.out) ((HK.out.grows B9.out)) ((HM.out.grows B9.out)))
            rw [HRL.out] at HRG
            clear h9
            go_wp2_with fail
            refine (HRG.out).mono ?_
            rintro e w10 ⟨rfl, h10⟩
            go_wp2
            go_ret
            exact ⟨rfl, B9.out.trans (h10.mono B9.out.size)⟩

set_option maxRecDepth 100000 in
theorem astBound_lifted (os : Os) (started : os.Started) (H : Type) (enc : TypeId × Value → H) :
    ReturnsInHanded {} Tryz.checked os 8 .any (fun w args => (Rows.astBoundSpec.pre enc Tryz.prog Tryz.f8 [] false w args ∧ laidMetH Tryz.prog laidAll w) ∧ sizedMet enc Tryz.prog Tryz.f8 (OpenSpec.ofChange Rows.astBoundSpec) false w args)
      (Rows.astBoundSpec.post enc Tryz.prog Tryz.f8 false true false false) := by
  refine wrap_shaped (C := Tryz.checked) (X := fun w _ => laidMetH Tryz.prog laidAll w) (fun _ _ _ hh h => h.of_heap hh) own started (by kernel_rfl) Tryz.func8
    (ChangeSpec.witness_shaped (enc := enc) (C := Tryz.checked) (os := os) (X := fun w _ => laidMetH Tryz.prog laidAll w) false (World.doorLaid Tryz.prog 400 os) #[.slice none 0 0, .string ⟨#[]⟩] 8 rfl (World.shaped_of_RefB (by kernel_rfl) (by kernel_rfl)) (by kernel_rfl) (by kernel_rfl) (by kernel_rfl) (door_met os _)) ?_
  intro W base args ds gs before hval0 hW hSh hL
  obtain ⟨hT, hK⟩ := tabs_of_laid hL
  have hM := mcell_of_shaped hSh (by have := hT.size; omega)
  have hlts := hW.lt
  have hval : ∀ (j : Nat) t v, Tryz.f8.params[j]? = some t → args[j]? = some v → Value.okWide Tryz.prog W .any base t v := hval0
  have hW' := hW
  obtain ⟨p, q, hA0, hV, rfl, hfz, hnd⟩ := hW
  have hA : DataW.TrodAll enc Tryz.prog W 0 (fun _ => true) true Tryz.f8.params.toList args.toList ds p := hA0
  rw [Tryz.params8] at hA hval
  obtain ⟨v0, vs0, d0, ds0, p0, q0, hargs, rfl, rfl, h0, r0⟩ := trodAll_cons hA
  obtain ⟨v1, vs1, d1, ds1, p1, q1, hargs1, rfl, rfl, h1, r1⟩ := trodAll_cons r0
  obtain ⟨hn, rfl, rfl⟩ := trodAll_nil r1
  obtain rfl : args = #[v0, v1] := by cases args; simp_all
  obtain ⟨rfl, rfl⟩ := trodVars_none hV
  obtain ⟨sa0, sl0, sc0, hsv0⟩ := okWide_slice Tryz.underlying23 (hval 0 23 v0 rfl rfl)
  obtain ⟨a1, rfl, rfl, rfl, w1⟩ := open_string Tryz.underlying9 (hval 1 9 v1 rfl rfl) h1
  obtain ⟨fuel0, hf0⟩ := h0
  obtain ⟨u0, l0, hu0, hR0, hn0⟩ := rdp_of_trod hf0
  obtain rfl : v0 = u0 := by
    rw [hsv0] at hu0
    rw [hsv0]
    simpa [Value.cells] using hu0
  clear hA0 hval0
  simp only [List.append_nil] at hW' hlts
  refine (astBound_true v0 l0 hR0 hn0 a1 w1 hT hK hM).mono fun e W' ⟨he, hB⟩ => ?_
  subst he
  refine ⟨_, rfl, _, _, _, [], (p0 ++ ([] ++ [])), [], by simpa using hW', ?_, ?_, ?_, hB.frame _, fun h => by cases h⟩
  · exact trodAll_cons_mk (shut_bool Tryz.underlying4 _) trodAll_mk0
  · exact (trodAll_cons_mk (Below.trod (by kernel_rfl) (by kernel_rfl) (of_decide_eq_true (by kernel_rfl)) ⟨fuel0, hf0⟩ hB (fun x hx => hlts x (by simp [hx]))) (trodAll_cons_mk (shut_string Tryz.underlying9 w1) trodAll_mk0))
  · rfl

/-- AstBound: the row. -/
theorem astBound_holds : Rows.AstBoundSaid :=
  OpenClaim.holds_of_wide 8 Tryz.f8 rfl rfl rfl rfl rfl rfl rfl ⟨rfl, rfl, rfl, rfl, rfl⟩ rfl rfl rfl rfl rfl (by kernel_rfl) Tryz.func8 (by kernel_rfl)
    (of_decide_eq_true (by kernel_rfl)) (by unfold Func.isWrapper; first | (rw [if_pos (by decide +kernel)]; kernel_rfl) | (rw [if_neg (by decide +kernel)]; exact ⟨rfl, rfl⟩))
    (fun os started H enc _ => astBound_lifted os started H enc)

/-- AstBound: the given statement, the card: the four tables are tied to the program's text. -/
theorem astBound_card : Rows.AstBoundCardSaid :=
  Claim7.holds_tied_plain_at .later [] [.data, .data, .data, .data] true Rows.astBoundCard.stood.harness false
    astBound_holds (fun _ h => by cases h) (by kernel_rfl) (fun _ h => by cases h) astBound_row_tie rfl ⟨rfl, rfl⟩ (by kernel_rfl) rfl
    (fun f fn hf hfn => by
      obtain rfl : f = 8 := Option.some.inj ((show Tryz.prog.funcNamed "leaven/leavenlaw05.AstBound" = some 8 by kernel_rfl).symm.trans hf) |>.symm
      obtain rfl : fn = Tryz.f8 := (Option.some.inj (Tryz.func8.symm.trans hfn)).symm
      exact ⟨by kernel_rfl, fun j t ht => by
        rw [Tryz.params8] at ht
        have hm : t ∈ [23, 9] := by simpa using Array.mem_of_getElem? ht
        have hall : ([23, 9].all fun u => !Tryz.prog.wantsStandIn u) = true := by kernel_rfl
        exact (show Tryz.prog.wantsStandIn t = false by simpa using List.all_eq_true.1 hall t hm)⟩)
    (by kernel_rfl)

end Go.Proofs.YtddabgiphdkjnaaGreatDoor.astBound
