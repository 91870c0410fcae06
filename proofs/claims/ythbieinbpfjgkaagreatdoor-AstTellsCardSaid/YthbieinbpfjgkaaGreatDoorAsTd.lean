/-
  The walk of the reference's free. Conditions: a slice that reads as parts, of which an expression's tree stands at a place; few parts; the bound names read as texts, not too many.
-/
import Derived.Test.YthbieinbpfjgkaaGreatDoorAsTc
import Derived.Test.YthbieinbpfjgkaaGreatDoorAsTb
namespace Go.Proofs.YthbieinbpfjgkaaGreatDoor
open Go.RowKit Go.Sort

theorem mem_two (a b s : ByteArray) (bs ms : List ByteArray) (h : ∀ u, u ∈ ms ↔ u ∈ bs) : s ∈ (ms ++ [a]) ++ [b] ↔ s ∈ bs ++ [b, a] := by
  simp only [List.mem_append, h, List.mem_cons, List.mem_nil_iff, or_false]
  constructor
  · rintro ((h | h) | h)
    · exact Or.inl h
    · exact Or.inr (Or.inr h)
    · exact Or.inr (Or.inl h)
  · rintro (h | h | h)
    · exact Or.inl (Or.inl h)
    · exact Or.inr h
    · exact Or.inl (Or.inr h)

namespace E
def b1 (x : Pt) (k : Nat) : List ByteArray := if x.kind = 2 ∨ x.kind = 8 ∨ (x.kind = 4 ∧ k = 1) ∨ (x.kind = 5 ∧ k = 0) then [x.bind] else []
def b2 (x : Pt) : List ByteArray := if x.kind = 5 then [x.name] else []
theorem b1_len (x : Pt) (k : Nat) : (b1 x k).length ≤ 1 := by unfold b1; split <;> simp
theorem b2_len (x : Pt) : (b2 x).length ≤ 1 := by unfold b2; split <;> simp
theorem binds_as {x : Pt} {k : Nat} (bs : List ByteArray) (h : x.kind = 5 → k < 2) : ∀ s, s ∈ (bs ++ b1 x k) ++ b2 x ↔ s ∈ bs ++ bindsL x k := by
  intro s
  by_cases h5 : x.kind = 5
  · have := h h5
    by_cases h0 : k = 0
    · rw [show b1 x k = [x.bind] by unfold b1; rw [if_pos (Or.inr (Or.inr (Or.inr ⟨h5, h0⟩)))], show b2 x = [x.name] by unfold b2; rw [if_pos h5], show bindsL x k = [x.name, x.bind] by unfold bindsL; rw [if_neg (by rintro (h | h | h) <;> omega), if_pos ⟨h5, h0⟩]]
      exact mem_two _ _ s bs bs (fun _ => Iff.rfl)
    · rw [show b1 x k = [] by unfold b1; rw [if_neg (by rintro (h | h | h | h) <;> omega)], show b2 x = [x.name] by unfold b2; rw [if_pos h5], show bindsL x k = [x.name] by unfold bindsL; rw [if_neg (by rintro (h | h | h) <;> omega), if_neg (by omega), if_pos ⟨h5, by omega⟩], List.append_nil]
  · rw [show b2 x = [] by unfold b2; rw [if_neg h5], List.append_nil]
    by_cases hb : x.kind = 2 ∨ x.kind = 8 ∨ (x.kind = 4 ∧ k = 1)
    · rw [show b1 x k = [x.bind] by unfold b1; rw [if_pos (by omega)], show bindsL x k = [x.bind] by unfold bindsL; rw [if_pos hb]]
    · rw [show b1 x k = [] by unfold b1; rw [if_neg (by omega)], show bindsL x k = [] by unfold bindsL; rw [if_neg hb, if_neg (by omega), if_neg (by omega)]]
end E

set_option maxHeartbeats 8000000 in
set_option maxRecDepth 100000 in
theorem rfree_any (l : List E.Pt) (hF : FewP l) (hR : ∀ y ∈ l, E.many y = E.manyR y) (hll : l.length ≤ 120) (v : Value) : ∀ (n : Nat) (x : E.Pt) (ks : E.Fo), ks.flat.length < n → (E.Fo.cons x ks .nil).ok = true →
    ∀ (rest : List E.Pt) (q : Nat) (w : World) (bs : List ByteArray) (vb : Value), l.drop q = x :: (ks.flat ++ rest) → RdP w w.heap.size v l → RdS w w.heap.size vb bs → (bs = [] → vb = .slice none 0 0 ∨ ∃ ad cap, vb = .slice (some ad) 0 cap) → bs.length + 2 * (ks.flat.length + 1) ≤ 1000 →
    Calls Tryz.prog 54 #[v, .int .i64 q, vb] w fun e w' => ∃ v', e = .returned v' ∧ OwnS w.heap.size v' (E.freeT x ks bs) w' ∧ Below w.heap.size w w' := by
  intro n
  induction n with
  | zero => intro x ks h; omega
  | succ n ih =>
    intro x ks hn hok rest q w bs vb hd hx hbs hbe hbl
    have IH := hid ih
    clear ih
    obtain ⟨hq, hxq, hdn⟩ := drop_atP hd
    obtain ⟨hsnd, hmany, hst, hkok, -⟩ := E.ok_cons hok
    have HKC := hid (fun (W : World) (hW : Below w.heap.size w W) => rkids_any l hF hR v q hq W (hx.below hW))
    rw [hxq, hmany, Int.toNat_natCast] at HKC
    obtain ⟨kl, hkl⟩ : ∃ kl, kl = E.kidsL l ks.count (q + 1) := ⟨_, rfl⟩
    rw [← hkl] at HKC
    have hkc : kl.length = ks.count := by rw [hkl]; exact (E.kids_flat l x ks (q + 1) 0 [] rest hkok hdn).1
    have hkc60 : kl.length ≤ 60 := by have := (E.many_of_sound hsnd).2; omega
    have hfl : q + 1 + ks.flat.length ≤ 120 := by
      have := congrArg List.length hd
      simp at this
      omega
    have HKL := hid hkl
    have HKC2 := hid hkc
    have HDN := hid hdn
    have HOK := hid hkok
    have HSND := hid hsnd
    have HMN := hid hmany
    have HX := hid hx
    have HBS := hid hbs
    have HBE := hid hbe
    obtain ⟨A, cap, rfl, hl1, hl2, hcx⟩ := hx
    unfold maxLen at hl2
    obtain ⟨b, o, rfl, hb, hcx⟩ := hcx (by rintro rfl; simp at hq)
    obtain ⟨vt, vu, x0, x1, x2, x3, x4, x5, x6, x7, ht, hu⟩ := hcx q hq
    rw [hxq] at x0 x1 x2 x3 x4 x5 ht hu
    obtain ⟨A1, c1, rfl⟩ : ∃ A1 c1, vt = .slice A1 x.t.length c1 := by obtain ⟨A1, c1, h, -⟩ := ht; exact ⟨A1, c1, h⟩
    obtain ⟨A2, c2, rfl⟩ : ∃ A2 c2, vu = .slice A2 x.u.length c2 := by obtain ⟨A2, c2, h, -⟩ := hu; exact ⟨A2, c2, h⟩
    obtain ⟨Ab, cb, rfl⟩ : ∃ Ab cb, vb = .slice Ab bs.length cb := by obtain ⟨A3, c3, h, -⟩ := hbs; exact ⟨A3, c3, h⟩
    obtain ⟨k1, hk1⟩ : ∃ k, k = x.kind := ⟨_, rfl⟩
    obtain ⟨s2, hs2⟩ : ∃ k, k = x.name := ⟨_, rfl⟩
    obtain ⟨s3, hs3⟩ : ∃ k, k = x.bind := ⟨_, rfl⟩
    rw [← hk1] at x0
    rw [← hs2] at x2
    rw [← hs3] at x3
    generalize x.label = s1 at x1
    generalize x.many = n1 at x4
    generalize x.num = n2 at x5
    generalize x.t.length = tl at x6
    generalize x.u.length = ul at x7
    have HK1 := hid hk1
    have HS2 := hid hs2
    have HS3 := hid hs3
    have hqz : (q : Int) < (l.length : Int) := by omega
    have hq0 : (0 : Int) ≤ (q : Int) := by omega
    obtain ⟨O, hO⟩ : ∃ O : Array Value, O = #[.int .i64 k1, .string s1, .string s2, .string s3, .int .i64 n1, .int .i64 n2, .slice A1 tl c1, .slice A2 ul c2] := ⟨_, rfl⟩
    have N0 : Hid ((w.alloc (.cells O 39)).heap[w.heap.size]? = some (.cells O 39 (0, 0))) := hid (heap_alloc_new w _)
    have Z0 : Hid ((w.alloc (.cells O 39)).heap.size = w.heap.size + 1) := hid (by simp)
    have HA0 : Hid (Below w.heap.size w (w.alloc (.cells O 39))) := hid (below_new _)
    have HIN : Hid (∀ W, Below w.heap.size w W → Calls Tryz.prog 81 #[.slice Ab bs.length cb, .string s2] W fun e w' => e = .returned (.bool (Lib.containsS bs s2)) ∧ W = w') := hid fun W hW => rin_any bs (by omega) s2 _ W (HBS.out.below hW)
    obtain ⟨is, his, hzs0, hzs1, hzs2⟩ := info_parts infoStr
    subst hO
    have hbl' : bs.length ≤ 1000 := by omega
    clear hcx ht hu hk1 hs2 hs3 hF hR hd hdn hkok hst hok hsnd hkl hkc hmany hxq hbs hbe
    have HEX : Hid (x.kind = 1 → Lib.containsS bs x.name = true ∨ Lib.containsS bs x.name = false) := hid fun _ => by cases Lib.containsS bs x.name <;> simp
    by_cases hname : k1 = 1 ∧ Lib.containsS bs s2 = false
    · -- the name is free
      obtain ⟨hk, hc⟩ := hname
      have kx : x.kind = 1 := HK1.out.symm.trans hk
      have hks : ks = .nil := by
        have hm0 : E.many x = 0 := E.many_of kx (by decide) (by decide) (by decide) (E.snd1 HSND.out kx).2.2.1
        exact E.count0 (by have := HMN.out; omega)
      have HV : Hid (E.freeT x ks bs = [s2]) := hid (by
        rw [hks]
        unfold E.freeT E.ownN
        rw [if_pos ⟨kx, by rw [← HS2.out]; exact hc⟩, ← HS2.out]
        rfl)
      rw [hc] at HIN
      subst hk
      rw [HV.out]
      clear hc kx hks HV HKC
      have cN0 := Lib.cell_of_heap N0.out 0
      have cN2 := Lib.cell_of_heap N0.out 2
      simp only [List.getElem?_toArray] at cN0 cN2
      go_enter Tryz.func54, Tryz.ntmps54
      go_wp2_with fail
      generalize (w.alloc (.cells #[.int .i64 1, .string s1, .string s2, .string s3, .int .i64 n1, .int .i64 n2, .slice A1 tl c1, .slice A2 ul c2] 39)) = w0 at *
      refine (HIN.out _ HA0.out).mono ?_
      rintro e w1 ⟨rfl, hw1⟩
      subst hw1
      go_wp2
      go_ret
      refine ⟨_, rfl, ?_, HA0.out.alloc HA0.out.size _⟩
      have h := World.ownsRow_lit (base := w.heap.size) (e := 9) (size := 1) w0 #[.string s2] 1 HA0.out.size (by unfold maxLen; omega) rfl
      simpa [OwnS, Z0.out] using h
    have HNM : Hid (E.ownN x bs = []) := hid (by
      unfold E.ownN
      rw [if_neg]
      rintro ⟨h1, h2⟩
      exact hname ⟨HK1.out.trans h1, by rw [HS2.out]; exact h2⟩)
    have HB0 : Hid (Below (w.heap.size + 1) (w.alloc (.cells #[.int .i64 k1, .string s1, .string s2, .string s3, .int .i64 n1, .int .i64 n2, .slice A1 tl c1, .slice A2 ul c2] 39)) ((w.alloc (.cells #[.int .i64 k1, .string s1, .string s2, .string s3, .int .i64 n1, .int .i64 n2, .slice A1 tl c1, .slice A2 ul c2] 39)).alloc (.cells #[] 9))) := hid ((below_new _).mono (by simp))
    have HW0 : Hid (OwnS (w.heap.size + 1) (.slice (some ⟨w.heap.size + 1, 0, none⟩) 0 0) [] ((w.alloc (.cells #[.int .i64 k1, .string s1, .string s2, .string s3, .int .i64 n1, .int .i64 n2, .slice A1 tl c1, .slice A2 ul c2] 39)).alloc (.cells #[] 9))) := hid (by
      have h := World.ownsRow_made (w.alloc (.cells #[.int .i64 k1, .string s1, .string s2, .string s3, .int .i64 n1, .int .i64 n2, .slice A1 tl c1, .slice A2 ul c2] 39)) (e := 9) (base := w.heap.size + 1) (size := 1) #[] 0 (by simp) (Nat.zero_le _) (by simp)
      simpa [OwnS] using h)
    have HNAME := hid hname
    have HK5 : Hid (x.kind = 5 → kl.length = 2) := hid fun h5 => by
      have h1 : E.many x = 2 := (E.many_of h5 (by decide) (by decide) (by decide) (E.snd5 HSND.out h5).2.2.2.2.1).trans rfl
      have := HMN.out
      have := HKC2.out
      omega
    clear hname
    go_enter Tryz.func54, Tryz.ntmps54
    go_upto_region 2 with fail
    generalize (w.alloc (.cells #[.int .i64 k1, .string s1, .string s2, .string s3, .int .i64 n1, .int .i64 n2, .slice A1 tl c1, .slice A2 ul c2] 39)) = w0 at *
    go_cut [25] from 16 to 25 (fun s25 wx => s25 = .bool false ∧ wx = w0)
    case first =>
      have cN0 := Lib.cell_of_heap N0.out 0
      have cN2 := Lib.cell_of_heap N0.out 2
      simp only [List.getElem?_toArray] at cN0 cN2
      by_cases hk : k1 = 1
      · have hc : Lib.containsS bs s2 = true := by
          cases h : Lib.containsS bs s2 with
          | true => rfl
          | false => exact absurd ⟨hk, h⟩ HNAME.out
        rw [hc] at HIN
        subst hk
        clear hc
        go_wp2_with fail
        refine (HIN.out _ HA0.out).mono ?_
        rintro e w1 ⟨rfl, hw1⟩
        subst hw1
        go_wp2
        go_meet
        exact ⟨rfl, rfl⟩
      · have f1 : (k1 == 1) = false := beq_eq_false_iff_ne.2 hk
        clear hk
        go_wp2
        go_meet
        exact ⟨rfl, rfl⟩
    case rest =>
      obtain ⟨rfl, hwc⟩ := hcut
      subst hwc
      obtain ⟨w0, hw0⟩ : ∃ w0, w0 = wc := ⟨_, rfl⟩
      subst hw0
      have hz00 := HB0.out.size
      go_wp2_with fail
      refine (HKC.out _ (HA0.out.trans (HB0.out.mono (by omega)))).mono ?_
      rintro e w1 ⟨v1, rfl, hO1, hb1⟩
      obtain ⟨A5, c5, hv5, -⟩ := hO1.rd
      have B1 := hid (HB0.out.trans (hb1.mono (by have := Z0.out; omega)))
      have RI1 := hid (show OwnI (w.heap.size + 1) v1 kl w1 from row_more hO1 (by have := Z0.out; omega))
      have HW0b : Hid (OwnS (w.heap.size + 1) (.slice (some ⟨w0.heap.size, 0, none⟩) 0 0) [] (w0.alloc (.cells #[] 9))) := hid (by rw [Z0.out]; exact HW0.out)
      have W1 := hid (HW0b.out.below hb1)
      subst hv5
      clear hb1 hO1 HKC HB0 HW0 HW0b hz00 HIN HEX
      go_wp2
      go_loopw [8, 10] (fun vo vk wr => ∃ (k p : Nat) (g : E.Fo) (fs : List ByteArray), vk = .int .i64 k ∧ k + g.count = kl.length ∧ g.flat.length ≤ ks.flat.length ∧ Hid (OwnS (w.heap.size + 1) vo fs wr) ∧ fs.length ≤ 120 ∧ Hid (g.ok = true ∧ l.drop p = g.flat ++ rest ∧ kl.drop k = E.kidsL l g.count p ∧ fs ++ g.free x k bs = ks.free x 0 bs) ∧ Hid (Below (w.heap.size + 1) w0 wr) ∧ Hid (OwnI (w.heap.size + 1) (.slice A5 kl.length c5) kl wr)) (fun _ vk _ => kl.length - (intOf vk).toNat)
      case atStart => exact ⟨0, q + 1, ks, [], rfl, by rw [HKC2.out]; omega, Nat.le_refl _, W1, by simp, hid ⟨HOK.out, HDN.out, by rw [List.drop_zero]; exact HKL.out, rfl⟩, B1, RI1⟩
      case round =>
        obtain ⟨k, p, g, fs, rfl, hkg, hgf, hW, hfs, hI, hB, hKI⟩ := hrel
        obtain ⟨wj, hwj⟩ : ∃ wj, wj = wr := ⟨_, rfl⟩
        subst hwj
        have hbw : w.heap.size + 1 ≤ wj.heap.size := by have := hB.out.size; have := Z0.out; omega
        have hBW := hid (HA0.out.trans (hB.out.mono (by omega)))
        have NJ := hid ((hB.out.block _ (by omega)).trans N0.out)
        cases g with
        | nil =>
          have hkk : k = kl.length := by simpa [E.Fo.count] using hkg
          have hkz : ¬ (k : Int) < (kl.length : Int) := by omega
          have HV : Hid (E.freeT x ks bs = fs) := hid (by
            have := hI.out.2.2.2
            unfold E.freeT
            rw [HNM.out, ← this]
            simp [E.Fo.free])
          clear hI
          obtain ⟨Ao, co, rfl⟩ := hW.out.val
          go_wp2
          go_ret
          exact ⟨_, rfl, by rw [HV.out]; exact row_more hW.out (by omega), hBW.out⟩
        | cons c kc r =>
          obtain ⟨gok, gd, gk, gp⟩ := hI.out
          obtain ⟨m1, m2, m3, m4, m5⟩ := E.ok_cons gok
          have hdc : l.drop p = c :: (kc.flat ++ (r.flat ++ rest)) := by rw [gd]; simp [E.Fo.flat]
          obtain ⟨ks1, ks2⟩ := E.kidsL_step gok (by rw [hdc] : l.drop p = c :: (kc.flat ++ (r.flat ++ rest)))
          simp only [E.Fo.count] at hkg
          simp only [E.Fo.flat, List.length_cons, List.length_append] at hgf
          have hkl : k < kl.length := by omega
          have hkd := List.drop_eq_getElem_cons hkl
          rw [gk, ks1] at hkd
          injection hkd with hkk hkr
          have HOC : Hid ((E.Fo.cons c kc .nil).ok = true) := hid (by
            simp only [E.Fo.ok, Bool.and_eq_true, Bool.and_true] at gok ⊢
            exact gok.1)
          have HNX : Hid (r.ok = true ∧ l.drop (p + (kc.flat.length + 1)) = r.flat ++ rest ∧ kl.drop (k + 1) = E.kidsL l r.count (p + (kc.flat.length + 1))) := hid ⟨m5, by
            have := E.drop_more (l := l) (a := c :: kc.flat) (b := r.flat ++ rest) (p := p) (by rw [hdc]; simp)
            simpa using this, by rw [← hkr, show p + (kc.flat.length + 1) = p + 1 + kc.flat.length by omega]⟩
          have HGF := hid gp
          have HDC := hid hdc
          have HKK := hid hkk.symm
          have hkz : (k : Int) < (kl.length : Int) := by omega
          clear gok gd gk gp m1 m2 m3 m4 m5 hdc ks1 ks2 hkk hkr hI
          go_upto_region 9 with fail
          have OWN0 : Hid (OwnS wj.heap.size (.slice (some ⟨wj.heap.size, 0, none⟩) 0 0) [] (wj.alloc (.cells #[] 9))) := hid (by
            have h := World.ownsRow_made wj (e := 9) (base := wj.heap.size) (size := 1) #[] 0 (Nat.le_refl _) (Nat.zero_le _) (by simp)
            simpa [OwnS] using h)
          have BA0 := hid (below_new (w := wj) (.cells #[] 9))
          have RB1 := hid ((HBS.out.below hBW.out).below (below_new (w := wj) (.cells #[] 9)))
          go_wp2_with (at_builtin; refine wpList_appE rfl _ _ rfl rfl wj.heap.size _ _ [] bs rfl OWN0.out rfl RB1.out HBE.out (by simp; omega) BA0.out.size ?_)
          intro v3 w3 hO3 hg3 _
          have B3 := hid (BA0.out.grown hg3 BA0.out.size (fun k' hk' => (World.ownsRow.lt OWN0.out k' hk').1))
          have O3 := hid (show OwnS wj.heap.size v3 bs w3 from by simpa using hO3)
          clear hO3
          obtain ⟨A3, c3, rfl⟩ := O3.out.val
          have N3 := hid ((B3.out.block _ (by omega)).trans NJ.out)
          clear hg3 OWN0 RB1
          go_upto_region 10 with fail
          go_cut [67] from 33 to 89 (fun v67 wx => ∃ bb : Bool, v67 = .bool bb ∧ Hid (E.b1 x k = if bb then [s3] else []) ∧ wx = w3)
          case first =>
            by_cases g : k1 = 2
            · have HB1 : Hid (E.b1 x k = if true then [s3] else []) := hid (by unfold E.b1; rw [if_pos (Or.inl (HK1.out.symm.trans g)), HS3.out]; rfl)
              subst g
              have cN3 := fun j => Lib.cell_of_heap N3.out j
              go_wp2_with fail
              go_meet
              exact ⟨true, rfl, HB1, rfl⟩
            have g2 := g
            clear g
            by_cases g : k1 = 8
            · have HB1 : Hid (E.b1 x k = if true then [s3] else []) := hid (by unfold E.b1; rw [if_pos (Or.inr (Or.inl (HK1.out.symm.trans g))), HS3.out]; rfl)
              subst g
              have cN3 := fun j => Lib.cell_of_heap N3.out j
              go_wp2_with fail
              go_meet
              exact ⟨true, rfl, HB1, rfl⟩
            have g8 := g
            clear g
            have kx := HK1.out
            by_cases g : k1 = 4
            · by_cases gk : k = 1
              · have HB1 : Hid (E.b1 x k = if true then [s3] else []) := hid (by unfold E.b1; rw [if_pos (Or.inr (Or.inr (Or.inl ⟨HK1.out.symm.trans g, gk⟩))), HS3.out]; rfl)
                have ek : ((k : Int) == 1) = true := by simp; omega
                clear gk
                subst g
                clear kx
                have cN3 := fun j => Lib.cell_of_heap N3.out j
                go_wp2_with fail
                go_meet
                exact ⟨true, rfl, HB1, rfl⟩
              · have HB1 : Hid (E.b1 x k = if false then [s3] else []) := hid (by unfold E.b1; rw [if_neg (by rintro (h | h | h | h) <;> omega)]; rfl)
                have ek : ((k : Int) == 1) = false := by simp; omega
                clear gk
                subst g
                clear kx
                have cN3 := fun j => Lib.cell_of_heap N3.out j
                go_wp2_with fail
                go_meet
                exact ⟨false, rfl, HB1, rfl⟩
            have g4 := g
            clear g
            by_cases g : k1 = 5
            · by_cases gk : k = 0
              · have HB1 : Hid (E.b1 x k = if true then [s3] else []) := hid (by unfold E.b1; rw [if_pos (Or.inr (Or.inr (Or.inr ⟨HK1.out.symm.trans g, gk⟩))), HS3.out]; rfl)
                have ek : ((k : Int) == 0) = true := by simp; omega
                clear gk
                subst g
                clear kx
                have cN3 := fun j => Lib.cell_of_heap N3.out j
                go_wp2_with fail
                go_meet
                exact ⟨true, rfl, HB1, rfl⟩
              · have HB1 : Hid (E.b1 x k = if false then [s3] else []) := hid (by unfold E.b1; rw [if_neg (by rintro (h | h | h | h) <;> omega)]; rfl)
                have ek : ((k : Int) == 0) = false := by simp; omega
                clear gk
                subst g
                clear kx
                have cN3 := fun j => Lib.cell_of_heap N3.out j
                go_wp2_with fail
                go_meet
                exact ⟨false, rfl, HB1, rfl⟩
            have g5 := g
            clear g
            have HB1 : Hid (E.b1 x k = if false then [s3] else []) := hid (by unfold E.b1; rw [if_neg (by rintro (h | h | h | h) <;> omega)]; rfl)
            have f2 : (k1 == 2) = false := by simpa using g2
            have f8 : (k1 == 8) = false := by simpa using g8
            have f4 : (k1 == 4) = false := by simpa using g4
            have f5 : (k1 == 5) = false := by simpa using g5
            clear kx g2 g8 g4 g5
            have cN3 := fun j => Lib.cell_of_heap N3.out j
            go_wp2_with fail
            go_meet
            exact ⟨false, rfl, HB1, rfl⟩
          case rest =>
            obtain ⟨bb, rfl, HB1, hwx⟩ := hcut
            subst hwx
            obtain ⟨w3, hw3⟩ : ∃ w3, w3 = wc := ⟨_, rfl⟩
            subst hw3
            go_upto_if 67 with fail
            go_cut [11] from 33 to 89 (fun v11 wx => ∃ mb, Hid (OwnS wj.heap.size v11 mb wx) ∧ Hid (mb = bs ++ E.b1 x k) ∧ Hid (Below wj.heap.size wj wx))
            case first =>
              have cN3 := fun j => Lib.cell_of_heap N3.out j
              cases bb with
              | false =>
                have HB2 : Hid (bs = bs ++ E.b1 x k) := hid (by rw [HB1.out]; simp)
                go_wp2_with fail
                go_meet
                exact ⟨_, O3, HB2, B3⟩
              | true =>
                have HB2 : Hid (bs ++ [s3] = bs ++ E.b1 x k) := hid (by rw [HB1.out]; rfl)
                have hBl5 := below_new (w := w3) (.cells #[.string s3] 9)
                have HS5 := hid (O3.out.below hBl5)
                have hon5 : Hid (∀ u ∈ [Value.string s3], u.oneCell' = true) := hid (by intro u hu; simp at hu; subst hu; rfl)
                have HBL5 := hid hBl5
                have hzs5 := B3.out.size
                clear hBl5
                go_wp2_with (at_builtin; refine wpList_append_own _ rfl _ _ 34 rfl wj.heap.size 9 is (.string ⟨#[]⟩) 1 16 Tryz.underlying34 his hzs0 hzs1 hzs2 rfl (by decide) _ _ _ rfl HS5.out ⟨w3.heap.size, 0, none⟩ 1 1 [.string s3] rfl rfl (str_oneP w3 _) hon5.out ?c3 ?c4 ?c5 ?_)
                case c3 => unfold maxLen; omega
                case c4 => omega
                case c5 => first | omega | (simp; omega)
                intro v5 w5 hown5 hgrow5 _
                have O5 := hid (OwnS.snoc s3 hown5)
                have B5 := hid ((B3.out.trans (HBL5.out.mono B3.out.size)).grown hgrow5 (by have := B3.out.size; first | omega | (simp; omega)) (fun k' hk' => (World.ownsRow.lt HS5.out k' hk').1))
                clear hown5 hgrow5 HS5
                go_wp2_with fail
                go_meet
                exact ⟨_, O5, HB2, B5⟩
            case rest =>
              obtain ⟨mb, OB, HMB, BX⟩ := hcut
              obtain ⟨w3b, hwx⟩ : ∃ wx, wx = wc := ⟨_, rfl⟩
              subst hwx
              have N4 := hid ((BX.out.block _ (by omega)).trans NJ.out)
              obtain ⟨A4, c4, rfl⟩ := OB.out.val
              have hmb : mb.length ≤ bs.length + 1 := by rw [HMB.out, List.length_append]; have := E.b1_len x k; omega
              go_upto_region 12 with fail
              go_cut [75] from 33 to 89 (fun v75 wx => ∃ bb : Bool, v75 = .bool bb ∧ Hid (E.b2 x = if bb then [s2] else []) ∧ wx = w3b)
              case first =>
                have cN4 := fun j => Lib.cell_of_heap N4.out j
                by_cases g : k1 = 5
                · have HB3 : Hid (E.b2 x = if true then [s2] else []) := hid (by unfold E.b2; rw [if_pos (HK1.out.symm.trans g), HS2.out]; rfl)
                  subst g
                  go_wp2_with fail
                  go_meet
                  exact ⟨true, rfl, HB3, rfl⟩
                · have HB3 : Hid (E.b2 x = if false then [s2] else []) := hid (by unfold E.b2; rw [if_neg (by rw [← HK1.out]; exact g)]; rfl)
                  have f5 : (k1 == 5) = false := by simpa using g
                  clear g
                  go_wp2_with fail
                  go_meet
                  exact ⟨false, rfl, HB3, rfl⟩
              case rest =>
                obtain ⟨bb2, rfl, HB3, hwx⟩ := hcut
                subst hwx
                obtain ⟨w3b, hw3⟩ : ∃ w3, w3 = wc := ⟨_, rfl⟩
                subst hw3
                go_upto_if 75 with fail
                go_cut [11] from 33 to 89 (fun v11 wx => ∃ ms, Hid (OwnS wj.heap.size v11 ms wx) ∧ Hid (ms = mb ++ E.b2 x) ∧ Hid (Below wj.heap.size wj wx))
                case first =>
                  have cN4 := fun j => Lib.cell_of_heap N4.out j
                  cases bb2 with
                  | false =>
                    have HB4 : Hid (mb = mb ++ E.b2 x) := hid (by rw [HB3.out]; simp)
                    go_wp2_with fail
                    go_meet
                    exact ⟨_, OB, HB4, BX⟩
                  | true =>
                    have HB4 : Hid (mb ++ [s2] = mb ++ E.b2 x) := hid (by rw [HB3.out]; rfl)
                    have B9 := BX
                    have hBl6 := below_new (w := w3b) (.cells #[.string s2] 9)
                    have HS6 := hid (OB.out.below hBl6)
                    have hon6 : Hid (∀ u ∈ [Value.string s2], u.oneCell' = true) := hid (by intro u hu; simp at hu; subst hu; rfl)
                    have HBL6 := hid hBl6
                    have hzs6 := B9.out.size
                    clear hBl6
                    go_wp2_with (at_builtin; refine wpList_append_own _ rfl _ _ 34 rfl wj.heap.size 9 is (.string ⟨#[]⟩) 1 16 Tryz.underlying34 his hzs0 hzs1 hzs2 rfl (by decide) _ _ _ rfl HS6.out ⟨w3b.heap.size, 0, none⟩ 1 1 [.string s2] rfl rfl (str_oneP w3b _) hon6.out ?c3 ?c4 ?c5 ?_)
                    case c3 => unfold maxLen; omega
                    case c4 => omega
                    case c5 => first | omega | (simp; omega)
                    intro v6 w6 hown6 hgrow6 _
                    have O6 := hid (OwnS.snoc s2 hown6)
                    have B6 := hid ((B9.out.trans (HBL6.out.mono B9.out.size)).grown hgrow6 (by have := B9.out.size; first | omega | (simp; omega)) (fun k' hk' => (World.ownsRow.lt HS6.out k' hk').1))
                    clear hown6 hgrow6 HS6
                    go_wp2_with fail
                    go_meet
                    exact ⟨_, O6, HB4, B6⟩
                case rest =>
                  obtain ⟨ms, OM, HM2, BX2⟩ := hcut
                  have BX := BX2
                  have HMM : Hid (∀ s, s ∈ ms ↔ s ∈ bs ++ E.bindsL x k) := hid (by rw [HM2.out, HMB.out]; exact E.binds_as bs (fun h5 => by have := HK5.out h5; omega))
                  have hml : ms.length ≤ bs.length + 2 := by rw [HM2.out, List.length_append]; have := E.b2_len x; omega
                  obtain ⟨wx, hwx⟩ : ∃ wx, wx = wc := ⟨_, rfl⟩
                  subst hwx
                  obtain ⟨Am, cm, rfl⟩ := OM.out.val
                  have BXW := hid (hBW.out.trans (BX.out.mono hBW.out.size))
                  have WX := hid (hW.out.below BX.out)
                  have KX := hid (hKI.out.below BX.out)
                  have B0X := hid (hB.out.trans (BX.out.mono hbw))
                  have HIY := hid (IH.out c kc (by omega) HOC.out (r.flat ++ rest) p wx ms _ HDC.out (HX.out.below BXW.out) OM.out.rd (fun h => OM.out.lies h |>.imp id id) (by omega))
                  have HFE : Hid (E.freeT c kc ms = E.freeT c kc (bs ++ E.bindsL x k)) := hid (by
                    unfold E.freeT
                    rw [E.ownN_congr c HMM.out, E.Fo.free_congr kc c 0 HMM.out])
                  rw [HFE.out] at HIY
                  obtain ⟨g5, c6, hv6, hg5, hcell5⟩ := KX.out.rd.cell (by omega)
                  simp only [Value.slice.injEq, true_and] at hv6
                  obtain ⟨rfl, rfl⟩ := hv6
                  have ck := hcell5 k hkl
                  rw [HKK.out] at ck
                  obtain ⟨fc, hfc⟩ : ∃ fc, fc = E.freeT c kc (bs ++ E.bindsL x k) := ⟨_, rfl⟩
                  rw [← hfc] at HIY
                  have hfl2 : fc.length ≤ 200 := by
                    rw [hfc]
                    have h2 := (E.Fo.cons c kc .nil).free_length (⟨3, ⟨#[]⟩, ⟨#[]⟩, ⟨#[]⟩, 0, 0, [], []⟩) 0 (bs ++ E.bindsL x k)
                    rw [E.Fo.free_cons] at h2
                    have h3 : E.bindsL (⟨3, ⟨#[]⟩, ⟨#[]⟩, ⟨#[]⟩, 0, 0, [], []⟩) 0 = [] := rfl
                    rw [h3, List.append_nil] at h2
                    simp only [E.Fo.flat, List.length_cons, List.append_nil, E.Fo.free] at h2
                    omega
                  have HFC := hid hfc
                  obtain ⟨Ao, co, rfl⟩ := hW.out.val
                  clear hcell5 hfc hW hKI
                  go_wp2_with fail
                  refine (HIY.out).mono ?_
                  rintro e w5 ⟨vf, rfl, of5, h5⟩
                  have B5 := hid (B0X.out.trans (h5.mono (by have := B0X.out.size; have := Z0.out; omega)))
                  have W5 := hid (WX.out.below h5)
                  have K5 := hid (KX.out.below h5)
                  have OF5 := hid of5
                  have hz5 : w.heap.size + 1 ≤ w5.heap.size := by have := h5.size; have := BXW.out.size; have := BX.out.size; omega
                  clear h5 of5
                  go_wp2_with (at_builtin; refine wpList_appE rfl _ _ rfl rfl (w.heap.size + 1) _ _ fs fc rfl W5.out rfl OF5.out.rd (fun h => OF5.out.lies h) (by omega) hz5 ?_)
                  intro v7 w7 hO7 hg7 _
                  have B7 := hid (B5.out.grown hg7 (by have := B5.out.size; have := Z0.out; omega) (fun k' hk' => (World.ownsRow.lt W5.out k' hk').1))
                  have K7 := hid (show OwnI (w.heap.size + 1) _ kl w7 from row_aside K5.out W5.out (by decide) hg7)
                  have O7 := hid hO7
                  have HFS : Hid ((fs ++ fc) ++ r.free x (k + 1) bs = ks.free x 0 bs) := hid (by rw [← HGF.out, E.Fo.free_cons, HFC.out, List.append_assoc])
                  have hfl3 : (fs ++ fc).length ≤ 120 := by
                    have h1 := congrArg List.length HFS.out
                    have h2 := ks.free_length x 0 bs
                    rw [List.length_append] at h1
                    omega
                  clear hO7 hg7
                  go_wp2
                  go_roundw
                  case rel => first | exact ⟨k + 1, p + (kc.flat.length + 1), r, _, by go_num, by omega, by omega, O7, hfl3, hid ⟨HNX.out.1, HNX.out.2.1, HNX.out.2.2, HFS.out⟩, B7, K7⟩ | ((repeat apply Exists.intro); exact ⟨⟨k + 1, p + (kc.flat.length + 1), r, _, by go_num, by omega, by omega, O7, hfl3, hid ⟨HNX.out.1, HNX.out.2.1, HNX.out.2.2, HFS.out⟩, B7, K7⟩, rfl⟩)
                  case measure => simp [intOf]; omega

end Go.Proofs.YthbieinbpfjgkaaGreatDoor
