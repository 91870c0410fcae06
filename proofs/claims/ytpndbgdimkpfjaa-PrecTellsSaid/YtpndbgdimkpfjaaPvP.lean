/-
  What is plain and short: the reference's Plain, and the law's plain over a row of types. Conditions: slices that read as nodes.
-/
import Derived.Test.YtpndbgdimkpfjaaPvA
import Derived.Test.YtpndbgdimkpfjaaM4
import Derived.Test.YtpndbgdimkpfjaaM1
namespace Go.Proofs.Ytpndbgdimkpfjaa.L
open Go
def short (l : List Nd) : Bool := l.all fun x => decide (x.name.size ≤ 100)
/-- A plain type of at most so many nodes, with short labels. -/
def good (most : Nat) (l : List Nd) : Bool := decide (l.length ≤ most) && short l && (rightL l && plainL l)
end Go.Proofs.Ytpndbgdimkpfjaa.L
namespace Go.Proofs.Ytpndbgdimkpfjaa
open Go.RowKit Go.Sort

theorem good_parts {most : Nat} {l : List L.Nd} (h : L.good most l = true) : l.length ≤ most ∧ (∀ x ∈ l, x.name.size ≤ 100) ∧ L.rightL l = true ∧ L.plainL l = true := by
  simp only [L.good, L.short, Bool.and_eq_true, decide_eq_true_eq, List.all_eq_true] at h
  exact ⟨h.1.1, h.1.2, h.2.1, h.2.2⟩

theorem right_few {l : List L.Nd} (h : L.rightL l = true) : Few l := by
  obtain ⟨x, ks, hl, hn, hb, hok, -⟩ := (L.rightL_iff l).1 h
  refine few_of hn ?_
  rw [List.all_eq_true]
  intro z hz
  have := L.numbered_flat _ hok z
  simp only [L.Fo.flat, List.append_nil] at this
  exact this (by rw [← hl]; exact hz)

/-- What a good list is: a tree. -/
theorem good_tree {most : Nat} {l : List L.Nd} (h : L.good most l = true) : ∃ x ks, l = x :: L.Fo.flat ks ∧ L.bare x = true ∧ Ty l (.cons x ks .nil) ∧ ks.deep + 1 ≤ 100 ∧ l.length ≤ most ∧ ∀ x ∈ l, x.name.size ≤ 100 := by
  obtain ⟨h1, h2, h3, h4⟩ := good_parts h
  obtain ⟨x, ks, hl, hn, hb, hok, hd⟩ := (L.rightL_iff l).1 h3
  have hf : l = (L.Fo.cons x ks .nil).flat := by rw [hl]; simp [L.Fo.flat]
  exact ⟨x, ks, hl, hb, ⟨hf, hok, by rw [L.plain_flat, ← hf]; exact h4, (by intro e; cases e), right_few h3, fun y hy => Nat.le_trans (h2 y hy) (by omega)⟩, hd, h1, h2⟩

set_option maxHeartbeats 2000000 in
set_option maxRecDepth 100000 in
theorem plain7_any (l : List L.Nd) (most : Nat) (hm : most ≤ 1000) (v : Value) (w : World) (hx : Rd w w.heap.size v l) :
    Calls Try.prog 32 #[v, .int .i64 (most : Int)] w fun e w' => e = .returned (.bool (L.good most l)) ∧ Below w.heap.size w w' := by
  have HX := hid hx
  obtain ⟨A, cap, rfl, hl1, hl2, -, hcx⟩ := hx
  unfold maxLen at hl2
  have HCX := hid hcx
  clear hcx
  by_cases hlm : most < l.length
  · have HG : Hid (L.good most l = false) := hid (by simp [L.good]; intro h; omega)
    go_enter Try.func32, Try.ntmps32
    go_wp2
    go_ret
    exact ⟨ret_bool HG.out.symm, Below.refl _ _⟩
  · go_enter Try.func32, Try.ntmps32
    go_wp2
    go_loop [5] (fun vi => ∃ k : Nat, vi = .int .i64 k ∧ k ≤ l.length ∧ Hid (∀ (j : Nat) (h : j < l.length), j < k → l[j].name.size ≤ 100)) (fun vi => l.length - (intOf vi).toNat)
    case atStart => exact ⟨0, rfl, by omega, hid fun j _ h => by omega⟩
    case round =>
      obtain ⟨k, rfl, hk, hS⟩ := hrel
      by_cases hlt : k < l.length
      · obtain ⟨b, o, hA, hb, hcx⟩ := HCX.out (by rintro rfl; simp at hlt)
        obtain ⟨x0, x1, x2⟩ := hcx k hlt
        subst hA
        have HM : Hid (l[k] ∈ l) := hid (List.getElem_mem hlt)
        have HL : Hid (∀ (j : Nat) (h : j < l.length), j < k + 1 → l[k].name.size ≤ 100 → l[j].name.size ≤ 100) := hid fun j hj hjk hx => by
          by_cases e : j = k
          · subst e; exact hx
          · exact hS.out j hj (by omega)
        clear hcx
        generalize l[k] = X at *
        obtain ⟨xk, xs, xn⟩ := X
        simp only at x0 x1 x2
        by_cases h100 : 100 < xs.size
        · have HG : Hid (L.good most l = false) := hid (by
            cases hg : L.good most l with
            | false => rfl
            | true =>
              have := (good_parts hg).2.1 _ HM.out
              simp only at this
              omega)
          go_wp2
          go_ret
          exact ⟨ret_bool HG.out.symm, Below.refl _ _⟩
        · go_wp2
          go_round
          case rel => exact ⟨k + 1, by go_num, by omega, hid fun j hj hjk => HL.out j hj hjk (by simp only; omega)⟩
          case measure => simp [intOf]; omega
      · obtain rfl : k = l.length := by omega
        have hsh : L.short l = true := by
          simp only [L.short, List.all_eq_true, decide_eq_true_eq]
          intro x hx
          obtain ⟨i, hi, rfl⟩ := List.mem_iff_getElem.1 hx
          exact hS.out i hi hi
        have HG : Hid (L.good most l = (L.rightL l && L.plainL l)) := hid (by simp only [L.good, hsh]; rw [decide_eq_true (by omega)]; rfl)
        have HR := hid (refRight_any l (fun x hx => by
          simp only [L.short, List.all_eq_true, decide_eq_true_eq] at hsh
          exact Nat.le_trans (hsh x hx) (by omega)) _ w HX.out)
        clear hsh
        cases hr : L.rightL l with
        | false =>
          rw [hr] at HR HG
          clear hr
          go_wp2_with fail
          refine (HR.out).mono ?_
          rintro e w1 ⟨rfl, h1⟩
          go_wp2
          go_ret
          exact ⟨ret_bool HG.out.symm, h1⟩
        | true =>
          rw [hr] at HR HG
          clear hr
          go_wp2_with fail
          refine (HR.out).mono ?_
          rintro e w1 ⟨rfl, h1⟩
          have HP := hid (ref_plain l _ w1 ((HX.out.below h1).mono h1.size))
          have H1 := hid h1
          clear h1
          go_wp2_with fail
          refine (HP.out).mono ?_
          rintro e w2 ⟨rfl, rfl⟩
          go_wp2
          go_ret
          exact ⟨ret_bool (by rw [HG.out]; simp), H1.out⟩

end Go.Proofs.Ytpndbgdimkpfjaa
