/-
  The order of labels, no program: numbers in the order of their labels are one list, if no label is there twice. No conditions but those that each lemma names.
-/
import Derived.Test.YtimlblbmfckeiaaDoorTyX
namespace Go.Proofs.YtimlblbmfckeiaaDoor.L
open Go

def labL (ss : List ByteArray) (i : Nat) : List UInt8 := (ss.getD i ⟨#[]⟩).data.toList

/-- Numbers whose labels rise. -/
def Rise (ss : List ByteArray) (ks : List Nat) : Prop := ks.Pairwise fun i j => Lib.compareBytes (labL ss i) (labL ss j) < 0

theorem ba_eq {a b : ByteArray} (h : a.data.toList = b.data.toList) : a = b := ByteArray.ext (Array.toList_inj.1 h)

theorem eq_of_perm {α : Type} {R : α → α → Prop} (hR : ∀ a b, R a b → R b a → False) : ∀ (l1 l2 : List α), l1.Perm l2 → l1.Pairwise R → l2.Pairwise R → l1 = l2 := by
  intro l1
  induction l1 with
  | nil => intro l2 hp _ _; exact hp.nil_eq
  | cons a l1 ih =>
    intro l2 hp h1 h2
    cases l2 with
    | nil => exact absurd hp.symm.nil_eq (by simp)
    | cons b l2 =>
      have hab : a = b := by
        have ha : a ∈ b :: l2 := hp.mem_iff.1 (by simp)
        have hb : b ∈ a :: l1 := hp.mem_iff.2 (by simp)
        rcases List.mem_cons.1 ha with h | h
        · exact h
        rcases List.mem_cons.1 hb with h' | h'
        · exact h'.symm
        exact absurd ((List.pairwise_cons.1 h1).1 b h') fun hx => hR _ _ hx ((List.pairwise_cons.1 h2).1 a h)
      subst hab
      rw [ih l2 (List.Perm.cons_inv hp) (List.pairwise_cons.1 h1).2 (List.pairwise_cons.1 h2).2]

theorem rise_unique {ss : List ByteArray} {ks js : List Nat} (h1 : Rise ss ks) (h2 : Rise ss js) (hp : ks.Perm js) : ks = js :=
  eq_of_perm (fun a b h h' => by have := cB_anti (labL ss a) (labL ss b); omega) ks js hp h1 h2

/-- In order, and no two neighbours alike: rising. -/
theorem rise_of {ss : List ByteArray} {ks : List Nat} (hs : ks.Pairwise fun i j => 0 ≤ Lib.compareBytes (ss.getD j ⟨#[]⟩).data.toList (ss.getD i ⟨#[]⟩).data.toList)
    (hn : ∀ (j : Nat) (h : j < ks.length), 0 < j → ss.getD ks[j] ⟨#[]⟩ ≠ ss.getD (ks[j - 1]'(by omega)) ⟨#[]⟩) : Rise ss ks := by
  unfold Rise
  rw [List.pairwise_iff_getElem] at hs ⊢
  have adj : ∀ (i : Nat) (h : i + 1 < ks.length), Lib.compareBytes (labL ss ks[i]) (labL ss ks[i + 1]) < 0 := fun i h => by
    have h1 := hs i (i + 1) (by omega) h (by omega)
    have h2 := hn (i + 1) h (by omega)
    have h3 := cB_anti (labL ss ks[i]) (labL ss ks[i + 1])
    rcases Int.lt_trichotomy (Lib.compareBytes (labL ss ks[i]) (labL ss ks[i + 1])) 0 with h4 | h4 | h4
    · exact h4
    · exact absurd (ba_eq (cB_zero h4)).symm h2
    · unfold labL at h3 h4
      omega
  intro i j hi hj hij
  induction j with
  | zero => omega
  | succ j ih =>
    by_cases e : i = j
    · subst e; exact adj i hj
    · exact cB_trans (ih (by omega) (by omega)) (adj j hj)

/-- Two neighbours alike: a label is there twice. -/
theorem twice_of {ss : List ByteArray} {ks : List Nat} (hp : ks.Perm (List.range ss.length)) {j : Nat} (h0 : 0 < j) (h : j < ks.length) (he : ss.getD ks[j] ⟨#[]⟩ = ss.getD (ks[j - 1]'(by omega)) ⟨#[]⟩) : ¬ ∃ js : List Nat, js.Perm (List.range ss.length) ∧ Rise ss js := by
  rintro ⟨js, hj, hr⟩
  have hnd : ks.Nodup := hp.nodup_iff.2 List.nodup_range
  have hne : ks[j] ≠ ks[j - 1]'(by omega) := by
    intro e
    have := (List.getElem_inj hnd).1 e
    omega
  have hm1 : ks[j] ∈ js := hj.mem_iff.2 (hp.mem_iff.1 (List.getElem_mem h))
  have hm2 : ks[j - 1]'(by omega) ∈ js := hj.mem_iff.2 (hp.mem_iff.1 (List.getElem_mem (by omega)))
  obtain ⟨a, ha, ea⟩ := List.getElem_of_mem hm1
  obtain ⟨b, hb, eb⟩ := List.getElem_of_mem hm2
  unfold Rise at hr
  rw [List.pairwise_iff_getElem] at hr
  have hself : Lib.compareBytes (labL ss ks[j]) (labL ss (ks[j - 1]'(by omega))) = 0 := by unfold labL; rw [he]; exact cB_self _
  rcases Nat.lt_trichotomy a b with h1 | h1 | h1
  · have := hr a b ha hb h1
    rw [ea, eb] at this
    omega
  · subst h1
    exact hne (ea.symm.trans eb)
  · have := hr b a hb ha h1
    rw [ea, eb] at this
    have := cB_anti (labL ss ks[j]) (labL ss (ks[j - 1]'(by omega)))
    omega

end Go.Proofs.YtimlblbmfckeiaaDoor.L
