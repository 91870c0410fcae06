/-
  Rows of tokens that are read cell by cell; the walk of the reference's Same on two rows that hold the same tokens. No other conditions.
-/
import Derived.Test.YtfmmhmkaphbmpaaDoorLexH
import Derived.Test.YtfmmhmkaphbmpaaDoorLexU
namespace Go.Proofs.YtfmmhmkaphbmpaaDoor
open Go.RowKit

/-- Block g holds just these tokens, four cells each. -/
def TRow (w : World) (g : Nat) (l : List L.Tok) : Prop :=
  g < w.heap.size ∧ ∀ (i : Nat) (h : i < l.length), w.cell? ⟨g, i * 4, none⟩ = some (.int .i64 l[i].kind) ∧ w.cell? ⟨g, i * 4 + 1, none⟩ = some (strV l[i].text) ∧ w.cell? ⟨g, i * 4 + 2, none⟩ = some (.int .i64 l[i].fr) ∧ w.cell? ⟨g, i * 4 + 3, none⟩ = some (.int .i64 l[i].to)

theorem TRow.below {w w' : World} {g : Nat} {l : List L.Tok} (h : TRow w g l) (hb : Below w.heap.size w w') : TRow w' g l := by
  have hg := h.1
  have hc : ∀ o, w'.cell? ⟨g, o, none⟩ = w.cell? ⟨g, o, none⟩ := fun o => hb.cell (p := ⟨g, o, none⟩) hg
  refine ⟨Nat.lt_of_lt_of_le hg hb.size, fun i hi => ?_⟩
  rw [hc, hc, hc, hc]
  exact h.2 i hi

theorem cellsT_get (l : List L.Tok) (i : Nat) (h : i < l.length) :
    (cellsT l)[i * 4]? = some (.int .i64 l[i].kind) ∧ (cellsT l)[i * 4 + 1]? = some (strV l[i].text) ∧ (cellsT l)[i * 4 + 2]? = some (.int .i64 l[i].fr) ∧ (cellsT l)[i * 4 + 3]? = some (.int .i64 l[i].to) := by
  induction l generalizing i with
  | nil => simp at h
  | cons t r ih =>
    have e : cellsT (t :: r) = [.int .i64 t.kind, strV t.text, .int .i64 t.fr, .int .i64 t.to] ++ cellsT r := rfl
    rw [e]
    cases i with
    | zero => simp
    | succ i =>
      have hi : i < r.length := by simpa using h
      have h1 := ih i hi
      have e4 : ∀ j, ([.int .i64 t.kind, strV t.text, .int .i64 t.fr, .int .i64 t.to] ++ cellsT r)[(i + 1) * 4 + j]? = (cellsT r)[i * 4 + j]? := by
        intro j
        rw [List.getElem?_append_right (by simp; omega)]
        congr 1
        simp
        omega
      have e0 := e4 0
      simp only [Nat.add_zero] at e0
      rw [e0, e4 1, e4 2, e4 3]
      exact h1

theorem Own.read {B : Nat} {v : Value} {l : List L.Tok} {w : World} (h : Own B v l w) (hn : 0 < l.length) : ∃ g cap, v = .slice (some ⟨g, 0, none⟩) l.length cap ∧ TRow w g l := by
  obtain ⟨g, cap, hv, hlt⟩ : ∃ g cap, v = .slice (some ⟨g, 0, none⟩) l.length cap ∧ g < w.heap.size := by
    rcases h.2 with ⟨_, h0⟩ | ⟨g, cap, cur, hv, _, hh, _⟩
    · omega
    · exact ⟨g, cap, hv, heap_lt hh⟩
  refine ⟨g, cap, hv, hlt, fun i hi => ?_⟩
  subst hv
  obtain ⟨a, b, c, d⟩ := cellsT_get l i hi
  have hc := fun j hj => World.ownsRow.cellAt h j hj
  exact ⟨(hc _ (by omega)).trans a, (hc _ (by omega)).trans b, (hc _ (by omega)).trans c, (hc _ (by omega)).trans d⟩

theorem TRow.rd {w : World} {g B cap : Nat} {l : List L.Tok} (h : TRow w g l) (hB : g < B) : Rd w B (.slice (some ⟨g, 0, none⟩) l.length cap) (l.map L.kt) := by
  refine ⟨some ⟨g, 0, none⟩, cap, by simp, fun _ => ⟨_, rfl, hB, fun i hi => ?_⟩⟩
  have hi2 : i < l.length := by simpa using hi
  obtain ⟨a, b, _, _⟩ := h.2 i hi2
  have e0 : (⟨g, 0, none⟩ : Addr).add (i * 4) = ⟨g, i * 4, none⟩ := by unfold Addr.add; split <;> simp_all
  have e1 : (⟨g, 0, none⟩ : Addr).add (i * 4 + 1) = ⟨g, i * 4 + 1, none⟩ := by unfold Addr.add; simp
  rw [e0, e1, List.getElem_map]
  exact ⟨a, b⟩

set_option maxHeartbeats 4000000 in
set_option maxRecDepth 100000 in
theorem same_any (l : List L.Tok) (g1 g2 c1 c2 : Nat) (w : World) (h1 : TRow w g1 l) (h2 : TRow w g2 l) (hn : l.length ≤ 1000000) :
    Calls Tryd.prog 13 #[.slice (some ⟨g1, 0, none⟩) l.length c1, .slice (some ⟨g2, 0, none⟩) l.length c2] w fun e w' => e = .returned (.bool true) ∧ ∃ n, w' = w.drewN n := by
  have H1 := hid h1.2
  have H2 := hid h2.2
  clear h1 h2
  go_enter Tryd.func13, Tryd.ntmps13
  go_wp2
  go_loopw [5] (fun vi wr => ∃ k n : Nat, wr = w.drewN n ∧ k ≤ l.length ∧ vi = .int .i64 k) (fun vi _ => l.length - (intOf vi).toNat)
  case atStart => exact ⟨0, 0, rfl, by omega, rfl⟩
  case round =>
    obtain ⟨k, n, rfl, hk, rfl⟩ := hrel
    by_cases hlt : k < l.length
    · obtain ⟨a0, a1, a2, a3⟩ := H1.out k hlt
      obtain ⟨b0, b1, b2, b3⟩ := H2.out k hlt
      unfold strV at a1 b1
      generalize l[k].kind = x0 at *
      generalize (⟨l[k].text.toArray⟩ : ByteArray) = x1 at *
      generalize l[k].fr = x2 at *
      generalize l[k].to = x3 at *
      go_wp2
      go_quiet (fail)
      go_wp2
      go_roundw
      case rel => exact ⟨k + 1, _, rfl, by omega, by go_num⟩
      case measure => simp [intOf]; omega
    · go_wp2
      go_ret
      exact ⟨rfl, n, rfl⟩

end Go.Proofs.YtfmmhmkaphbmpaaDoor
