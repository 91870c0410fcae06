/-
  The walk of the reference's Of. Conditions: at most 20000 tokens that are read, of texts of at most 2000000 bytes.
-/
import Derived.Test.YtgghmhgbdknkaaaGreatTzH
namespace Go.Proofs.YtgghmhgbdknkaaaGreat
open Go.RowKit

/-- What the reference's Of tells. -/
def OfZV (B : Nat) (o : OfOut) (w : World) (e : Ending) : Prop :=
  match o with
  | .bad er => e = .returned (.tuple #[.slice none 0 0, .slice none 0 0, .int .i64 er])
  | .ok t ss => ∃ v vs, e = .returned (.tuple #[v, vs, .int .i64 0]) ∧ Own B v t.flat w ∧ RdSt w vs ss

set_option maxHeartbeats 8000000 in
set_option maxRecDepth 100000 in
theorem zof_any (l : List T.Tk) (hll : l.length ≤ 20000) (hts : ∀ p, (tokAt l p).text.size ≤ 2000000) (vl : Value) (w : World) (hx : RdK w w.heap.size vl l) :
    Calls Tryz.prog 12 #[vl] w fun e w' => Below w.heap.size w w' ∧ OfZV w.heap.size (ofF l) w' e := by
  have HRD := hid (zread_any hts hll vl 0 1 1 (by decide) w hx)
  have HX := hid hx
  obtain ⟨A, cap, rfl, hlm, -⟩ := id hx
  have HOK := hid (fun t n ss h => readF_ok (l := l) (p := 0) (site := 1) (lv := 1) (t := t) (n := n) (ss := ss) h)
  have HER := hid (fun q e h => readF_err (l := l) (p := 0) (site := 1) (lv := 1) (q := q) (e := e) h)
  have HOF : Hid (ofF l = match T.readF l 0 1 1 with
    | .bad _ e => .bad e
    | .ok t n ss => if n + 1 = l.length ∧ (tokAt l n).kind = 0 then .ok t ss else .bad 2) := hid rfl
  clear hx hts
  generalize T.readF l 0 1 1 = res at *
  go_enter Tryz.func12, Tryz.ntmps12
  go_wp2_with fail
  refine (HRD.out).mono ?_
  rintro e w1 ⟨hb1, h1⟩
  cases res with
  | bad q er =>
    obtain ⟨he0, -, -⟩ := HER.out q er rfl
    have hne : (er != 0) = true := by simp; omega
    unfold OutZV at h1
    subst h1
    have HB1 := hid hb1
    have HE : Hid (ofF l = .bad er) := hid HOF.out
    clear hb1 he0
    go_wp2
    exact bodyPost_ret (v := .tuple #[.slice none 0 0, .slice none 0 0, .int .i64 er]) (by simp [results, Tryz.results12, go_sem]) rfl ⟨HB1.out, by rw [HE.out]; rfl⟩
  | ok t n ss =>
    obtain ⟨-, -, s1, -, hn, -, hg⟩ := HOK.out t n ss rfl
    have hnl : n ≤ l.length := by rw [hn]; exact hg.le
    unfold OutZV at h1
    obtain ⟨v, vs, rfl, hv, hvs⟩ := h1
    have HB1 := hid hb1
    have HV := hid hv
    have HVS := hid hvs
    have HE : Hid (ofF l = if n + 1 = l.length ∧ (tokAt l n).kind = 0 then .ok t ss else .bad 2) := hid HOF.out
    clear hb1 hv hvs hn hg HOF
    by_cases h2 : n + 1 = l.length
    · have hne : ((n : Int) != (l.length : Int) - 1) = false := by simp; omega
      have hlt : n < l.length := by omega
      have hltz : (n : Int) < (l.length : Int) := by omega
      obtain ⟨b, o, rfl, hb, hcx⟩ : ∃ b o, A = some ⟨b, o, none⟩ ∧ b < w.heap.size ∧ ∀ (i : Nat) (h : i < l.length), w.cell? ⟨b, o + i * 4, none⟩ = some (.int .i64 l[i].kind) := by
        obtain ⟨A', c', hv, -, hc⟩ := HX.out
        simp only [Value.slice.injEq, true_and] at hv
        obtain ⟨rfl, -⟩ := hv
        obtain ⟨b, o, h3, h4, h5⟩ := hc (by rintro rfl; simp at hlt)
        exact ⟨b, o, h3, h4, fun i h => (h5 i h).1⟩
      have c0 := (HB1.out.cell (p := ⟨b, o + n * 4, none⟩) hb).trans (hcx n hlt)
      have HTK : Hid (tokAt l n = l[n]) := hid (by simp [tokAt, List.getD, hlt])
      have HE2 : Hid (ofF l = if (tokAt l n).kind = 0 then .ok t ss else .bad 2) := hid (by rw [HE.out]; simp [h2])
      rw [HTK.out] at HE2
      clear hcx HTK h2 HE
      generalize l[n].kind = k at *
      by_cases hk : k = 0
      · subst hk
        have HE3 : Hid (ofF l = .ok t ss) := hid (by rw [HE2.out, if_pos rfl])
        go_wp2
        exact bodyPost_ret (v := .tuple #[v, vs, .int .i64 0]) (by simp [results, Tryz.results12, go_sem]) rfl ⟨HB1.out, by rw [HE3.out]; exact ⟨v, vs, rfl, HV.out, HVS.out⟩⟩
      · have hk0 : (k != 0) = true := by simpa using hk
        have HE3 : Hid (ofF l = .bad 2) := hid (by rw [HE2.out, if_neg hk])
        clear hk
        go_wp2
        exact bodyPost_ret (v := .tuple #[.slice none 0 0, .slice none 0 0, .int .i64 2]) (by simp [results, Tryz.results12, go_sem]) rfl ⟨HB1.out, by rw [HE3.out]; rfl⟩
    · have hne : ((n : Int) != (l.length : Int) - 1) = true := by simp; omega
      have HE3 : Hid (ofF l = .bad 2) := hid (by rw [HE.out, if_neg (fun h => h2 h.1)])
      clear h2
      go_wp2
      exact bodyPost_ret (v := .tuple #[.slice none 0 0, .slice none 0 0, .int .i64 2]) (by simp [results, Tryz.results12, go_sem]) rfl ⟨HB1.out, by rw [HE3.out]; rfl⟩

end Go.Proofs.YtgghmhgbdknkaaaGreat
