/-
  The walk of lex's tokenAt: the token at a place, or none. Conditions: the tables hold what the program's text says, the function for signs holds the text, the place lies in the text; a text of at most 2000000 bytes.
-/
import Derived.Test.YtfmmhmkaphbmpaaDoorLexK
namespace Go.Proofs.YtfmmhmkaphbmpaaDoor
open Go.RowKit

def oneV (o : Option (Nat × List UInt8 × Nat)) (p : Nat) : Value := match o with | some x => tokV x.1 x.2.1 p (p + x.2.2) | none => tokV 0 [] 0 0

theorem below1 {w w1 : World} (o : Obj) (h : Below (w.alloc o).heap.size (w.alloc o) w1) : Below w.heap.size w w1 := new_below h

theorem signL_len (l : List UInt8) : (L.signL l).length ≤ 2 ∧ (L.signL l).length ≤ l.length := by
  have h : ∀ gs : List (List UInt8), (∀ g ∈ gs, g.length ≤ 2) → (L.firstL gs l).length ≤ 2 ∧ (L.firstL gs l).length ≤ l.length := by
    intro gs
    induction gs with
    | nil => intro _; simp [L.firstL]
    | cons g r ih =>
      intro hg
      rw [L.firstL]
      split
      · rename_i hp
        exact ⟨hg g (by simp), (List.isPrefixOf_iff_prefix.1 hp).length_le⟩
      · exact ih fun x hx => hg x (by simp [hx])
  exact h _ (by decide)

theorem ne_list (g : List UInt8) : ((⟨g.toArray⟩ : ByteArray).toList != (⟨#[]⟩ : ByteArray).toList) = (g != []) := by
  rw [Lib.toList_data, Lib.toList_data]

set_option maxHeartbeats 4000000 in
set_option maxRecDepth 100000 in
theorem tokenAt_any (s : ByteArray) (hs : s.size ≤ 2000000) (p : Nat) (hp : p < s.size) (b : Nat) (w : World) (hT : Tab w) (hb : b < w.heap.size) (hcb : w.cell? ⟨b, 0, none⟩ = some (.string s)) :
    Calls Tryd.prog 23 #[.string s, .int .i64 p, .func (.func 38) #[] #[.pointer (some ⟨b, 0, none⟩)]] w fun e w' => e = .returned (oneV (L.oneL (s.data.toList.drop p)) p) ∧ Below w.heap.size w w' := by
  have hbt := byte_is s p hp
  have HT : Hid (Tab (w.alloc (.cells #[.int .i64 0, .string ⟨#[]⟩, .int .i64 0, .int .i64 0] 31))) := hid (hT.grows ((Below.refl _ _).alloc (Nat.le_refl _) _))
  have HB : Hid ((w.alloc (.cells #[.int .i64 0, .string ⟨#[]⟩, .int .i64 0, .int .i64 0] 31)).cell? ⟨b, 0, none⟩ = some (.string s)) := hid ((World.cell?_alloc_lt w _ _ hb).trans hcb)
  clear hT hcb
  by_cases hq : G.at0 (s.data.toList.drop p) 0 = 34
  · have h34 : (((s[p]'hp).toNat : Int) == 34) = true := by simp; omega
    have HQ := hid (quotedAt_any s hs p (by omega))
    have HH := hid hq
    clear hq hbt
    go_enter Tryd.func23, Tryd.ntmps23
    go_wp2_with fail
    refine (HQ.out _).mono ?_
    rintro e w1 ⟨rfl, h1⟩
    obtain ⟨hc, hf, hz⟩ := new_cells h1
    cases hu : G.unqL (s.data.toList.drop p) with
    | none =>
      have HU := hid hu
      clear hu
      simp only [quoV, tokV, strV]
      go_wp2
      exact bodyPost_ret (v := .agg #[.int .i64 0, .string ⟨#[]⟩, .int .i64 0, .int .i64 0]) (by simp [results, Tryd.results23, hc, go_sem]) rfl ⟨by unfold L.oneL; rw [if_pos HH.out, HU.out]; rfl, below4 (new_below h1) _ _ _ _⟩
    | some x =>
      have HU := hid hu
      clear hu
      obtain ⟨x1, x2⟩ := x
      simp only [quoV, tokV, strV]
      go_wp2
      exact bodyPost_ret (v := .agg #[.int .i64 4, .string ⟨x1.toArray⟩, .int .i64 p, .int .i64 ((p + x2 : Nat) : Int)]) (by simp [results, Tryd.results23, hc, go_sem]) rfl ⟨by unfold L.oneL; rw [if_pos HH.out, HU.out]; rfl, below4 (new_below h1) _ _ _ _⟩
  · have h34 : (((s[p]'hp).toNat : Int) == 34) = false := by simp; omega
    have HS := hid (signAt_any s hs p (by omega) b _ HT.out HB.out)
    obtain ⟨hl2, hll⟩ := signL_len (s.data.toList.drop p)
    obtain ⟨g, hg⟩ : ∃ g, L.signL (s.data.toList.drop p) = g := ⟨_, rfl⟩
    rw [hg] at HS hl2 hll
    by_cases hne : g ≠ []
    · have hn1 : ((⟨g.toArray⟩ : ByteArray).toList != (⟨#[]⟩ : ByteArray).toList) = true := by rw [ne_list]; simpa using hne
      have hn2 : (!g.isEmpty) = true := by simpa using hne
      have HV : Hid (L.oneL (s.data.toList.drop p) = some (5, g, g.length)) := hid (by unfold L.oneL; rw [if_neg hq, hg, if_pos hne])
      have hsz : (⟨g.toArray⟩ : ByteArray).size = g.length := by show g.toArray.size = _; simp
      have HZ := hid hsz
      have hsl : (⟨g.toArray⟩ : ByteArray).size ≤ 2 := by omega
      unfold strV at HS
      clear hq hg hne hbt hsz hll
      go_enter Tryd.func23, Tryd.ntmps23
      go_wp2_with fail
      refine (HS.out).mono ?_
      rintro e w1 ⟨rfl, rfl⟩
      go_wp2
      exact bodyPost_ret (v := .agg #[.int .i64 5, .string ⟨g.toArray⟩, .int .i64 p, .int .i64 ((p + g.length : Nat) : Int)]) (by simp [results, Tryd.results23, go_sem]) rfl ⟨by rw [HV.out]; rfl, (Below.refl _ _).alloc (Nat.le_refl _) _⟩
    · have hg0 : g = [] := by simpa using hne
      subst hg0
      have hrl := L.runL_le L.goesB (s.data.toList.drop p)
      have hdl : (s.data.toList.drop p).length = s.size - p := by simp
      have HE := endOf_goes s hs p (by omega)
      have HKV : L.oneL (s.data.toList.drop p) = if L.kindL ((s.data.toList.drop p).take (L.runL L.goesB (s.data.toList.drop p))) = 0 then none
          else some (L.kindL ((s.data.toList.drop p).take (L.runL L.goesB (s.data.toList.drop p))), (s.data.toList.drop p).take (L.runL L.goesB (s.data.toList.drop p)), L.runL L.goesB (s.data.toList.drop p)) := by
        unfold L.oneL; rw [if_neg hq, hg, if_neg (by simp)]
      generalize L.runL L.goesB (s.data.toList.drop p) = n at *
      have hn : p + n ≤ s.size := by omega
      have HKD := kindOf_any (s.extract p (p + n)) (by simp; omega) _ HT.out
      have hsl : (s.extract p (p + n)) = ⟨((s.data.toList.drop p).take n).toArray⟩ := by
        apply ByteArray.ext
        apply Array.ext'
        rw [cut_list]
      rw [cut_list] at HKD
      generalize (s.data.toList.drop p).take n = x at *
      have hk3 : L.kindL x ≤ 6 := L.kindL_le x
      obtain ⟨k, hk⟩ : ∃ k, L.kindL x = k := ⟨_, rfl⟩
      rw [hk] at HKD HKV hk3
      have HE' := hid HE
      have HKD' := hid HKD
      have HKV' := hid HKV
      have HSL := hid hsl
      unfold strV at HS
      clear hq hg hne hbt hrl hdl HE HKD HKV hsl hll hl2 hk
      by_cases h0 : k = 0
      · subst h0
        go_enter Tryd.func23, Tryd.ntmps23
        go_wp2_with fail
        refine (HS.out).mono ?_
        rintro e w1 ⟨rfl, rfl⟩
        go_wp2_with fail
        refine (HE'.out _).mono ?_
        rintro e w1 ⟨rfl, rfl⟩
        go_wp2_with fail
        refine (HKD'.out).mono ?_
        rintro e w1 ⟨rfl, h1⟩
        obtain ⟨hc, hf, hz⟩ := new_cells h1
        go_wp2
        exact bodyPost_ret (v := .agg #[.int .i64 0, .string ⟨#[]⟩, .int .i64 0, .int .i64 0]) (by simp [results, Tryd.results23, hc, go_sem]) rfl ⟨by rw [HKV'.out]; rfl, below4 (new_below h1) _ _ _ _⟩
      · have hk0 : ((k : Int) == 0) = false := by simp; omega
        have H0 := hid h0
        clear h0
        go_enter Tryd.func23, Tryd.ntmps23
        go_wp2_with fail
        refine (HS.out).mono ?_
        rintro e w1 ⟨rfl, rfl⟩
        go_wp2_with fail
        refine (HE'.out _).mono ?_
        rintro e w1 ⟨rfl, rfl⟩
        go_wp2_with fail
        refine (HKD'.out).mono ?_
        rintro e w1 ⟨rfl, h1⟩
        obtain ⟨hc, hf, hz⟩ := new_cells h1
        go_wp2
        exact bodyPost_ret (v := .agg #[.int .i64 k, .string (s.extract p (p + n)), .int .i64 p, .int .i64 ((p + n : Nat) : Int)]) (by simp [results, Tryd.results23, hc, go_sem]) rfl ⟨by rw [HKV'.out, if_neg H0.out, HSL.out]; rfl, below4 (new_below h1) _ _ _ _⟩

end Go.Proofs.YtfmmhmkaphbmpaaDoor
