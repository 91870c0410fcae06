/-
  The live question of layer 11. No conditions.
-/
import Derived.Test.YtmcdggjcpfkchaaAgE
import Derived.Test.YtmcdggjcpfkchaaM5
import Derived.Test.YtmcdggjcpfkchaaM4
namespace Go.Proofs.Ytmcdggjcpfkchaa
open Go.RowKit

def nn (k n : Int) : L.Nd := ⟨k, ⟨#[]⟩, n⟩
def tS : List L.Nd := [nn 5 0, nn 0 1, nn 0 2]
def cS : List L.Ch := [⟨2, [nn 1 0]⟩]
def cT : List L.Ch := [⟨1, [nn 0 0]⟩]
theorem cS_asg : L.asgF 0 cS = true := by decide +kernel
theorem cT_asg : L.asgF 0 cT = false := by decide +kernel
theorem tS_fill : L.fillL cS tS = [nn 5 0, nn 0 1, nn 1 0] := by decide +kernel
theorem s_print : (⟨(L.prT false (nn 5 0) (.cons (nn 0 1) .nil (.cons (nn 1 0) .nil .nil))).toArray⟩ : ByteArray) = ⟨#[63, 32, 45, 62, 32, 105, 110, 116]⟩ := by decide +kernel
theorem s_short : Short (nn 5 0 :: L.Fo.flat (.cons (nn 0 1) .nil (.cons (nn 1 0) .nil .nil))) := by
  intro x hx
  have : x = nn 5 0 ∨ x = nn 0 1 ∨ x = nn 1 0 := by simpa [L.Fo.flat] using hx
  rcases this with rfl | rfl | rfl <;> exact ⟨by decide, by decide⟩
theorem asg_of {cs : List L.Ch} (h : L.asgF 0 cs = true) (h1 : ∀ c ∈ cs, c.t ≠ [] ∧ c.t.length ≤ 60 ∧ c.site ≤ 9223372036854775807) (h2 : cs.length ≤ 60) : Asg cs :=
  ⟨L.asg_up h, fun c hc => (h1 c hc).1, fun c hc => (h1 c hc).2.1, h2, fun c hc => (h1 c hc).2.2⟩
theorem cS_all : Asg cS := asg_of cS_asg (fun c hc => by
  simp only [cS, List.mem_singleton] at hc
  subst hc
  exact ⟨by simp, by simp, by decide⟩) (by decide)
/-- A literal of choices reads as such. -/
theorem rdc_one {w : World} {B b g : Nat} {s : Int} {t : List L.Nd} {cap : Nat} {e : TypeId} (hb : b < B) (h : w.heap[b]? = some (.cells #[.int .i64 s, .slice (some ⟨g, 0, none⟩) t.length cap] e (0, 0))) (hr : Rd w B (.slice (some ⟨g, 0, none⟩) t.length cap) t) : RdC w B (.slice (some ⟨b, 0, none⟩) 1 1) [⟨s, t⟩] := by
  refine ⟨_, _, rfl, by simp, by unfold maxLen; omega, fun _ => ⟨b, 0, rfl, hb, fun i hi => ?_⟩⟩
  have : i = 0 := by simpa using hi
  subst this
  exact ⟨_, (heap_cell h 0).trans rfl, (heap_cell h 1).trans rfl, hr⟩

set_option maxHeartbeats 4000000 in
set_option maxRecDepth 100000 in
theorem alive_any (w : World) :
    Calls Try.prog 7 #[] w fun e w' => e = .returned (.bool true) ∧ Below w.heap.size w w' := by
  have O1 : Own w.heap.size (.slice (some ⟨w.heap.size, 0, none⟩) 3 3) tS (w.alloc (.cells #[.int .i64 5, .string ⟨#[]⟩, .int .i64 0, .int .i64 0, .string ⟨#[]⟩, .int .i64 1, .int .i64 0, .string ⟨#[]⟩, .int .i64 2] 29)) := World.ownsRow_lit w _ 3 (Nat.le_refl _) (by unfold maxLen; omega) rfl
  have B1 := below_new (w := w) (.cells #[.int .i64 5, .string ⟨#[]⟩, .int .i64 0, .int .i64 0, .string ⟨#[]⟩, .int .i64 1, .int .i64 0, .string ⟨#[]⟩, .int .i64 2] 29)
  obtain ⟨wa, hwa⟩ : ∃ wa, w.alloc (.cells #[.int .i64 5, .string ⟨#[]⟩, .int .i64 0, .int .i64 0, .string ⟨#[]⟩, .int .i64 1, .int .i64 0, .string ⟨#[]⟩, .int .i64 2] 29) = wa := ⟨_, rfl⟩
  have sa : wa.heap.size = w.heap.size + 1 := by rw [← hwa]; simp
  rw [hwa] at O1 B1
  have O2 : Own w.heap.size (.slice (some ⟨wa.heap.size, 0, none⟩) 1 1) [nn 1 0] (wa.alloc (.cells #[.int .i64 1, .string ⟨#[]⟩, .int .i64 0] 29)) := World.ownsRow_lit wa _ 1 (by omega) (by unfold maxLen; omega) rfl
  have O1b := O1.alloc (.cells #[.int .i64 1, .string ⟨#[]⟩, .int .i64 0] 29)
  have B2 := B1.alloc (by omega) (.cells #[.int .i64 1, .string ⟨#[]⟩, .int .i64 0] 29)
  obtain ⟨wb, hwb⟩ : ∃ wb, wa.alloc (.cells #[.int .i64 1, .string ⟨#[]⟩, .int .i64 0] 29) = wb := ⟨_, rfl⟩
  have sb : wb.heap.size = w.heap.size + 2 := by rw [← hwb]; simp; omega
  rw [hwb] at O2 O1b B2
  rw [sa] at O2
  have H3 := heap_alloc_new wb (.cells #[.int .i64 2, .slice (some ⟨w.heap.size + 1, 0, none⟩) 1 1] 27)
  have O1c := O1b.alloc (.cells #[.int .i64 2, .slice (some ⟨w.heap.size + 1, 0, none⟩) 1 1] 27)
  have O2c := O2.alloc (.cells #[.int .i64 2, .slice (some ⟨w.heap.size + 1, 0, none⟩) 1 1] 27)
  have B3 := B2.alloc (by omega) (.cells #[.int .i64 2, .slice (some ⟨w.heap.size + 1, 0, none⟩) 1 1] 27)
  obtain ⟨wc, hwc⟩ : ∃ wc, wb.alloc (.cells #[.int .i64 2, .slice (some ⟨w.heap.size + 1, 0, none⟩) 1 1] 27) = wc := ⟨_, rfl⟩
  have sc : wc.heap.size = w.heap.size + 3 := by rw [← hwc]; simp; omega
  rw [hwc] at O2c O1c B3 H3
  rw [sb] at H3
  have HB3 := hid B3
  have HRC := hid (rdc_one (s := 2) (t := [nn 1 0]) (B := wc.heap.size) (by omega) H3 O2c.rd)
  have HT := hid (type_any cS cS_all tS (by decide) (fun x hx => by
    simp only [tS, List.mem_cons, List.not_mem_nil, or_false] at hx
    rcases hx with rfl | rfl | rfl <;> decide) _ _ wc O1c.rd HRC.out)
  have HS := hid (show (w.alloc (.cells #[.int .i64 5, .string ⟨#[]⟩, .int .i64 0, .int .i64 0, .string ⟨#[]⟩, .int .i64 1, .int .i64 0, .string ⟨#[]⟩, .int .i64 2] 29)) = wa ∧ wa.alloc (.cells #[.int .i64 1, .string ⟨#[]⟩, .int .i64 0] 29) = wb ∧ wb.alloc (.cells #[.int .i64 2, .slice (some ⟨w.heap.size + 1, 0, none⟩) 1 1] 27) = wc from ⟨hwa, hwb, hwc⟩)
  clear O1 B1 O2 O1b B2 H3 O1c O2c B3 hwa hwb hwc
  go_enter Try.func7, Try.ntmps7
  go_wp2_with fail
  rw [HS.out.1, HS.out.2.1, HS.out.2.2]
  refine (HT.out).mono ?_
  rintro e w1 ⟨v', rfl, hO, hb⟩
  rw [tS_fill] at hO
  have HO := hid hO
  obtain ⟨A, c, rfl, -⟩ := hO.rd
  have HB4 := hid (HB3.out.trans (hb.mono HB3.out.size))
  have HRC4 := hid ((HRC.out.below hb).mono hb.size)
  have HP := hid (refPrint_any (nn 5 0) (.cons (nn 0 1) .nil (.cons (nn 1 0) .nil .nil)) (by decide) s_short (by decide) (by decide) (.slice A 3 c) w1 HO.out.rd)
  rw [s_print] at HP
  clear hO hb HT
  go_wp2_with fail
  refine (HP.out).mono ?_
  rintro e w2 ⟨rfl, hb⟩
  have HB5 := hid (HB4.out.trans (hb.mono HB4.out.size))
  have HRC5 := hid ((HRC4.out.below hb).mono hb.size)
  have HA := hid (asg_any cS (fun c hc x hx => by
    simp only [cS, List.mem_singleton] at hc
    subst hc
    simp only [List.mem_singleton] at hx
    subst hx; decide) _ w2 HRC5.out)
  rw [cS_asg] at HA
  clear hb HP
  go_wp2_with fail
  refine (HA.out).mono ?_
  rintro e w3 ⟨rfl, hb⟩
  have HB6 := hid (HB5.out.trans (hb.mono HB5.out.size))
  have hs6 := HB6.out.size
  clear hb HA
  have O2 : Own w3.heap.size (.slice (some ⟨w3.heap.size, 0, none⟩) 1 1) [nn 0 0] (w3.alloc (.cells #[.int .i64 0, .string ⟨#[]⟩, .int .i64 0] 29)) := World.ownsRow_lit w3 _ 1 (by omega) (by unfold maxLen; omega) rfl
  have B2 := HB6.out.alloc hs6 (.cells #[.int .i64 0, .string ⟨#[]⟩, .int .i64 0] 29)
  obtain ⟨wd, hwd⟩ : ∃ wd, w3.alloc (.cells #[.int .i64 0, .string ⟨#[]⟩, .int .i64 0] 29) = wd := ⟨_, rfl⟩
  have sd : wd.heap.size = w3.heap.size + 1 := by rw [← hwd]; simp
  rw [hwd] at O2 B2
  have H3 := heap_alloc_new wd (.cells #[.int .i64 1, .slice (some ⟨w3.heap.size, 0, none⟩) 1 1] 27)
  have O2c := O2.alloc (.cells #[.int .i64 1, .slice (some ⟨w3.heap.size, 0, none⟩) 1 1] 27)
  have B3 := B2.alloc (by omega) (.cells #[.int .i64 1, .slice (some ⟨w3.heap.size, 0, none⟩) 1 1] 27)
  obtain ⟨we, hwe⟩ : ∃ we, wd.alloc (.cells #[.int .i64 1, .slice (some ⟨w3.heap.size, 0, none⟩) 1 1] 27) = we := ⟨_, rfl⟩
  have se : we.heap.size = w3.heap.size + 2 := by rw [← hwe]; simp; omega
  rw [hwe] at O2c B3 H3
  rw [sd] at H3
  have HA := hid (asg_any cT (fun c hc x hx => by
    simp only [cT, List.mem_singleton] at hc
    subst hc
    simp only [List.mem_singleton] at hx
    subst hx; decide) _ we (rdc_one (s := 1) (t := [nn 0 0]) (B := we.heap.size) (by omega) H3 O2c.rd))
  rw [cT_asg] at HA
  have HB7 := hid B3
  have HS2 := hid (show w3.alloc (.cells #[.int .i64 0, .string ⟨#[]⟩, .int .i64 0] 29) = wd ∧ wd.alloc (.cells #[.int .i64 1, .slice (some ⟨w3.heap.size, 0, none⟩) 1 1] 27) = we from ⟨hwd, hwe⟩)
  clear O2 B2 H3 O2c B3 hwd hwe
  go_wp2_with fail
  rw [HS2.out.1, HS2.out.2]
  refine (HA.out).mono ?_
  rintro e w4 ⟨rfl, hb⟩
  have HB8 := hid (HB7.out.trans (hb.mono HB7.out.size))
  clear hb HA
  go_wp2_with fail
  go_ret
  exact ⟨rfl, HB8.out⟩

end Go.Proofs.Ytmcdggjcpfkchaa
