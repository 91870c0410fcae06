/-
  The walk of the closure that ty.Print calls. Condition: a slice that reads as a right tree, whose print has at most 9000000 bytes.
-/
import Derived.Test.YtimlblbmfckeiaaDoorTyYf
import Derived.Test.YtimlblbmfckeiaaDoorTyYt
namespace Go.Proofs.YtimlblbmfckeiaaDoor
open Go.RowKit

theorem visitP_any (l : List L.Nd) (hW : ∀ x ∈ l, x.n ≤ 9223372036854775807) (hl20 : l.length ≤ 20000) (v : Value) (T P A V : Nat) (M : Nat) : ∀ (x : L.Nd) (ks : L.Fo), ks.flat.length < M → (L.Fo.cons x ks .nil).ok = true →
    ∀ (pr : Bool) (rest : List L.Nd) (p : Nat) (acc : List UInt8) (w : World), l.drop p = x :: (ks.flat ++ rest) → PSt l v T P A V p acc w → acc.length + (L.prT pr x ks).length ≤ 9000000 →
    Calls Tryd.prog 29 #[.bool pr, .pointer (some ⟨T, 0, none⟩), .pointer (some ⟨A, 0, none⟩), .pointer (some ⟨P, 0, none⟩), .pointer (some ⟨V, 0, none⟩)] w fun e w' =>
      e = .returned (.tuple #[]) ∧ PSt l v T P A V (p + 1 + ks.flat.length) (acc ++ L.prT pr x ks) w' ∧ KA P A w w' := by
  induction M with
  | zero => intro x ks h; omega
  | succ M ih =>
    intro x ks hM hok pr rest p acc w hdr hS hlen
    cases pr with
    | false => exact visitP_plain l hW hl20 v T P A V M ih x ks hM hok rest p acc w hdr hS hlen
    | true => exact visitP_round l hW hl20 v T P A V M ih x ks hM hok rest p acc w hdr hS hlen

end Go.Proofs.YtimlblbmfckeiaaDoor
