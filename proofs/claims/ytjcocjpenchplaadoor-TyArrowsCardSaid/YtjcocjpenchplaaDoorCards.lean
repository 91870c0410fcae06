/-
  DERIVED. GIVEN WITH THE SEED: THE CARDS: each row of YtjcocjpenchplaaDoorRows.lean that lists a variable, with what it lists TIED to the program's text (the seventh form; the later family's looks); each row that meets fmt, with fmt's text TOLD by the authors' own Lean function (tested against real Go, not proved from fmt's source: count such statements apart). THE CARD IS WHAT COUNTS. Prove the row's statement (the work); the ties are given (YtjcocjpenchplaaDoorTie.lean); close each card by the builder's one call (the guide's Derived/Test/ToyasCard.lean, 'card_holds'). Laid BY PROGRAM, IN A SANDBOX (cutbox-door.mjs). By AI agents, Wed Nov 11 2026. No macro, syntax, notation, axiom, sorry.
-/
import Derived.Test.YtjcocjpenchplaaDoorRows
import GoSem.ClaimSeven
namespace Go.Proofs.YtjcocjpenchplaaDoor
namespace Rows

/-- THE TIED CARD OF 'leavenlaw03.TyMay'. -/
def tyMayCard : Claim7 := { stood := { row := tyMayRow, standIns := [], harness := (true, "6dc32279140fc689e4178a2e39aa9d28662800878e4b39a54a2640927e7537bb"), looks := false }, kinds := [], alts := [], laidByText := true, laidKinds := [.data, .data, .data], laidTests := true, laidLooks := .later }
def TyMayCardSaid : Prop := Claim7.holds Tryd.pinned (.plain (OpenSpec.ofChange tyMaySpec)) tyMayCard

/-- THE TIED CARD OF 'leavenlaw03.TyTells'. -/
def tyTellsCard : Claim7 := { stood := { row := tyTellsRow, standIns := [], harness := (true, "6dc32279140fc689e4178a2e39aa9d28662800878e4b39a54a2640927e7537bb"), looks := false }, kinds := [], alts := [], laidByText := true, laidKinds := [.data, .data, .data], laidTests := true, laidLooks := .later }
def TyTellsCardSaid : Prop := Claim7.holds Tryd.pinned (.plain (OpenSpec.ofChange tyTellsSpec)) tyTellsCard

/-- THE TIED CARD OF 'leavenlaw03.TyMakes'. -/
def tyMakesCard : Claim7 := { stood := { row := tyMakesRow, standIns := [], harness := (true, "6dc32279140fc689e4178a2e39aa9d28662800878e4b39a54a2640927e7537bb"), looks := false }, kinds := [], alts := [], laidByText := true, laidKinds := [.data, .data, .data], laidTests := true, laidLooks := .later }
def TyMakesCardSaid : Prop := Claim7.holds Tryd.pinned (.plain (OpenSpec.ofChange tyMakesSpec)) tyMakesCard

/-- THE TIED CARD OF 'leavenlaw03.TyPrints'. -/
def tyPrintsCard : Claim7 := { stood := { row := tyPrintsRow, standIns := [], harness := (true, "6dc32279140fc689e4178a2e39aa9d28662800878e4b39a54a2640927e7537bb"), looks := false }, kinds := [], alts := [], laidByText := true, laidKinds := [.data, .data, .data], laidTests := true, laidLooks := .later }
def TyPrintsCardSaid : Prop := Claim7.holds Tryd.pinned (.plain (OpenSpec.ofChange tyPrintsSpec)) tyPrintsCard

/-- THE TIED CARD OF 'leavenlaw03.TyParts'. -/
def tyPartsCard : Claim7 := { stood := { row := tyPartsRow, standIns := [], harness := (true, "6dc32279140fc689e4178a2e39aa9d28662800878e4b39a54a2640927e7537bb"), looks := false }, kinds := [], alts := [], laidByText := true, laidKinds := [.data, .data, .data], laidTests := true, laidLooks := .later }
def TyPartsCardSaid : Prop := Claim7.holds Tryd.pinned (.plain (OpenSpec.ofChange tyPartsSpec)) tyPartsCard

/-- THE TIED CARD OF 'leavenlaw03.TyArrows'. -/
def tyArrowsCard : Claim7 := { stood := { row := tyArrowsRow, standIns := [], harness := (true, "6dc32279140fc689e4178a2e39aa9d28662800878e4b39a54a2640927e7537bb"), looks := false }, kinds := [], alts := [], laidByText := true, laidKinds := [.data, .data, .data], laidTests := true, laidLooks := .later }
def TyArrowsCardSaid : Prop := Claim7.holds Tryd.pinned (.plain (OpenSpec.ofChange tyArrowsSpec)) tyArrowsCard

/-- THE TIED CARD OF 'leavenlaw03.TySames'. -/
def tySamesCard : Claim7 := { stood := { row := tySamesRow, standIns := [], harness := (true, "6dc32279140fc689e4178a2e39aa9d28662800878e4b39a54a2640927e7537bb"), looks := false }, kinds := [], alts := [], laidByText := true, laidKinds := [.data, .data, .data], laidTests := true, laidLooks := .later }
def TySamesCardSaid : Prop := Claim7.holds Tryd.pinned (.plain (OpenSpec.ofChange tySamesSpec)) tySamesCard

/-- THE SECOND FORM's CARD OF 'leavenlaw03.TyMay'. -/
def tyMayUptoCard : Claim7 := { stood := { row := tyMayUptoRow, standIns := [], harness := (true, "6dc32279140fc689e4178a2e39aa9d28662800878e4b39a54a2640927e7537bb"), looks := false }, kinds := [], alts := [], laidByText := true, laidKinds := [.data, .data, .data], laidTests := true, laidLooks := .later }
def TyMayUptoCardSaid : Prop := Claim7.holds Tryd.pinned (.plain (OpenSpec.upto tyMaySpec)) tyMayUptoCard

/-- THE SECOND FORM's CARD OF 'leavenlaw03.TyTells'. -/
def tyTellsUptoCard : Claim7 := { stood := { row := tyTellsUptoRow, standIns := [], harness := (true, "6dc32279140fc689e4178a2e39aa9d28662800878e4b39a54a2640927e7537bb"), looks := false }, kinds := [], alts := [], laidByText := true, laidKinds := [.data, .data, .data], laidTests := true, laidLooks := .later }
def TyTellsUptoCardSaid : Prop := Claim7.holds Tryd.pinned (.plain (OpenSpec.upto tyTellsSpec)) tyTellsUptoCard

/-- THE SECOND FORM's CARD OF 'leavenlaw03.TyMakes'. -/
def tyMakesUptoCard : Claim7 := { stood := { row := tyMakesUptoRow, standIns := [], harness := (true, "6dc32279140fc689e4178a2e39aa9d28662800878e4b39a54a2640927e7537bb"), looks := false }, kinds := [], alts := [], laidByText := true, laidKinds := [.data, .data, .data], laidTests := true, laidLooks := .later }
def TyMakesUptoCardSaid : Prop := Claim7.holds Tryd.pinned (.plain (OpenSpec.upto tyMakesSpec)) tyMakesUptoCard

/-- THE SECOND FORM's CARD OF 'leavenlaw03.TyPrints'. -/
def tyPrintsUptoCard : Claim7 := { stood := { row := tyPrintsUptoRow, standIns := [], harness := (true, "6dc32279140fc689e4178a2e39aa9d28662800878e4b39a54a2640927e7537bb"), looks := false }, kinds := [], alts := [], laidByText := true, laidKinds := [.data, .data, .data], laidTests := true, laidLooks := .later }
def TyPrintsUptoCardSaid : Prop := Claim7.holds Tryd.pinned (.plain (OpenSpec.upto tyPrintsSpec)) tyPrintsUptoCard

/-- THE SECOND FORM's CARD OF 'leavenlaw03.TyParts'. -/
def tyPartsUptoCard : Claim7 := { stood := { row := tyPartsUptoRow, standIns := [], harness := (true, "6dc32279140fc689e4178a2e39aa9d28662800878e4b39a54a2640927e7537bb"), looks := false }, kinds := [], alts := [], laidByText := true, laidKinds := [.data, .data, .data], laidTests := true, laidLooks := .later }
def TyPartsUptoCardSaid : Prop := Claim7.holds Tryd.pinned (.plain (OpenSpec.upto tyPartsSpec)) tyPartsUptoCard

/-- THE SECOND FORM's CARD OF 'leavenlaw03.TyArrows'. -/
def tyArrowsUptoCard : Claim7 := { stood := { row := tyArrowsUptoRow, standIns := [], harness := (true, "6dc32279140fc689e4178a2e39aa9d28662800878e4b39a54a2640927e7537bb"), looks := false }, kinds := [], alts := [], laidByText := true, laidKinds := [.data, .data, .data], laidTests := true, laidLooks := .later }
def TyArrowsUptoCardSaid : Prop := Claim7.holds Tryd.pinned (.plain (OpenSpec.upto tyArrowsSpec)) tyArrowsUptoCard

/-- THE SECOND FORM's CARD OF 'leavenlaw03.TySames'. -/
def tySamesUptoCard : Claim7 := { stood := { row := tySamesUptoRow, standIns := [], harness := (true, "6dc32279140fc689e4178a2e39aa9d28662800878e4b39a54a2640927e7537bb"), looks := false }, kinds := [], alts := [], laidByText := true, laidKinds := [.data, .data, .data], laidTests := true, laidLooks := .later }
def TySamesUptoCardSaid : Prop := Claim7.holds Tryd.pinned (.plain (OpenSpec.upto tySamesSpec)) tySamesUptoCard
end Rows
end Go.Proofs.YtjcocjpenchplaaDoor
