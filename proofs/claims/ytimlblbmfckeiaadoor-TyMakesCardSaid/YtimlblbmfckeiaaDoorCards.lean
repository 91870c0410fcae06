/-
  DERIVED. GIVEN WITH THE SEED: THE CARDS: each row of YtimlblbmfckeiaaDoorRows.lean that lists a variable, with what it lists TIED to the program's text (the seventh form; the later family's looks); each row that meets fmt, with fmt's text TOLD by the authors' own Lean function (tested against real Go, not proved from fmt's source: count such statements apart). THE CARD IS WHAT COUNTS. Prove the row's statement (the work); the ties are given (YtimlblbmfckeiaaDoorTie.lean); close each card by the builder's one call (the guide's Derived/Test/ToyasCard.lean, 'card_holds'). Laid BY PROGRAM, IN A SANDBOX (cutbox-door.mjs). By AI agents, Wed Nov 11 2026. No macro, syntax, notation, axiom, sorry.
-/
import Derived.Test.YtimlblbmfckeiaaDoorRows
import GoSem.ClaimSeven
namespace Go.Proofs.YtimlblbmfckeiaaDoor
namespace Rows

/-- THE TIED CARD OF 'leavenlaw03.TyTells'. -/
def tyTellsCard : Claim7 := { stood := { row := tyTellsRow, standIns := [], harness := (true, "d06b064d3766399357a9e5dbc9f9ab053c33819f5ced55ca994251c345dcc4eb"), looks := false }, kinds := [], alts := [], laidByText := true, laidKinds := [.data, .data, .data], laidTests := true, laidLooks := .later }
def TyTellsCardSaid : Prop := Claim7.holds Tryd.pinned (.plain (OpenSpec.ofChange tyTellsSpec)) tyTellsCard

/-- THE TIED CARD OF 'leavenlaw03.TyMakes'. -/
def tyMakesCard : Claim7 := { stood := { row := tyMakesRow, standIns := [], harness := (true, "d06b064d3766399357a9e5dbc9f9ab053c33819f5ced55ca994251c345dcc4eb"), looks := false }, kinds := [], alts := [], laidByText := true, laidKinds := [.data, .data, .data], laidTests := true, laidLooks := .later }
def TyMakesCardSaid : Prop := Claim7.holds Tryd.pinned (.plain (OpenSpec.ofChange tyMakesSpec)) tyMakesCard

/-- THE TIED CARD OF 'leavenlaw03.TyParts'. -/
def tyPartsCard : Claim7 := { stood := { row := tyPartsRow, standIns := [], harness := (true, "d06b064d3766399357a9e5dbc9f9ab053c33819f5ced55ca994251c345dcc4eb"), looks := false }, kinds := [], alts := [], laidByText := true, laidKinds := [.data, .data, .data], laidTests := true, laidLooks := .later }
def TyPartsCardSaid : Prop := Claim7.holds Tryd.pinned (.plain (OpenSpec.ofChange tyPartsSpec)) tyPartsCard

/-- THE SECOND FORM's CARD OF 'leavenlaw03.TyTells'. -/
def tyTellsUptoCard : Claim7 := { stood := { row := tyTellsUptoRow, standIns := [], harness := (true, "d06b064d3766399357a9e5dbc9f9ab053c33819f5ced55ca994251c345dcc4eb"), looks := false }, kinds := [], alts := [], laidByText := true, laidKinds := [.data, .data, .data], laidTests := true, laidLooks := .later }
def TyTellsUptoCardSaid : Prop := Claim7.holds Tryd.pinned (.plain (OpenSpec.upto tyTellsSpec)) tyTellsUptoCard

/-- THE SECOND FORM's CARD OF 'leavenlaw03.TyMakes'. -/
def tyMakesUptoCard : Claim7 := { stood := { row := tyMakesUptoRow, standIns := [], harness := (true, "d06b064d3766399357a9e5dbc9f9ab053c33819f5ced55ca994251c345dcc4eb"), looks := false }, kinds := [], alts := [], laidByText := true, laidKinds := [.data, .data, .data], laidTests := true, laidLooks := .later }
def TyMakesUptoCardSaid : Prop := Claim7.holds Tryd.pinned (.plain (OpenSpec.upto tyMakesSpec)) tyMakesUptoCard

/-- THE SECOND FORM's CARD OF 'leavenlaw03.TyParts'. -/
def tyPartsUptoCard : Claim7 := { stood := { row := tyPartsUptoRow, standIns := [], harness := (true, "d06b064d3766399357a9e5dbc9f9ab053c33819f5ced55ca994251c345dcc4eb"), looks := false }, kinds := [], alts := [], laidByText := true, laidKinds := [.data, .data, .data], laidTests := true, laidLooks := .later }
def TyPartsUptoCardSaid : Prop := Claim7.holds Tryd.pinned (.plain (OpenSpec.upto tyPartsSpec)) tyPartsUptoCard
end Rows
end Go.Proofs.YtimlblbmfckeiaaDoor
