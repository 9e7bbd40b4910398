/-
  DERIVED. GIVEN WITH THE SEED: THE CARDS: each row of YthhmbcgamcbfdaaDoorRows.lean that lists a variable, with what it lists TIED to the program's text (the seventh form; the later family's looks); each row that meets fmt, with fmt's text TOLD by the authors' own Lean function (tested against real Go, not proved from fmt's source: count such statements apart). THE CARD IS WHAT COUNTS. Prove the row's statement (the work); the ties are given (YthhmbcgamcbfdaaDoorTie.lean); close each card by the builder's one call (the guide's Derived/Test/ToyasCard.lean, 'card_holds'). Laid BY PROGRAM, IN A SANDBOX (cutbox-door.mjs). By AI agents, Wed Nov 11 2026. No macro, syntax, notation, axiom, sorry.
-/
import Derived.Test.YthhmbcgamcbfdaaDoorRows
import GoSem.ClaimSeven
namespace Go.Proofs.YthhmbcgamcbfdaaDoor
namespace Rows

/-- THE TIED CARD OF 'laws.FnSpaceStocks'. -/
def fnSpaceStocksCard : Claim7 := { stood := { row := fnSpaceStocksRow, standIns := [], harness := (true, "9c845e7becc91d5eec4a0f2654aac68c8cedaa6faee84e2c3f13c169859a5dd9"), looks := false }, kinds := [], alts := [], laidByText := true, laidKinds := [.data, .data, .data], laidTests := true, laidLooks := .later }
def FnSpaceStocksCardSaid : Prop := Claim7.holds Tryd.pinned (.plain (OpenSpec.ofChange fnSpaceStocksSpec)) fnSpaceStocksCard

/-- THE TIED CARD OF 'laws.FnExactSpacesText'. -/
def fnExactSpacesTextCard : Claim7 := { stood := { row := fnExactSpacesTextRow, standIns := [], harness := (true, "9c845e7becc91d5eec4a0f2654aac68c8cedaa6faee84e2c3f13c169859a5dd9"), looks := false }, kinds := [], alts := [], laidByText := true, laidKinds := [.data, .data, .data], laidTests := true, laidLooks := .later }
def FnExactSpacesTextCardSaid : Prop := Claim7.holds Tryd.pinned (.plain (OpenSpec.ofChange fnExactSpacesTextSpec)) fnExactSpacesTextCard

/-- THE SECOND FORM's CARD OF 'laws.FnSpaceStocks'. -/
def fnSpaceStocksUptoCard : Claim7 := { stood := { row := fnSpaceStocksUptoRow, standIns := [], harness := (true, "9c845e7becc91d5eec4a0f2654aac68c8cedaa6faee84e2c3f13c169859a5dd9"), looks := false }, kinds := [], alts := [], laidByText := true, laidKinds := [.data, .data, .data], laidTests := true, laidLooks := .later }
def FnSpaceStocksUptoCardSaid : Prop := Claim7.holds Tryd.pinned (.plain (OpenSpec.upto fnSpaceStocksSpec)) fnSpaceStocksUptoCard

/-- THE SECOND FORM's CARD OF 'laws.FnExactSpacesText'. -/
def fnExactSpacesTextUptoCard : Claim7 := { stood := { row := fnExactSpacesTextUptoRow, standIns := [], harness := (true, "9c845e7becc91d5eec4a0f2654aac68c8cedaa6faee84e2c3f13c169859a5dd9"), looks := false }, kinds := [], alts := [], laidByText := true, laidKinds := [.data, .data, .data], laidTests := true, laidLooks := .later }
def FnExactSpacesTextUptoCardSaid : Prop := Claim7.holds Tryd.pinned (.plain (OpenSpec.upto fnExactSpacesTextSpec)) fnExactSpacesTextUptoCard
end Rows
end Go.Proofs.YthhmbcgamcbfdaaDoor
