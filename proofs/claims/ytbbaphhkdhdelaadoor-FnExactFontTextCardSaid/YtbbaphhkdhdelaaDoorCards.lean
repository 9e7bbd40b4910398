/-
  DERIVED. GIVEN WITH THE SEED: THE CARDS: each row of YtbbaphhkdhdelaaDoorRows.lean that lists a variable, with what it lists TIED to the program's text (the seventh form; the later family's looks); each row that meets fmt, with fmt's text TOLD by the authors' own Lean function (tested against real Go, not proved from fmt's source: count such statements apart). THE CARD IS WHAT COUNTS. Prove the row's statement (the work); the ties are given (YtbbaphhkdhdelaaDoorTie.lean); close each card by the builder's one call (the guide's Derived/Test/ToyasCard.lean, 'card_holds'). Laid BY PROGRAM, IN A SANDBOX (cutbox-door.mjs). By AI agents, Wed Nov 11 2026. No macro, syntax, notation, axiom, sorry.
-/
import Derived.Test.YtbbaphhkdhdelaaDoorRows
import GoSem.ClaimSeven
namespace Go.Proofs.YtbbaphhkdhdelaaDoor
namespace Rows

/-- THE TIED CARD OF 'laws.FnExactFontText'. -/
def fnExactFontTextCard : Claim7 := { stood := { row := fnExactFontTextRow, standIns := [], harness := (true, "9f15c68569e1041cd77a92139a4acf12b052dc6998b191d30b86136021ab0c17"), looks := true }, kinds := [], alts := [], laidByText := true, laidKinds := [.data, .data, .data], laidTests := true, laidLooks := .later }
def FnExactFontTextCardSaid : Prop := Claim7.holds Tryd.pinned (.plain (OpenSpec.ofChange fnExactFontTextSpec)) fnExactFontTextCard

/-- THE TIED CARD OF 'laws.FnExactParseFont'. -/
def fnExactParseFontCard : Claim7 := { stood := { row := fnExactParseFontRow, standIns := [], harness := (true, "9f15c68569e1041cd77a92139a4acf12b052dc6998b191d30b86136021ab0c17"), looks := true }, kinds := [], alts := [], laidByText := true, laidKinds := [.data, .data, .data, .sentinel, .sentinel], laidTests := true, laidLooks := .later }
def FnExactParseFontCardSaid : Prop := Claim7.holds Tryd.pinned (.plain (OpenSpec.ofChange fnExactParseFontSpec)) fnExactParseFontCard

/-- THE TIED CARD OF 'laws.FnExactStrikeText'. -/
def fnExactStrikeTextCard : Claim7 := { stood := { row := fnExactStrikeTextRow, standIns := [], harness := (true, "9f15c68569e1041cd77a92139a4acf12b052dc6998b191d30b86136021ab0c17"), looks := true }, kinds := [], alts := [], laidByText := true, laidKinds := [.data, .data, .data], laidTests := true, laidLooks := .later }
def FnExactStrikeTextCardSaid : Prop := Claim7.holds Tryd.pinned (.plain (OpenSpec.ofChange fnExactStrikeTextSpec)) fnExactStrikeTextCard

/-- THE TIED CARD OF 'laws.FnExactParseStrike'. -/
def fnExactParseStrikeCard : Claim7 := { stood := { row := fnExactParseStrikeRow, standIns := [], harness := (true, "9f15c68569e1041cd77a92139a4acf12b052dc6998b191d30b86136021ab0c17"), looks := true }, kinds := [], alts := [], laidByText := true, laidKinds := [.data, .data, .data, .data, .sentinel, .sentinel, .pinned], laidTests := true, laidLooks := .later }
def FnExactParseStrikeCardSaid : Prop := Claim7.holds Tryd.pinned (.plain (OpenSpec.ofChange fnExactParseStrikeSpec)) fnExactParseStrikeCard

/-- THE SECOND FORM's CARD OF 'laws.FnExactFontText'. -/
def fnExactFontTextUptoCard : Claim7 := { stood := { row := fnExactFontTextUptoRow, standIns := [], harness := (true, "9f15c68569e1041cd77a92139a4acf12b052dc6998b191d30b86136021ab0c17"), looks := true }, kinds := [], alts := [], laidByText := true, laidKinds := [.data, .data, .data], laidTests := true, laidLooks := .later }
def FnExactFontTextUptoCardSaid : Prop := Claim7.holds Tryd.pinned (.plain (OpenSpec.upto fnExactFontTextSpec)) fnExactFontTextUptoCard

/-- THE SECOND FORM's CARD OF 'laws.FnExactParseFont'. -/
def fnExactParseFontUptoCard : Claim7 := { stood := { row := fnExactParseFontUptoRow, standIns := [], harness := (true, "9f15c68569e1041cd77a92139a4acf12b052dc6998b191d30b86136021ab0c17"), looks := true }, kinds := [], alts := [], laidByText := true, laidKinds := [.data, .data, .data, .sentinel, .sentinel], laidTests := true, laidLooks := .later }
def FnExactParseFontUptoCardSaid : Prop := Claim7.holds Tryd.pinned (.plain (OpenSpec.upto fnExactParseFontSpec)) fnExactParseFontUptoCard

/-- THE SECOND FORM's CARD OF 'laws.FnExactStrikeText'. -/
def fnExactStrikeTextUptoCard : Claim7 := { stood := { row := fnExactStrikeTextUptoRow, standIns := [], harness := (true, "9f15c68569e1041cd77a92139a4acf12b052dc6998b191d30b86136021ab0c17"), looks := true }, kinds := [], alts := [], laidByText := true, laidKinds := [.data, .data, .data], laidTests := true, laidLooks := .later }
def FnExactStrikeTextUptoCardSaid : Prop := Claim7.holds Tryd.pinned (.plain (OpenSpec.upto fnExactStrikeTextSpec)) fnExactStrikeTextUptoCard

/-- THE SECOND FORM's CARD OF 'laws.FnExactParseStrike'. -/
def fnExactParseStrikeUptoCard : Claim7 := { stood := { row := fnExactParseStrikeUptoRow, standIns := [], harness := (true, "9f15c68569e1041cd77a92139a4acf12b052dc6998b191d30b86136021ab0c17"), looks := true }, kinds := [], alts := [], laidByText := true, laidKinds := [.data, .data, .data, .data, .sentinel, .sentinel, .pinned], laidTests := true, laidLooks := .later }
def FnExactParseStrikeUptoCardSaid : Prop := Claim7.holds Tryd.pinned (.plain (OpenSpec.upto fnExactParseStrikeSpec)) fnExactParseStrikeUptoCard
end Rows
end Go.Proofs.YtbbaphhkdhdelaaDoor
