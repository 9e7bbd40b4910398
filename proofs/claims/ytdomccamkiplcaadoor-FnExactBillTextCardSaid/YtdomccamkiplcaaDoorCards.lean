/-
  DERIVED. GIVEN WITH THE SEED: THE CARDS: each row of YtdomccamkiplcaaDoorRows.lean that lists a variable, with what it lists TIED to the program's text (the seventh form; the later family's looks); each row that meets fmt, with fmt's text TOLD by the authors' own Lean function (tested against real Go, not proved from fmt's source: count such statements apart). THE CARD IS WHAT COUNTS. Prove the row's statement (the work); the ties are given (YtdomccamkiplcaaDoorTie.lean); close each card by the builder's one call (the guide's Derived/Test/ToyasCard.lean, 'card_holds'). Laid BY PROGRAM, IN A SANDBOX (cutbox-door.mjs). By AI agents, Wed Nov 11 2026. No macro, syntax, notation, axiom, sorry.
-/
import Derived.Test.YtdomccamkiplcaaDoorRows
import GoSem.ClaimSeven
namespace Go.Proofs.YtdomccamkiplcaaDoor
namespace Rows

/-- THE TIED CARD OF 'laws.FnExactBillText'. -/
def fnExactBillTextCard : Claim7 := { stood := { row := fnExactBillTextRow, standIns := [], harness := (true, "4e8485e81227221345088c68cd05ac7e9953860085b686145a00001d0f803c92"), looks := true }, kinds := [], alts := [], laidByText := true, laidKinds := [.data, .data, .data], laidTests := true, laidLooks := .later }
def FnExactBillTextCardSaid : Prop := Claim7.holds Tryd.pinned (.plain (OpenSpec.ofChange fnExactBillTextSpec)) fnExactBillTextCard

/-- THE TIED CARD OF 'laws.FnExactParseStrike'. -/
def fnExactParseStrikeCard : Claim7 := { stood := { row := fnExactParseStrikeRow, standIns := [], harness := (true, "4e8485e81227221345088c68cd05ac7e9953860085b686145a00001d0f803c92"), looks := true }, kinds := [], alts := [], laidByText := true, laidKinds := [.data, .data, .data, .data, .sentinel, .sentinel, .pinned], laidTests := true, laidLooks := .later }
def FnExactParseStrikeCardSaid : Prop := Claim7.holds Tryd.pinned (.plain (OpenSpec.ofChange fnExactParseStrikeSpec)) fnExactParseStrikeCard

/-- THE TIED CARD OF 'laws.FnExactParseFont'. -/
def fnExactParseFontCard : Claim7 := { stood := { row := fnExactParseFontRow, standIns := [], harness := (true, "4e8485e81227221345088c68cd05ac7e9953860085b686145a00001d0f803c92"), looks := true }, kinds := [], alts := [], laidByText := true, laidKinds := [.data, .data, .data, .sentinel, .sentinel], laidTests := true, laidLooks := .later }
def FnExactParseFontCardSaid : Prop := Claim7.holds Tryd.pinned (.plain (OpenSpec.ofChange fnExactParseFontSpec)) fnExactParseFontCard

/-- THE SECOND FORM's CARD OF 'laws.FnExactBillText'. -/
def fnExactBillTextUptoCard : Claim7 := { stood := { row := fnExactBillTextUptoRow, standIns := [], harness := (true, "4e8485e81227221345088c68cd05ac7e9953860085b686145a00001d0f803c92"), looks := true }, kinds := [], alts := [], laidByText := true, laidKinds := [.data, .data, .data], laidTests := true, laidLooks := .later }
def FnExactBillTextUptoCardSaid : Prop := Claim7.holds Tryd.pinned (.plain (OpenSpec.upto fnExactBillTextSpec)) fnExactBillTextUptoCard

/-- THE SECOND FORM's CARD OF 'laws.FnExactParseStrike'. -/
def fnExactParseStrikeUptoCard : Claim7 := { stood := { row := fnExactParseStrikeUptoRow, standIns := [], harness := (true, "4e8485e81227221345088c68cd05ac7e9953860085b686145a00001d0f803c92"), looks := true }, kinds := [], alts := [], laidByText := true, laidKinds := [.data, .data, .data, .data, .sentinel, .sentinel, .pinned], laidTests := true, laidLooks := .later }
def FnExactParseStrikeUptoCardSaid : Prop := Claim7.holds Tryd.pinned (.plain (OpenSpec.upto fnExactParseStrikeSpec)) fnExactParseStrikeUptoCard

/-- THE SECOND FORM's CARD OF 'laws.FnExactParseFont'. -/
def fnExactParseFontUptoCard : Claim7 := { stood := { row := fnExactParseFontUptoRow, standIns := [], harness := (true, "4e8485e81227221345088c68cd05ac7e9953860085b686145a00001d0f803c92"), looks := true }, kinds := [], alts := [], laidByText := true, laidKinds := [.data, .data, .data, .sentinel, .sentinel], laidTests := true, laidLooks := .later }
def FnExactParseFontUptoCardSaid : Prop := Claim7.holds Tryd.pinned (.plain (OpenSpec.upto fnExactParseFontSpec)) fnExactParseFontUptoCard
end Rows
end Go.Proofs.YtdomccamkiplcaaDoor
