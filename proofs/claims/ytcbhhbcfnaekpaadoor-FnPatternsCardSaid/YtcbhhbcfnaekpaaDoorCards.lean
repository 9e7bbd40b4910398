/-
  DERIVED. GIVEN WITH THE SEED: THE CARDS: each row of YtcbhhbcfnaekpaaDoorRows.lean that lists a variable, with what it lists TIED to the program's text (the seventh form; the later family's looks); each row that meets fmt, with fmt's text TOLD by the authors' own Lean function (tested against real Go, not proved from fmt's source: count such statements apart). THE CARD IS WHAT COUNTS. Prove the row's statement (the work); the ties are given (YtcbhhbcfnaekpaaDoorTie.lean); close each card by the builder's one call (the guide's Derived/Test/ToyasCard.lean, 'card_holds'). Laid BY PROGRAM, IN A SANDBOX (cutbox-door.mjs). By AI agents, Wed Nov 11 2026. No macro, syntax, notation, axiom, sorry.
-/
import Derived.Test.YtcbhhbcfnaekpaaDoorRows
import GoSem.ClaimSeven
namespace Go.Proofs.YtcbhhbcfnaekpaaDoor
namespace Rows

/-- THE TIED CARD OF 'laws.FnHyphens'. -/
def fnHyphensCard : Claim7 := { stood := { row := fnHyphensRow, standIns := [], harness := (true, "2c8310377d7f201b1be5aa71e1a2488674e4727f26cb87bf97b84a8e4d3a74bc"), looks := false }, kinds := [], alts := [], laidByText := true, laidKinds := [.data, .pinned], laidTests := true, laidLooks := .later }
def FnHyphensCardSaid : Prop := Claim7.holds Tryd.pinned (.plain (OpenSpec.ofChange fnHyphensSpec)) fnHyphensCard

/-- THE TIED CARD OF 'laws.FnPatterns'. -/
def fnPatternsCard : Claim7 := { stood := { row := fnPatternsRow, standIns := [], harness := (true, "2c8310377d7f201b1be5aa71e1a2488674e4727f26cb87bf97b84a8e4d3a74bc"), looks := false }, kinds := [], alts := [], laidByText := true, laidKinds := [.data, .pinned], laidTests := true, laidLooks := .later }
def FnPatternsCardSaid : Prop := Claim7.holds Tryd.pinned (.plain (OpenSpec.ofChange fnPatternsSpec)) fnPatternsCard

/-- THE TIED CARD OF 'laws.FnExactHyphenPlaces'. -/
def fnExactHyphenPlacesCard : Claim7 := { stood := { row := fnExactHyphenPlacesRow, standIns := [], harness := (true, "2c8310377d7f201b1be5aa71e1a2488674e4727f26cb87bf97b84a8e4d3a74bc"), looks := false }, kinds := [], alts := [], laidByText := true, laidKinds := [.data, .pinned], laidTests := true, laidLooks := .later }
def FnExactHyphenPlacesCardSaid : Prop := Claim7.holds Tryd.pinned (.plain (OpenSpec.ofChange fnExactHyphenPlacesSpec)) fnExactHyphenPlacesCard

/-- THE TIED CARD OF 'laws.FnExactPartsOfWord'. -/
def fnExactPartsOfWordCard : Claim7 := { stood := { row := fnExactPartsOfWordRow, standIns := [], harness := (true, "2c8310377d7f201b1be5aa71e1a2488674e4727f26cb87bf97b84a8e4d3a74bc"), looks := false }, kinds := [], alts := [], laidByText := true, laidKinds := [.data, .pinned], laidTests := true, laidLooks := .later }
def FnExactPartsOfWordCardSaid : Prop := Claim7.holds Tryd.pinned (.plain (OpenSpec.ofChange fnExactPartsOfWordSpec)) fnExactPartsOfWordCard

/-- THE TIED CARD OF 'laws.FnExactMayBreakAt'. -/
def fnExactMayBreakAtCard : Claim7 := { stood := { row := fnExactMayBreakAtRow, standIns := [], harness := (true, "2c8310377d7f201b1be5aa71e1a2488674e4727f26cb87bf97b84a8e4d3a74bc"), looks := false }, kinds := [], alts := [], laidByText := true, laidKinds := [.data, .pinned], laidTests := true, laidLooks := .later }
def FnExactMayBreakAtCardSaid : Prop := Claim7.holds Tryd.pinned (.plain (OpenSpec.ofChange fnExactMayBreakAtSpec)) fnExactMayBreakAtCard

/-- THE TIED CARD OF 'laws.FnExactHyphenText'. -/
def fnExactHyphenTextCard : Claim7 := { stood := { row := fnExactHyphenTextRow, standIns := [], harness := (true, "2c8310377d7f201b1be5aa71e1a2488674e4727f26cb87bf97b84a8e4d3a74bc"), looks := false }, kinds := [], alts := [], laidByText := true, laidKinds := [.data, .pinned], laidTests := true, laidLooks := .later }
def FnExactHyphenTextCardSaid : Prop := Claim7.holds Tryd.pinned (.plain (OpenSpec.ofChange fnExactHyphenTextSpec)) fnExactHyphenTextCard

/-- THE TIED CARD OF 'laws.FnExactLastPlaceWithin'. -/
def fnExactLastPlaceWithinCard : Claim7 := { stood := { row := fnExactLastPlaceWithinRow, standIns := [], harness := (true, "2c8310377d7f201b1be5aa71e1a2488674e4727f26cb87bf97b84a8e4d3a74bc"), looks := false }, kinds := [], alts := [], laidByText := true, laidKinds := [.data, .pinned], laidTests := true, laidLooks := .later }
def FnExactLastPlaceWithinCardSaid : Prop := Claim7.holds Tryd.pinned (.plain (OpenSpec.ofChange fnExactLastPlaceWithinSpec)) fnExactLastPlaceWithinCard

/-- THE TIED CARD OF 'laws.FnExactNewException'. -/
def fnExactNewExceptionCard : Claim7 := { stood := { row := fnExactNewExceptionRow, standIns := [], harness := (true, "2c8310377d7f201b1be5aa71e1a2488674e4727f26cb87bf97b84a8e4d3a74bc"), looks := false }, kinds := [], alts := [], laidByText := true, laidKinds := [.data, .pinned], laidTests := true, laidLooks := .later }
def FnExactNewExceptionCardSaid : Prop := Claim7.holds Tryd.pinned (.plain (OpenSpec.ofChange fnExactNewExceptionSpec)) fnExactNewExceptionCard

/-- THE TIED CARD OF 'laws.FnExactWordsOfExceptions'. -/
def fnExactWordsOfExceptionsCard : Claim7 := { stood := { row := fnExactWordsOfExceptionsRow, standIns := [], harness := (true, "2c8310377d7f201b1be5aa71e1a2488674e4727f26cb87bf97b84a8e4d3a74bc"), looks := false }, kinds := [], alts := [], laidByText := true, laidKinds := [.data, .pinned], laidTests := true, laidLooks := .later }
def FnExactWordsOfExceptionsCardSaid : Prop := Claim7.holds Tryd.pinned (.plain (OpenSpec.ofChange fnExactWordsOfExceptionsSpec)) fnExactWordsOfExceptionsCard

/-- THE SECOND FORM's CARD OF 'laws.FnHyphens'. -/
def fnHyphensUptoCard : Claim7 := { stood := { row := fnHyphensUptoRow, standIns := [], harness := (true, "2c8310377d7f201b1be5aa71e1a2488674e4727f26cb87bf97b84a8e4d3a74bc"), looks := false }, kinds := [], alts := [], laidByText := true, laidKinds := [.data, .pinned], laidTests := true, laidLooks := .later }
def FnHyphensUptoCardSaid : Prop := Claim7.holds Tryd.pinned (.plain (OpenSpec.upto fnHyphensSpec)) fnHyphensUptoCard

/-- THE SECOND FORM's CARD OF 'laws.FnPatterns'. -/
def fnPatternsUptoCard : Claim7 := { stood := { row := fnPatternsUptoRow, standIns := [], harness := (true, "2c8310377d7f201b1be5aa71e1a2488674e4727f26cb87bf97b84a8e4d3a74bc"), looks := false }, kinds := [], alts := [], laidByText := true, laidKinds := [.data, .pinned], laidTests := true, laidLooks := .later }
def FnPatternsUptoCardSaid : Prop := Claim7.holds Tryd.pinned (.plain (OpenSpec.upto fnPatternsSpec)) fnPatternsUptoCard

/-- THE SECOND FORM's CARD OF 'laws.FnExactHyphenPlaces'. -/
def fnExactHyphenPlacesUptoCard : Claim7 := { stood := { row := fnExactHyphenPlacesUptoRow, standIns := [], harness := (true, "2c8310377d7f201b1be5aa71e1a2488674e4727f26cb87bf97b84a8e4d3a74bc"), looks := false }, kinds := [], alts := [], laidByText := true, laidKinds := [.data, .pinned], laidTests := true, laidLooks := .later }
def FnExactHyphenPlacesUptoCardSaid : Prop := Claim7.holds Tryd.pinned (.plain (OpenSpec.upto fnExactHyphenPlacesSpec)) fnExactHyphenPlacesUptoCard

/-- THE SECOND FORM's CARD OF 'laws.FnExactPartsOfWord'. -/
def fnExactPartsOfWordUptoCard : Claim7 := { stood := { row := fnExactPartsOfWordUptoRow, standIns := [], harness := (true, "2c8310377d7f201b1be5aa71e1a2488674e4727f26cb87bf97b84a8e4d3a74bc"), looks := false }, kinds := [], alts := [], laidByText := true, laidKinds := [.data, .pinned], laidTests := true, laidLooks := .later }
def FnExactPartsOfWordUptoCardSaid : Prop := Claim7.holds Tryd.pinned (.plain (OpenSpec.upto fnExactPartsOfWordSpec)) fnExactPartsOfWordUptoCard

/-- THE SECOND FORM's CARD OF 'laws.FnExactMayBreakAt'. -/
def fnExactMayBreakAtUptoCard : Claim7 := { stood := { row := fnExactMayBreakAtUptoRow, standIns := [], harness := (true, "2c8310377d7f201b1be5aa71e1a2488674e4727f26cb87bf97b84a8e4d3a74bc"), looks := false }, kinds := [], alts := [], laidByText := true, laidKinds := [.data, .pinned], laidTests := true, laidLooks := .later }
def FnExactMayBreakAtUptoCardSaid : Prop := Claim7.holds Tryd.pinned (.plain (OpenSpec.upto fnExactMayBreakAtSpec)) fnExactMayBreakAtUptoCard

/-- THE SECOND FORM's CARD OF 'laws.FnExactHyphenText'. -/
def fnExactHyphenTextUptoCard : Claim7 := { stood := { row := fnExactHyphenTextUptoRow, standIns := [], harness := (true, "2c8310377d7f201b1be5aa71e1a2488674e4727f26cb87bf97b84a8e4d3a74bc"), looks := false }, kinds := [], alts := [], laidByText := true, laidKinds := [.data, .pinned], laidTests := true, laidLooks := .later }
def FnExactHyphenTextUptoCardSaid : Prop := Claim7.holds Tryd.pinned (.plain (OpenSpec.upto fnExactHyphenTextSpec)) fnExactHyphenTextUptoCard

/-- THE SECOND FORM's CARD OF 'laws.FnExactLastPlaceWithin'. -/
def fnExactLastPlaceWithinUptoCard : Claim7 := { stood := { row := fnExactLastPlaceWithinUptoRow, standIns := [], harness := (true, "2c8310377d7f201b1be5aa71e1a2488674e4727f26cb87bf97b84a8e4d3a74bc"), looks := false }, kinds := [], alts := [], laidByText := true, laidKinds := [.data, .pinned], laidTests := true, laidLooks := .later }
def FnExactLastPlaceWithinUptoCardSaid : Prop := Claim7.holds Tryd.pinned (.plain (OpenSpec.upto fnExactLastPlaceWithinSpec)) fnExactLastPlaceWithinUptoCard

/-- THE SECOND FORM's CARD OF 'laws.FnExactNewException'. -/
def fnExactNewExceptionUptoCard : Claim7 := { stood := { row := fnExactNewExceptionUptoRow, standIns := [], harness := (true, "2c8310377d7f201b1be5aa71e1a2488674e4727f26cb87bf97b84a8e4d3a74bc"), looks := false }, kinds := [], alts := [], laidByText := true, laidKinds := [.data, .pinned], laidTests := true, laidLooks := .later }
def FnExactNewExceptionUptoCardSaid : Prop := Claim7.holds Tryd.pinned (.plain (OpenSpec.upto fnExactNewExceptionSpec)) fnExactNewExceptionUptoCard

/-- THE SECOND FORM's CARD OF 'laws.FnExactWordsOfExceptions'. -/
def fnExactWordsOfExceptionsUptoCard : Claim7 := { stood := { row := fnExactWordsOfExceptionsUptoRow, standIns := [], harness := (true, "2c8310377d7f201b1be5aa71e1a2488674e4727f26cb87bf97b84a8e4d3a74bc"), looks := false }, kinds := [], alts := [], laidByText := true, laidKinds := [.data, .pinned], laidTests := true, laidLooks := .later }
def FnExactWordsOfExceptionsUptoCardSaid : Prop := Claim7.holds Tryd.pinned (.plain (OpenSpec.upto fnExactWordsOfExceptionsSpec)) fnExactWordsOfExceptionsUptoCard
end Rows
end Go.Proofs.YtcbhhbcfnaekpaaDoor
