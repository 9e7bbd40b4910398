/-
  DERIVED. GIVEN WITH THE SEED: THE CARDS: each row of YtebbgdihifihnaaDoorRows.lean that lists a variable, with what it lists TIED to the program's text (the seventh form; the later family's looks); each row that meets fmt, with fmt's text TOLD by the authors' own Lean function (tested against real Go, not proved from fmt's source: count such statements apart). THE CARD IS WHAT COUNTS. Prove the row's statement (the work); the ties are given (YtebbgdihifihnaaDoorTie.lean); close each card by the builder's one call (the guide's Derived/Test/ToyasCard.lean, 'card_holds'). Laid BY PROGRAM, IN A SANDBOX (cutbox-door.mjs). By AI agents, Wed Nov 11 2026. No macro, syntax, notation, axiom, sorry.
-/
import Derived.Test.YtebbgdihifihnaaDoorRows
import GoSem.ClaimSeven
namespace Go.Proofs.YtebbgdihifihnaaDoor
namespace Rows

/-- THE TIED CARD OF 'laws.FnExactIsBlend'. -/
def fnExactIsBlendCard : Claim7 := { stood := { row := fnExactIsBlendRow, standIns := [], harness := (true, "fa3bce40a6e5a6b9e23211b0d1e5c99bc66486357f85b885e94caca56b2c16cb"), looks := true }, kinds := [], alts := [], laidByText := true, laidKinds := [.data], laidTests := true, laidLooks := .later }
def FnExactIsBlendCardSaid : Prop := Claim7.holds Tryd.pinned (.plain (OpenSpec.ofChange fnExactIsBlendSpec)) fnExactIsBlendCard

/-- THE TIED CARD OF 'laws.FnExactDoesFit'. -/
def fnExactDoesFitCard : Claim7 := { stood := { row := fnExactDoesFitRow, standIns := [], harness := (true, "fa3bce40a6e5a6b9e23211b0d1e5c99bc66486357f85b885e94caca56b2c16cb"), looks := true }, kinds := [], alts := [], laidByText := true, laidKinds := [.data], laidTests := true, laidLooks := .later }
def FnExactDoesFitCardSaid : Prop := Claim7.holds Tryd.pinned (.plain (OpenSpec.ofChange fnExactDoesFitSpec)) fnExactDoesFitCard

/-- THE TIED CARD OF 'laws.FnExactTakeMelt'. -/
def fnExactTakeMeltCard : Claim7 := { stood := { row := fnExactTakeMeltRow, standIns := [], harness := (true, "fa3bce40a6e5a6b9e23211b0d1e5c99bc66486357f85b885e94caca56b2c16cb"), looks := true }, kinds := [], alts := [], laidByText := true, laidKinds := [.data], laidTests := true, laidLooks := .later }
def FnExactTakeMeltCardSaid : Prop := Claim7.holds Tryd.pinned (.plain (OpenSpec.ofChange fnExactTakeMeltSpec)) fnExactTakeMeltCard

/-- THE TIED CARD OF 'laws.FnExactTinToAdd'. -/
def fnExactTinToAddCard : Claim7 := { stood := { row := fnExactTinToAddRow, standIns := [], harness := (true, "fa3bce40a6e5a6b9e23211b0d1e5c99bc66486357f85b885e94caca56b2c16cb"), looks := true }, kinds := [], alts := [], laidByText := true, laidKinds := [.data], laidTests := true, laidLooks := .later }
def FnExactTinToAddCardSaid : Prop := Claim7.holds Tryd.pinned (.plain (OpenSpec.ofChange fnExactTinToAddSpec)) fnExactTinToAddCard

/-- THE TIED CARD OF 'laws.FnExactAntimonyToAdd'. -/
def fnExactAntimonyToAddCard : Claim7 := { stood := { row := fnExactAntimonyToAddRow, standIns := [], harness := (true, "fa3bce40a6e5a6b9e23211b0d1e5c99bc66486357f85b885e94caca56b2c16cb"), looks := true }, kinds := [], alts := [], laidByText := true, laidKinds := [.data], laidTests := true, laidLooks := .later }
def FnExactAntimonyToAddCardSaid : Prop := Claim7.holds Tryd.pinned (.plain (OpenSpec.ofChange fnExactAntimonyToAddSpec)) fnExactAntimonyToAddCard

/-- THE TIED CARD OF 'laws.FnExactLeadToAdd'. -/
def fnExactLeadToAddCard : Claim7 := { stood := { row := fnExactLeadToAddRow, standIns := [], harness := (true, "fa3bce40a6e5a6b9e23211b0d1e5c99bc66486357f85b885e94caca56b2c16cb"), looks := true }, kinds := [], alts := [], laidByText := true, laidKinds := [.data], laidTests := true, laidLooks := .later }
def FnExactLeadToAddCardSaid : Prop := Claim7.holds Tryd.pinned (.plain (OpenSpec.ofChange fnExactLeadToAddSpec)) fnExactLeadToAddCard

/-- THE TIED CARD OF 'laws.FnExactLeastOfOther'. -/
def fnExactLeastOfOtherCard : Claim7 := { stood := { row := fnExactLeastOfOtherRow, standIns := [], harness := (true, "fa3bce40a6e5a6b9e23211b0d1e5c99bc66486357f85b885e94caca56b2c16cb"), looks := true }, kinds := [], alts := [], laidByText := true, laidKinds := [.data], laidTests := true, laidLooks := .later }
def FnExactLeastOfOtherCardSaid : Prop := Claim7.holds Tryd.pinned (.plain (OpenSpec.ofChange fnExactLeastOfOtherSpec)) fnExactLeastOfOtherCard

/-- THE TIED CARD OF 'laws.FnExactMeltText'. -/
def fnExactMeltTextCard : Claim7 := { stood := { row := fnExactMeltTextRow, standIns := [], harness := (true, "fa3bce40a6e5a6b9e23211b0d1e5c99bc66486357f85b885e94caca56b2c16cb"), looks := true }, kinds := [], alts := [], laidByText := true, laidKinds := [.data, .data, .data], laidTests := true, laidLooks := .later }
def FnExactMeltTextCardSaid : Prop := Claim7.holds Tryd.pinned (.plain (OpenSpec.ofChange fnExactMeltTextSpec)) fnExactMeltTextCard

/-- THE TIED CARD OF 'laws.FnExactParseMelt'. -/
def fnExactParseMeltCard : Claim7 := { stood := { row := fnExactParseMeltRow, standIns := [], harness := (true, "fa3bce40a6e5a6b9e23211b0d1e5c99bc66486357f85b885e94caca56b2c16cb"), looks := true }, kinds := [], alts := [], laidByText := true, laidKinds := [.data, .data, .data, .data, .sentinel, .sentinel, .pinned], laidTests := true, laidLooks := .later }
def FnExactParseMeltCardSaid : Prop := Claim7.holds Tryd.pinned (.plain (OpenSpec.ofChange fnExactParseMeltSpec)) fnExactParseMeltCard

/-- THE TIED CARD OF 'laws.FnExactParseFont'. -/
def fnExactParseFontCard : Claim7 := { stood := { row := fnExactParseFontRow, standIns := [], harness := (true, "fa3bce40a6e5a6b9e23211b0d1e5c99bc66486357f85b885e94caca56b2c16cb"), looks := true }, kinds := [], alts := [], laidByText := true, laidKinds := [.data, .data, .data, .sentinel, .sentinel], laidTests := true, laidLooks := .later }
def FnExactParseFontCardSaid : Prop := Claim7.holds Tryd.pinned (.plain (OpenSpec.ofChange fnExactParseFontSpec)) fnExactParseFontCard

/-- THE SECOND FORM's CARD OF 'laws.FnExactIsBlend'. -/
def fnExactIsBlendUptoCard : Claim7 := { stood := { row := fnExactIsBlendUptoRow, standIns := [], harness := (true, "fa3bce40a6e5a6b9e23211b0d1e5c99bc66486357f85b885e94caca56b2c16cb"), looks := true }, kinds := [], alts := [], laidByText := true, laidKinds := [.data], laidTests := true, laidLooks := .later }
def FnExactIsBlendUptoCardSaid : Prop := Claim7.holds Tryd.pinned (.plain (OpenSpec.upto fnExactIsBlendSpec)) fnExactIsBlendUptoCard

/-- THE SECOND FORM's CARD OF 'laws.FnExactDoesFit'. -/
def fnExactDoesFitUptoCard : Claim7 := { stood := { row := fnExactDoesFitUptoRow, standIns := [], harness := (true, "fa3bce40a6e5a6b9e23211b0d1e5c99bc66486357f85b885e94caca56b2c16cb"), looks := true }, kinds := [], alts := [], laidByText := true, laidKinds := [.data], laidTests := true, laidLooks := .later }
def FnExactDoesFitUptoCardSaid : Prop := Claim7.holds Tryd.pinned (.plain (OpenSpec.upto fnExactDoesFitSpec)) fnExactDoesFitUptoCard

/-- THE SECOND FORM's CARD OF 'laws.FnExactTakeMelt'. -/
def fnExactTakeMeltUptoCard : Claim7 := { stood := { row := fnExactTakeMeltUptoRow, standIns := [], harness := (true, "fa3bce40a6e5a6b9e23211b0d1e5c99bc66486357f85b885e94caca56b2c16cb"), looks := true }, kinds := [], alts := [], laidByText := true, laidKinds := [.data], laidTests := true, laidLooks := .later }
def FnExactTakeMeltUptoCardSaid : Prop := Claim7.holds Tryd.pinned (.plain (OpenSpec.upto fnExactTakeMeltSpec)) fnExactTakeMeltUptoCard

/-- THE SECOND FORM's CARD OF 'laws.FnExactTinToAdd'. -/
def fnExactTinToAddUptoCard : Claim7 := { stood := { row := fnExactTinToAddUptoRow, standIns := [], harness := (true, "fa3bce40a6e5a6b9e23211b0d1e5c99bc66486357f85b885e94caca56b2c16cb"), looks := true }, kinds := [], alts := [], laidByText := true, laidKinds := [.data], laidTests := true, laidLooks := .later }
def FnExactTinToAddUptoCardSaid : Prop := Claim7.holds Tryd.pinned (.plain (OpenSpec.upto fnExactTinToAddSpec)) fnExactTinToAddUptoCard

/-- THE SECOND FORM's CARD OF 'laws.FnExactAntimonyToAdd'. -/
def fnExactAntimonyToAddUptoCard : Claim7 := { stood := { row := fnExactAntimonyToAddUptoRow, standIns := [], harness := (true, "fa3bce40a6e5a6b9e23211b0d1e5c99bc66486357f85b885e94caca56b2c16cb"), looks := true }, kinds := [], alts := [], laidByText := true, laidKinds := [.data], laidTests := true, laidLooks := .later }
def FnExactAntimonyToAddUptoCardSaid : Prop := Claim7.holds Tryd.pinned (.plain (OpenSpec.upto fnExactAntimonyToAddSpec)) fnExactAntimonyToAddUptoCard

/-- THE SECOND FORM's CARD OF 'laws.FnExactLeadToAdd'. -/
def fnExactLeadToAddUptoCard : Claim7 := { stood := { row := fnExactLeadToAddUptoRow, standIns := [], harness := (true, "fa3bce40a6e5a6b9e23211b0d1e5c99bc66486357f85b885e94caca56b2c16cb"), looks := true }, kinds := [], alts := [], laidByText := true, laidKinds := [.data], laidTests := true, laidLooks := .later }
def FnExactLeadToAddUptoCardSaid : Prop := Claim7.holds Tryd.pinned (.plain (OpenSpec.upto fnExactLeadToAddSpec)) fnExactLeadToAddUptoCard

/-- THE SECOND FORM's CARD OF 'laws.FnExactLeastOfOther'. -/
def fnExactLeastOfOtherUptoCard : Claim7 := { stood := { row := fnExactLeastOfOtherUptoRow, standIns := [], harness := (true, "fa3bce40a6e5a6b9e23211b0d1e5c99bc66486357f85b885e94caca56b2c16cb"), looks := true }, kinds := [], alts := [], laidByText := true, laidKinds := [.data], laidTests := true, laidLooks := .later }
def FnExactLeastOfOtherUptoCardSaid : Prop := Claim7.holds Tryd.pinned (.plain (OpenSpec.upto fnExactLeastOfOtherSpec)) fnExactLeastOfOtherUptoCard

/-- THE SECOND FORM's CARD OF 'laws.FnExactMeltText'. -/
def fnExactMeltTextUptoCard : Claim7 := { stood := { row := fnExactMeltTextUptoRow, standIns := [], harness := (true, "fa3bce40a6e5a6b9e23211b0d1e5c99bc66486357f85b885e94caca56b2c16cb"), looks := true }, kinds := [], alts := [], laidByText := true, laidKinds := [.data, .data, .data], laidTests := true, laidLooks := .later }
def FnExactMeltTextUptoCardSaid : Prop := Claim7.holds Tryd.pinned (.plain (OpenSpec.upto fnExactMeltTextSpec)) fnExactMeltTextUptoCard

/-- THE SECOND FORM's CARD OF 'laws.FnExactParseMelt'. -/
def fnExactParseMeltUptoCard : Claim7 := { stood := { row := fnExactParseMeltUptoRow, standIns := [], harness := (true, "fa3bce40a6e5a6b9e23211b0d1e5c99bc66486357f85b885e94caca56b2c16cb"), looks := true }, kinds := [], alts := [], laidByText := true, laidKinds := [.data, .data, .data, .data, .sentinel, .sentinel, .pinned], laidTests := true, laidLooks := .later }
def FnExactParseMeltUptoCardSaid : Prop := Claim7.holds Tryd.pinned (.plain (OpenSpec.upto fnExactParseMeltSpec)) fnExactParseMeltUptoCard

/-- THE SECOND FORM's CARD OF 'laws.FnExactParseFont'. -/
def fnExactParseFontUptoCard : Claim7 := { stood := { row := fnExactParseFontUptoRow, standIns := [], harness := (true, "fa3bce40a6e5a6b9e23211b0d1e5c99bc66486357f85b885e94caca56b2c16cb"), looks := true }, kinds := [], alts := [], laidByText := true, laidKinds := [.data, .data, .data, .sentinel, .sentinel], laidTests := true, laidLooks := .later }
def FnExactParseFontUptoCardSaid : Prop := Claim7.holds Tryd.pinned (.plain (OpenSpec.upto fnExactParseFontSpec)) fnExactParseFontUptoCard
end Rows
end Go.Proofs.YtebbgdihifihnaaDoor
