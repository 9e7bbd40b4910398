/-
  DERIVED. GIVEN WITH THE SEED: THE CARDS: each row of YtljakcfdjcjdbaaDoorRows.lean that lists a variable, with what it lists TIED to the program's text (the seventh form; the later family's looks); each row that meets fmt, with fmt's text TOLD by the authors' own Lean function (tested against real Go, not proved from fmt's source: count such statements apart). THE CARD IS WHAT COUNTS. Prove the row's statement (the work); the ties are given (YtljakcfdjcjdbaaDoorTie.lean); close each card by the builder's one call (the guide's Derived/Test/ToyasCard.lean, 'card_holds'). Laid BY PROGRAM, IN A SANDBOX (cutbox-door.mjs). By AI agents, Wed Nov 11 2026. No macro, syntax, notation, axiom, sorry.
-/
import Derived.Test.YtljakcfdjcjdbaaDoorRows
import GoSem.ClaimSeven
namespace Go.Proofs.YtljakcfdjcjdbaaDoor
namespace Rows

/-- THE TIED CARD OF 'laws.FnExactStockText'. -/
def fnExactStockTextCard : Claim7 := { stood := { row := fnExactStockTextRow, standIns := [], harness := (true, "003e3fa82d995cb6fa2df13f64548c6a204f113c73670ddec2851165d3b6260b"), looks := true }, kinds := [], alts := [], laidByText := true, laidKinds := [.data, .data, .data], laidTests := true, laidLooks := .later }
def FnExactStockTextCardSaid : Prop := Claim7.holds Tryd.pinned (.plain (OpenSpec.ofChange fnExactStockTextSpec)) fnExactStockTextCard

/-- THE TIED CARD OF 'laws.FnExactParseStock'. -/
def fnExactParseStockCard : Claim7 := { stood := { row := fnExactParseStockRow, standIns := [], harness := (true, "003e3fa82d995cb6fa2df13f64548c6a204f113c73670ddec2851165d3b6260b"), looks := true }, kinds := [], alts := [], laidByText := true, laidKinds := [.data, .data, .data, .sentinel, .sentinel], laidTests := true, laidLooks := .later }
def FnExactParseStockCardSaid : Prop := Claim7.holds Tryd.pinned (.plain (OpenSpec.ofChange fnExactParseStockSpec)) fnExactParseStockCard

/-- THE SECOND FORM's CARD OF 'laws.FnExactStockText'. -/
def fnExactStockTextUptoCard : Claim7 := { stood := { row := fnExactStockTextUptoRow, standIns := [], harness := (true, "003e3fa82d995cb6fa2df13f64548c6a204f113c73670ddec2851165d3b6260b"), looks := true }, kinds := [], alts := [], laidByText := true, laidKinds := [.data, .data, .data], laidTests := true, laidLooks := .later }
def FnExactStockTextUptoCardSaid : Prop := Claim7.holds Tryd.pinned (.plain (OpenSpec.upto fnExactStockTextSpec)) fnExactStockTextUptoCard

/-- THE SECOND FORM's CARD OF 'laws.FnExactParseStock'. -/
def fnExactParseStockUptoCard : Claim7 := { stood := { row := fnExactParseStockUptoRow, standIns := [], harness := (true, "003e3fa82d995cb6fa2df13f64548c6a204f113c73670ddec2851165d3b6260b"), looks := true }, kinds := [], alts := [], laidByText := true, laidKinds := [.data, .data, .data, .sentinel, .sentinel], laidTests := true, laidLooks := .later }
def FnExactParseStockUptoCardSaid : Prop := Claim7.holds Tryd.pinned (.plain (OpenSpec.upto fnExactParseStockSpec)) fnExactParseStockUptoCard
end Rows
end Go.Proofs.YtljakcfdjcjdbaaDoor
