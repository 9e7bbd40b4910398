import Derived.Test.YtnbnegkoanidmaaGreatDoorBase
/-
  The contracts of the laws' own helpers on slices of ints (laws.eqIntS, laws.markIntS, laws.heldIntS): each answers what the plain words here say.
-/
namespace Go.Proofs.YtnbnegkoanidmaaGreatDoor
open Go.RowKit
set_option linter.unusedVariables false

end Go.Proofs.YtnbnegkoanidmaaGreatDoor

/-
  The contract of laws.markIntS on a row of the call's own, whatever type its block was made with.
-/
namespace Go.Proofs.YtnbnegkoanidmaaGreatDoor
open Go.RowKit
set_option linter.unusedVariables false

end Go.Proofs.YtnbnegkoanidmaaGreatDoor
