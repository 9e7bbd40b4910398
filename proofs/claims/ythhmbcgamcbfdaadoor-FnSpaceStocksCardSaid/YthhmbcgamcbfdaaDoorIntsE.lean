/-
  The contract of laws.markIntS on a row of the call's own, whatever type its block was made with.
-/
import Derived.Test.YthhmbcgamcbfdaaDoorInts
namespace Go.Proofs.YthhmbcgamcbfdaaDoor
open Go.RowKit
set_option linter.unusedVariables false

end Go.Proofs.YthhmbcgamcbfdaaDoor
