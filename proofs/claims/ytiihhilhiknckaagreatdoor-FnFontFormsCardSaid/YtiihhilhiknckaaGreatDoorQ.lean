/-
  The contracts of laws.qInts and laws.qTexts: whether two slices read as the same list. (For FnFonts.)
-/
import Derived.Test.YtiihhilhiknckaaGreatDoorStr
import Derived.Test.YtiihhilhiknckaaGreatDoorGlue
namespace Go.Proofs.YtiihhilhiknckaaGreatDoor
open Go.RowKit
set_option linter.unusedVariables false

end Go.Proofs.YtiihhilhiknckaaGreatDoor
