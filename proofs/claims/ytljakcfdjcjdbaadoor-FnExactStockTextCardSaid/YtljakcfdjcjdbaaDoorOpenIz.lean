/-
  An argument that is a slice of ints, opened: it reads as a list of ints.
-/
import Derived.Test.YtljakcfdjcjdbaaDoorOpenG
namespace Go.Proofs.YtljakcfdjcjdbaaDoor
open Go.ChangeShapes Go.WideShapes Go.ChangeAt Go.RowKit Go.Joins
set_option linter.unusedVariables false

theorem cells_intz : Tryd.prog.cellsOf 3 = 1 := by kernel_rfl
end Go.Proofs.YtljakcfdjcjdbaaDoor
