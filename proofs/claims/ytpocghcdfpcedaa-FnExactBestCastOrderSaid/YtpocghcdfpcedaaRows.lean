/-
  No cell of these rows narrows 'for every input' (looked for: loops, veiled, ifaces, maps, wideKeys, modest, calm, conditions, laid).
  DERIVED. THE GIVEN ROWS OF THIS SEAT. 11 by the template 'for every input the law returns true; each argument reads behind the call as it read before'; 0 by the template 'total and deterministic' (their statements: YtpocghcdfpcedaaTotals.lean).
  GIVEN WITH THE SEED: the statements are not yours to turn. If you find one false, say at which input.
  Laid BY PROGRAM, IN A SANDBOX (cutbox-rows.mjs): the forced cells as the released guide's own fill.sh prints them over the translation 1086a3c64b60c358… (all of the seat's roots in one cut). By AI agents, Wed Nov 11 2026. No macro, syntax, notation, axiom, sorry.
-/
import Derived.Test.YtpocghcdfpcedaaChecked
import GoSem.Claim
import GoSem.ClaimJoined
import GoSem.ClaimMapViews
import Derived.JoinedTies
import Derived.KernelRfl
namespace Go.Proofs.Ytpocghcdfpcedaa
/- THE CELL 'sum', in the pinned program and in every row, IS THE sha256 OF THE DUMP (.gsa) THAT YtpocghcdfpcedaaProg.lean LOADS. Nothing in Lean hashes anything: it is a label: what it is worth is what the hold of that sum in a sandbox is worth. -/
noncomputable def Try.pinned : Pinned := { name := "ytpocghcdfpcedaa", sum := "1086a3c64b60c358fad64eddbc3ebaef638c0d9fc23613efaaa1e6dfda795dd9", checked := Try.checked }
namespace Rows
def none {H : Type} : Left H := { results := [], args := [] }

/-- 'laws.FnExactAreCastings': WHATEVER THE INPUT: true; the input reads as it did. -/
def fnExactAreCastingsSpec : ChangeSpec := { name := "fnExactAreCastings", fn := fun _ => fun
  | [d] => { results := [.lit (.bool true)], args := [d] }
  | _ => none }
def fnExactAreCastingsRow : OpenClaim := { program := "ytpocghcdfpcedaa", sum := "1086a3c64b60c358fad64eddbc3ebaef638c0d9fc23613efaaa1e6dfda795dd9", func := "loop.example/g01054/laws.FnExactAreCastings", spec := "fnExactAreCastings", apart := false }
def FnExactAreCastingsSaid : Prop := fnExactAreCastingsRow.holds Try.pinned (OpenSpec.ofChange fnExactAreCastingsSpec)

/-- ITS FALSE NEIGHBOUR: 'it returns false'. Refute it at one input. -/
def fnExactAreCastingsWrong : ChangeSpec := { name := "fnExactAreCastings", fn := fun _ => fun
  | [d] => { results := [.lit (.bool false)], args := [d] }
  | _ => none }
def FnExactAreCastingsWrongFalsely : Prop := fnExactAreCastingsRow.holds Try.pinned (OpenSpec.ofChange fnExactAreCastingsWrong)

/-- 'laws.FnExactIsMachine': WHATEVER THE INPUT: true; the input reads as it did. -/
def fnExactIsMachineSpec : ChangeSpec := { name := "fnExactIsMachine", fn := fun _ => fun
  | [d] => { results := [.lit (.bool true)], args := [d] }
  | _ => none }
def fnExactIsMachineRow : OpenClaim := { program := "ytpocghcdfpcedaa", sum := "1086a3c64b60c358fad64eddbc3ebaef638c0d9fc23613efaaa1e6dfda795dd9", func := "loop.example/g01054/laws.FnExactIsMachine", spec := "fnExactIsMachine", apart := false }
def FnExactIsMachineSaid : Prop := fnExactIsMachineRow.holds Try.pinned (OpenSpec.ofChange fnExactIsMachineSpec)

/-- ITS FALSE NEIGHBOUR: 'it returns false'. Refute it at one input. -/
def fnExactIsMachineWrong : ChangeSpec := { name := "fnExactIsMachine", fn := fun _ => fun
  | [d] => { results := [.lit (.bool false)], args := [d] }
  | _ => none }
def FnExactIsMachineWrongFalsely : Prop := fnExactIsMachineRow.holds Try.pinned (OpenSpec.ofChange fnExactIsMachineWrong)

/-- 'laws.FnExactCastTime': WHATEVER THE INPUT: true; the input reads as it did. -/
def fnExactCastTimeSpec : ChangeSpec := { name := "fnExactCastTime", fn := fun _ => fun
  | [d1, d2] => { results := [.lit (.bool true)], args := [d1, d2] }
  | _ => none }
def fnExactCastTimeRow : OpenClaim := { program := "ytpocghcdfpcedaa", sum := "1086a3c64b60c358fad64eddbc3ebaef638c0d9fc23613efaaa1e6dfda795dd9", func := "loop.example/g01054/laws.FnExactCastTime", spec := "fnExactCastTime", apart := false }
def FnExactCastTimeSaid : Prop := fnExactCastTimeRow.holds Try.pinned (OpenSpec.ofChange fnExactCastTimeSpec)

/-- ITS FALSE NEIGHBOUR: 'it returns false'. Refute it at one input. -/
def fnExactCastTimeWrong : ChangeSpec := { name := "fnExactCastTime", fn := fun _ => fun
  | [d1, d2] => { results := [.lit (.bool false)], args := [d1, d2] }
  | _ => none }
def FnExactCastTimeWrongFalsely : Prop := fnExactCastTimeRow.holds Try.pinned (OpenSpec.ofChange fnExactCastTimeWrong)

/-- 'laws.FnExactOrderTime': WHATEVER THE INPUT: true; the input reads as it did. -/
def fnExactOrderTimeSpec : ChangeSpec := { name := "fnExactOrderTime", fn := fun _ => fun
  | [d1, d2, d3] => { results := [.lit (.bool true)], args := [d1, d2, d3] }
  | _ => none }
def fnExactOrderTimeRow : OpenClaim := { program := "ytpocghcdfpcedaa", sum := "1086a3c64b60c358fad64eddbc3ebaef638c0d9fc23613efaaa1e6dfda795dd9", func := "loop.example/g01054/laws.FnExactOrderTime", spec := "fnExactOrderTime", apart := false }
def FnExactOrderTimeSaid : Prop := fnExactOrderTimeRow.holds Try.pinned (OpenSpec.ofChange fnExactOrderTimeSpec)

/-- ITS FALSE NEIGHBOUR: 'it returns false'. Refute it at one input. -/
def fnExactOrderTimeWrong : ChangeSpec := { name := "fnExactOrderTime", fn := fun _ => fun
  | [d1, d2, d3] => { results := [.lit (.bool false)], args := [d1, d2, d3] }
  | _ => none }
def FnExactOrderTimeWrongFalsely : Prop := fnExactOrderTimeRow.holds Try.pinned (OpenSpec.ofChange fnExactOrderTimeWrong)

/-- 'laws.FnExactChangesIn': WHATEVER THE INPUT: true; the input reads as it did. -/
def fnExactChangesInSpec : ChangeSpec := { name := "fnExactChangesIn", fn := fun _ => fun
  | [d1, d2, d3] => { results := [.lit (.bool true)], args := [d1, d2, d3] }
  | _ => none }
def fnExactChangesInRow : OpenClaim := { program := "ytpocghcdfpcedaa", sum := "1086a3c64b60c358fad64eddbc3ebaef638c0d9fc23613efaaa1e6dfda795dd9", func := "loop.example/g01054/laws.FnExactChangesIn", spec := "fnExactChangesIn", apart := false }
def FnExactChangesInSaid : Prop := fnExactChangesInRow.holds Try.pinned (OpenSpec.ofChange fnExactChangesInSpec)

/-- ITS FALSE NEIGHBOUR: 'it returns false'. Refute it at one input. -/
def fnExactChangesInWrong : ChangeSpec := { name := "fnExactChangesIn", fn := fun _ => fun
  | [d1, d2, d3] => { results := [.lit (.bool false)], args := [d1, d2, d3] }
  | _ => none }
def FnExactChangesInWrongFalsely : Prop := fnExactChangesInRow.holds Try.pinned (OpenSpec.ofChange fnExactChangesInWrong)

/-- 'laws.FnExactBestCastOrder': WHATEVER THE INPUT: true; the input reads as it did. -/
def fnExactBestCastOrderSpec : ChangeSpec := { name := "fnExactBestCastOrder", fn := fun _ => fun
  | [d1, d2] => { results := [.lit (.bool true)], args := [d1, d2] }
  | _ => none }
def fnExactBestCastOrderRow : OpenClaim := { program := "ytpocghcdfpcedaa", sum := "1086a3c64b60c358fad64eddbc3ebaef638c0d9fc23613efaaa1e6dfda795dd9", func := "loop.example/g01054/laws.FnExactBestCastOrder", spec := "fnExactBestCastOrder", unfollowed := true, recurses := true, apart := false }
def FnExactBestCastOrderSaid : Prop := fnExactBestCastOrderRow.holds Try.pinned (OpenSpec.ofChange fnExactBestCastOrderSpec)

/-- ITS FALSE NEIGHBOUR: 'it returns false'. Refute it at one input. -/
def fnExactBestCastOrderWrong : ChangeSpec := { name := "fnExactBestCastOrder", fn := fun _ => fun
  | [d1, d2] => { results := [.lit (.bool false)], args := [d1, d2] }
  | _ => none }
def FnExactBestCastOrderWrongFalsely : Prop := fnExactBestCastOrderRow.holds Try.pinned (OpenSpec.ofChange fnExactBestCastOrderWrong)

/-- 'laws.FnExactDoneBy': WHATEVER THE INPUT: true; the input reads as it did. -/
def fnExactDoneBySpec : ChangeSpec := { name := "fnExactDoneBy", fn := fun _ => fun
  | [d1, d2, d3, d4] => { results := [.lit (.bool true)], args := [d1, d2, d3, d4] }
  | _ => none }
def fnExactDoneByRow : OpenClaim := { program := "ytpocghcdfpcedaa", sum := "1086a3c64b60c358fad64eddbc3ebaef638c0d9fc23613efaaa1e6dfda795dd9", func := "loop.example/g01054/laws.FnExactDoneBy", spec := "fnExactDoneBy", apart := false }
def FnExactDoneBySaid : Prop := fnExactDoneByRow.holds Try.pinned (OpenSpec.ofChange fnExactDoneBySpec)

/-- ITS FALSE NEIGHBOUR: 'it returns false'. Refute it at one input. -/
def fnExactDoneByWrong : ChangeSpec := { name := "fnExactDoneBy", fn := fun _ => fun
  | [d1, d2, d3, d4] => { results := [.lit (.bool false)], args := [d1, d2, d3, d4] }
  | _ => none }
def FnExactDoneByWrongFalsely : Prop := fnExactDoneByRow.holds Try.pinned (OpenSpec.ofChange fnExactDoneByWrong)

/-- 'laws.FnExactEndsOf': WHATEVER THE INPUT: true; the input reads as it did. -/
def fnExactEndsOfSpec : ChangeSpec := { name := "fnExactEndsOf", fn := fun _ => fun
  | [d1, d2, d3] => { results := [.lit (.bool true)], args := [d1, d2, d3] }
  | _ => none }
def fnExactEndsOfRow : OpenClaim := { program := "ytpocghcdfpcedaa", sum := "1086a3c64b60c358fad64eddbc3ebaef638c0d9fc23613efaaa1e6dfda795dd9", func := "loop.example/g01054/laws.FnExactEndsOf", spec := "fnExactEndsOf", apart := false }
def FnExactEndsOfSaid : Prop := fnExactEndsOfRow.holds Try.pinned (OpenSpec.ofChange fnExactEndsOfSpec)

/-- ITS FALSE NEIGHBOUR: 'it returns false'. Refute it at one input. -/
def fnExactEndsOfWrong : ChangeSpec := { name := "fnExactEndsOf", fn := fun _ => fun
  | [d1, d2, d3] => { results := [.lit (.bool false)], args := [d1, d2, d3] }
  | _ => none }
def FnExactEndsOfWrongFalsely : Prop := fnExactEndsOfRow.holds Try.pinned (OpenSpec.ofChange fnExactEndsOfWrong)

/-- 'laws.FnExactMostCastings': WHATEVER THE INPUT: true; the input reads as it did. -/
def fnExactMostCastingsSpec : ChangeSpec := { name := "fnExactMostCastings", fn := fun _ => fun
  | [d1, d2, d3] => { results := [.lit (.bool true)], args := [d1, d2, d3] }
  | _ => none }
def fnExactMostCastingsRow : OpenClaim := { program := "ytpocghcdfpcedaa", sum := "1086a3c64b60c358fad64eddbc3ebaef638c0d9fc23613efaaa1e6dfda795dd9", func := "loop.example/g01054/laws.FnExactMostCastings", spec := "fnExactMostCastings", unfollowed := true, recurses := true, apart := false }
def FnExactMostCastingsSaid : Prop := fnExactMostCastingsRow.holds Try.pinned (OpenSpec.ofChange fnExactMostCastingsSpec)

/-- ITS FALSE NEIGHBOUR: 'it returns false'. Refute it at one input. -/
def fnExactMostCastingsWrong : ChangeSpec := { name := "fnExactMostCastings", fn := fun _ => fun
  | [d1, d2, d3] => { results := [.lit (.bool false)], args := [d1, d2, d3] }
  | _ => none }
def FnExactMostCastingsWrongFalsely : Prop := fnExactMostCastingsRow.holds Try.pinned (OpenSpec.ofChange fnExactMostCastingsWrong)

/-- 'laws.FnExactShareOfMachines': WHATEVER THE INPUT: true; the input reads as it did. -/
def fnExactShareOfMachinesSpec : ChangeSpec := { name := "fnExactShareOfMachines", fn := fun _ => fun
  | [d1, d2, d3] => { results := [.lit (.bool true)], args := [d1, d2, d3] }
  | _ => none }
def fnExactShareOfMachinesRow : OpenClaim := { program := "ytpocghcdfpcedaa", sum := "1086a3c64b60c358fad64eddbc3ebaef638c0d9fc23613efaaa1e6dfda795dd9", func := "loop.example/g01054/laws.FnExactShareOfMachines", spec := "fnExactShareOfMachines", apart := false }
def FnExactShareOfMachinesSaid : Prop := fnExactShareOfMachinesRow.holds Try.pinned (OpenSpec.ofChange fnExactShareOfMachinesSpec)

/-- ITS FALSE NEIGHBOUR: 'it returns false'. Refute it at one input. -/
def fnExactShareOfMachinesWrong : ChangeSpec := { name := "fnExactShareOfMachines", fn := fun _ => fun
  | [d1, d2, d3] => { results := [.lit (.bool false)], args := [d1, d2, d3] }
  | _ => none }
def FnExactShareOfMachinesWrongFalsely : Prop := fnExactShareOfMachinesRow.holds Try.pinned (OpenSpec.ofChange fnExactShareOfMachinesWrong)

/-- 'laws.FnExactMeanEnd': WHATEVER THE INPUT: true; the input reads as it did. -/
def fnExactMeanEndSpec : ChangeSpec := { name := "fnExactMeanEnd", fn := fun _ => fun
  | [d1, d2, d3] => { results := [.lit (.bool true)], args := [d1, d2, d3] }
  | _ => none }
def fnExactMeanEndRow : OpenClaim := { program := "ytpocghcdfpcedaa", sum := "1086a3c64b60c358fad64eddbc3ebaef638c0d9fc23613efaaa1e6dfda795dd9", func := "loop.example/g01054/laws.FnExactMeanEnd", spec := "fnExactMeanEnd", apart := false }
def FnExactMeanEndSaid : Prop := fnExactMeanEndRow.holds Try.pinned (OpenSpec.ofChange fnExactMeanEndSpec)

/-- ITS FALSE NEIGHBOUR: 'it returns false'. Refute it at one input. -/
def fnExactMeanEndWrong : ChangeSpec := { name := "fnExactMeanEnd", fn := fun _ => fun
  | [d1, d2, d3] => { results := [.lit (.bool false)], args := [d1, d2, d3] }
  | _ => none }
def FnExactMeanEndWrongFalsely : Prop := fnExactMeanEndRow.holds Try.pinned (OpenSpec.ofChange fnExactMeanEndWrong)

/- THE SECOND FORM. 'bulk': how many values and letters a reading holds, each counted each time it is reached (what is shared counts as often as it is met; a slice's spare places count too). A statement '..UptoSaid' is the law's where the arguments, and the package variables that the reading takes, are together of bulk at most 1048576: NARROWER than '..Said'. Prove '..Said' where nothing that the law and all that it calls make is longer than what came in: it says more and counts as full. Else prove '..UptoSaid'. A law counts once. -/
mutual
def uptoBulk {H : Type} : DataW H → Nat
  | .lit (.string bytes) => bytes.length + 1
  | .lit _ => 1
  | .nil => 1
  | .ptr d => uptoBulk d + 1
  | .slice elems spare => uptoBulkAll elems + uptoBulkAll spare + 1
  | .agg parts => uptoBulkAll parts + 1
  | .iface _ d => uptoBulk d + 1
  | .map entries => uptoBulkEntries entries + 1
  | .held _ => 1
def uptoBulkAll {H : Type} : List (DataW H) → Nat
  | [] => 0
  | d :: r => uptoBulk d + uptoBulkAll r
def uptoBulkEntries {H : Type} : List (Lit × DataW H) → Nat
  | [] => 0
  | x :: r => uptoBulkEntry x + uptoBulkEntries r
def uptoBulkEntry {H : Type} : Lit × DataW H → Nat
  | (.string bytes, d) => bytes.length + uptoBulk d + 1
  | (_, d) => uptoBulk d + 1
 end
def uptoSmall : (H : Type) → List (DataW H) → Bool := fun _ ds => decide (uptoBulkAll ds ≤ 1048576)
def OpenSpec.upto (s : _root_.Go.ChangeSpec) : _root_.Go.OpenSpec := { _root_.Go.OpenSpec.ofChange s with cond := some uptoSmall }

/-- 'laws.FnExactAreCastings', WHERE WHAT IT READS IS OF BULK AT MOST 1048576: true; the input reads as it did. -/
def fnExactAreCastingsUptoRow : OpenClaim := { program := "ytpocghcdfpcedaa", sum := "1086a3c64b60c358fad64eddbc3ebaef638c0d9fc23613efaaa1e6dfda795dd9", func := "loop.example/g01054/laws.FnExactAreCastings", spec := "fnExactAreCastings", apart := false, narrowed := true }
def FnExactAreCastingsUptoSaid : Prop := fnExactAreCastingsUptoRow.holds Try.pinned (OpenSpec.upto fnExactAreCastingsSpec)

/-- 'laws.FnExactIsMachine', WHERE WHAT IT READS IS OF BULK AT MOST 1048576: true; the input reads as it did. -/
def fnExactIsMachineUptoRow : OpenClaim := { program := "ytpocghcdfpcedaa", sum := "1086a3c64b60c358fad64eddbc3ebaef638c0d9fc23613efaaa1e6dfda795dd9", func := "loop.example/g01054/laws.FnExactIsMachine", spec := "fnExactIsMachine", apart := false, narrowed := true }
def FnExactIsMachineUptoSaid : Prop := fnExactIsMachineUptoRow.holds Try.pinned (OpenSpec.upto fnExactIsMachineSpec)

/-- 'laws.FnExactCastTime', WHERE WHAT IT READS IS OF BULK AT MOST 1048576: true; the input reads as it did. -/
def fnExactCastTimeUptoRow : OpenClaim := { program := "ytpocghcdfpcedaa", sum := "1086a3c64b60c358fad64eddbc3ebaef638c0d9fc23613efaaa1e6dfda795dd9", func := "loop.example/g01054/laws.FnExactCastTime", spec := "fnExactCastTime", apart := false, narrowed := true }
def FnExactCastTimeUptoSaid : Prop := fnExactCastTimeUptoRow.holds Try.pinned (OpenSpec.upto fnExactCastTimeSpec)

/-- 'laws.FnExactOrderTime', WHERE WHAT IT READS IS OF BULK AT MOST 1048576: true; the input reads as it did. -/
def fnExactOrderTimeUptoRow : OpenClaim := { program := "ytpocghcdfpcedaa", sum := "1086a3c64b60c358fad64eddbc3ebaef638c0d9fc23613efaaa1e6dfda795dd9", func := "loop.example/g01054/laws.FnExactOrderTime", spec := "fnExactOrderTime", apart := false, narrowed := true }
def FnExactOrderTimeUptoSaid : Prop := fnExactOrderTimeUptoRow.holds Try.pinned (OpenSpec.upto fnExactOrderTimeSpec)

/-- 'laws.FnExactChangesIn', WHERE WHAT IT READS IS OF BULK AT MOST 1048576: true; the input reads as it did. -/
def fnExactChangesInUptoRow : OpenClaim := { program := "ytpocghcdfpcedaa", sum := "1086a3c64b60c358fad64eddbc3ebaef638c0d9fc23613efaaa1e6dfda795dd9", func := "loop.example/g01054/laws.FnExactChangesIn", spec := "fnExactChangesIn", apart := false, narrowed := true }
def FnExactChangesInUptoSaid : Prop := fnExactChangesInUptoRow.holds Try.pinned (OpenSpec.upto fnExactChangesInSpec)

/-- 'laws.FnExactBestCastOrder', WHERE WHAT IT READS IS OF BULK AT MOST 1048576: true; the input reads as it did. -/
def fnExactBestCastOrderUptoRow : OpenClaim := { program := "ytpocghcdfpcedaa", sum := "1086a3c64b60c358fad64eddbc3ebaef638c0d9fc23613efaaa1e6dfda795dd9", func := "loop.example/g01054/laws.FnExactBestCastOrder", spec := "fnExactBestCastOrder", unfollowed := true, recurses := true, apart := false, narrowed := true }
def FnExactBestCastOrderUptoSaid : Prop := fnExactBestCastOrderUptoRow.holds Try.pinned (OpenSpec.upto fnExactBestCastOrderSpec)

/-- 'laws.FnExactDoneBy', WHERE WHAT IT READS IS OF BULK AT MOST 1048576: true; the input reads as it did. -/
def fnExactDoneByUptoRow : OpenClaim := { program := "ytpocghcdfpcedaa", sum := "1086a3c64b60c358fad64eddbc3ebaef638c0d9fc23613efaaa1e6dfda795dd9", func := "loop.example/g01054/laws.FnExactDoneBy", spec := "fnExactDoneBy", apart := false, narrowed := true }
def FnExactDoneByUptoSaid : Prop := fnExactDoneByUptoRow.holds Try.pinned (OpenSpec.upto fnExactDoneBySpec)

/-- 'laws.FnExactEndsOf', WHERE WHAT IT READS IS OF BULK AT MOST 1048576: true; the input reads as it did. -/
def fnExactEndsOfUptoRow : OpenClaim := { program := "ytpocghcdfpcedaa", sum := "1086a3c64b60c358fad64eddbc3ebaef638c0d9fc23613efaaa1e6dfda795dd9", func := "loop.example/g01054/laws.FnExactEndsOf", spec := "fnExactEndsOf", apart := false, narrowed := true }
def FnExactEndsOfUptoSaid : Prop := fnExactEndsOfUptoRow.holds Try.pinned (OpenSpec.upto fnExactEndsOfSpec)

/-- 'laws.FnExactMostCastings', WHERE WHAT IT READS IS OF BULK AT MOST 1048576: true; the input reads as it did. -/
def fnExactMostCastingsUptoRow : OpenClaim := { program := "ytpocghcdfpcedaa", sum := "1086a3c64b60c358fad64eddbc3ebaef638c0d9fc23613efaaa1e6dfda795dd9", func := "loop.example/g01054/laws.FnExactMostCastings", spec := "fnExactMostCastings", unfollowed := true, recurses := true, apart := false, narrowed := true }
def FnExactMostCastingsUptoSaid : Prop := fnExactMostCastingsUptoRow.holds Try.pinned (OpenSpec.upto fnExactMostCastingsSpec)

/-- 'laws.FnExactShareOfMachines', WHERE WHAT IT READS IS OF BULK AT MOST 1048576: true; the input reads as it did. -/
def fnExactShareOfMachinesUptoRow : OpenClaim := { program := "ytpocghcdfpcedaa", sum := "1086a3c64b60c358fad64eddbc3ebaef638c0d9fc23613efaaa1e6dfda795dd9", func := "loop.example/g01054/laws.FnExactShareOfMachines", spec := "fnExactShareOfMachines", apart := false, narrowed := true }
def FnExactShareOfMachinesUptoSaid : Prop := fnExactShareOfMachinesUptoRow.holds Try.pinned (OpenSpec.upto fnExactShareOfMachinesSpec)

/-- 'laws.FnExactMeanEnd', WHERE WHAT IT READS IS OF BULK AT MOST 1048576: true; the input reads as it did. -/
def fnExactMeanEndUptoRow : OpenClaim := { program := "ytpocghcdfpcedaa", sum := "1086a3c64b60c358fad64eddbc3ebaef638c0d9fc23613efaaa1e6dfda795dd9", func := "loop.example/g01054/laws.FnExactMeanEnd", spec := "fnExactMeanEnd", apart := false, narrowed := true }
def FnExactMeanEndUptoSaid : Prop := fnExactMeanEndUptoRow.holds Try.pinned (OpenSpec.upto fnExactMeanEndSpec)

end Rows
end Go.Proofs.Ytpocghcdfpcedaa
