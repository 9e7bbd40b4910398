/-
  No cell of these rows narrows 'for every input' (looked for: loops, veiled, ifaces, maps, wideKeys, modest, calm, conditions, laid).
  DERIVED. THE GIVEN ROWS OF THIS SEAT. 12 by the template 'for every input the law returns true; each argument reads behind the call as it read before'; 0 by the template 'total and deterministic' (their statements: YtllafkeheppkjaaTotals.lean).
  GIVEN WITH THE SEED: the statements are not yours to turn. If you find one false, say at which input.
  Laid BY PROGRAM, IN A SANDBOX (cutbox-rows.mjs): the forced cells as the released guide's own fill.sh prints them over the translation 8dfe55f53debcea2… (all of the seat's roots in one cut). By AI agents, Wed Nov 11 2026. No macro, syntax, notation, axiom, sorry.
-/
import Derived.Test.YtllafkeheppkjaaChecked
import GoSem.Claim
import GoSem.ClaimJoined
import GoSem.ClaimMapViews
import Derived.JoinedTies
import Derived.KernelRfl
namespace Go.Proofs.Ytllafkeheppkjaa
/- THE CELL 'sum', in the pinned program and in every row, IS THE sha256 OF THE DUMP (.gsa) THAT YtllafkeheppkjaaProg.lean LOADS. Nothing in Lean hashes anything: it is a label: what it is worth is what the hold of that sum in a sandbox is worth. -/
noncomputable def Try.pinned : Pinned := { name := "ytllafkeheppkjaa", sum := "8dfe55f53debcea245994efa7c330d76da83c9345453fb48c1816c946b656f0d", checked := Try.checked }
namespace Rows
def none {H : Type} : Left H := { results := [], args := [] }

/-- 'laws.FnExactIsBox': WHATEVER THE INPUT: true; the input reads as it did. -/
def fnExactIsBoxSpec : ChangeSpec := { name := "fnExactIsBox", fn := fun _ => fun
  | [d] => { results := [.lit (.bool true)], args := [d] }
  | _ => none }
def fnExactIsBoxRow : OpenClaim := { program := "ytllafkeheppkjaa", sum := "8dfe55f53debcea245994efa7c330d76da83c9345453fb48c1816c946b656f0d", func := "loop.example/g01054/laws.FnExactIsBox", spec := "fnExactIsBox", apart := false }
def FnExactIsBoxSaid : Prop := fnExactIsBoxRow.holds Try.pinned (OpenSpec.ofChange fnExactIsBoxSpec)

/-- ITS FALSE NEIGHBOUR: 'it returns false'. Refute it at one input. -/
def fnExactIsBoxWrong : ChangeSpec := { name := "fnExactIsBox", fn := fun _ => fun
  | [d] => { results := [.lit (.bool false)], args := [d] }
  | _ => none }
def FnExactIsBoxWrongFalsely : Prop := fnExactIsBoxRow.holds Try.pinned (OpenSpec.ofChange fnExactIsBoxWrong)

/-- 'laws.FnExactIsCase': WHATEVER THE INPUT: true; the input reads as it did. -/
def fnExactIsCaseSpec : ChangeSpec := { name := "fnExactIsCase", fn := fun _ => fun
  | [d] => { results := [.lit (.bool true)], args := [d] }
  | _ => none }
def fnExactIsCaseRow : OpenClaim := { program := "ytllafkeheppkjaa", sum := "8dfe55f53debcea245994efa7c330d76da83c9345453fb48c1816c946b656f0d", func := "loop.example/g01054/laws.FnExactIsCase", spec := "fnExactIsCase", apart := false }
def FnExactIsCaseSaid : Prop := fnExactIsCaseRow.holds Try.pinned (OpenSpec.ofChange fnExactIsCaseSpec)

/-- ITS FALSE NEIGHBOUR: 'it returns false'. Refute it at one input. -/
def fnExactIsCaseWrong : ChangeSpec := { name := "fnExactIsCase", fn := fun _ => fun
  | [d] => { results := [.lit (.bool false)], args := [d] }
  | _ => none }
def FnExactIsCaseWrongFalsely : Prop := fnExactIsCaseRow.holds Try.pinned (OpenSpec.ofChange fnExactIsCaseWrong)

/-- 'laws.FnExactBoxOf': WHATEVER THE INPUT: true; the input reads as it did. -/
def fnExactBoxOfSpec : ChangeSpec := { name := "fnExactBoxOf", fn := fun _ => fun
  | [d1, d2] => { results := [.lit (.bool true)], args := [d1, d2] }
  | _ => none }
def fnExactBoxOfRow : OpenClaim := { program := "ytllafkeheppkjaa", sum := "8dfe55f53debcea245994efa7c330d76da83c9345453fb48c1816c946b656f0d", func := "loop.example/g01054/laws.FnExactBoxOf", spec := "fnExactBoxOf", inPlace := ["internal/bytealg.abigen_runtime_cmpstring"], unfollowed := true, recurses := true, apart := false }
def FnExactBoxOfSaid : Prop := fnExactBoxOfRow.holds Try.pinned (OpenSpec.ofChange fnExactBoxOfSpec)

/-- ITS FALSE NEIGHBOUR: 'it returns false'. Refute it at one input. -/
def fnExactBoxOfWrong : ChangeSpec := { name := "fnExactBoxOf", fn := fun _ => fun
  | [d1, d2] => { results := [.lit (.bool false)], args := [d1, d2] }
  | _ => none }
def FnExactBoxOfWrongFalsely : Prop := fnExactBoxOfRow.holds Try.pinned (OpenSpec.ofChange fnExactBoxOfWrong)

/-- 'laws.FnExactHandWay': WHATEVER THE INPUT: true; the input reads as it did. -/
def fnExactHandWaySpec : ChangeSpec := { name := "fnExactHandWay", fn := fun _ => fun
  | [d1, d2] => { results := [.lit (.bool true)], args := [d1, d2] }
  | _ => none }
def fnExactHandWayRow : OpenClaim := { program := "ytllafkeheppkjaa", sum := "8dfe55f53debcea245994efa7c330d76da83c9345453fb48c1816c946b656f0d", func := "loop.example/g01054/laws.FnExactHandWay", spec := "fnExactHandWay", inPlace := ["internal/bytealg.abigen_runtime_cmpstring"], unfollowed := true, recurses := true, apart := false }
def FnExactHandWaySaid : Prop := fnExactHandWayRow.holds Try.pinned (OpenSpec.ofChange fnExactHandWaySpec)

/-- ITS FALSE NEIGHBOUR: 'it returns false'. Refute it at one input. -/
def fnExactHandWayWrong : ChangeSpec := { name := "fnExactHandWay", fn := fun _ => fun
  | [d1, d2] => { results := [.lit (.bool false)], args := [d1, d2] }
  | _ => none }
def FnExactHandWayWrongFalsely : Prop := fnExactHandWayRow.holds Try.pinned (OpenSpec.ofChange fnExactHandWayWrong)

/-- 'laws.FnExactSwapBoxes': WHATEVER THE INPUT: true; the input reads as it did. -/
def fnExactSwapBoxesSpec : ChangeSpec := { name := "fnExactSwapBoxes", fn := fun _ => fun
  | [d1, d2, d3] => { results := [.lit (.bool true)], args := [d1, d2, d3] }
  | _ => none }
def fnExactSwapBoxesRow : OpenClaim := { program := "ytllafkeheppkjaa", sum := "8dfe55f53debcea245994efa7c330d76da83c9345453fb48c1816c946b656f0d", func := "loop.example/g01054/laws.FnExactSwapBoxes", spec := "fnExactSwapBoxes", apart := false }
def FnExactSwapBoxesSaid : Prop := fnExactSwapBoxesRow.holds Try.pinned (OpenSpec.ofChange fnExactSwapBoxesSpec)

/-- ITS FALSE NEIGHBOUR: 'it returns false'. Refute it at one input. -/
def fnExactSwapBoxesWrong : ChangeSpec := { name := "fnExactSwapBoxes", fn := fun _ => fun
  | [d1, d2, d3] => { results := [.lit (.bool false)], args := [d1, d2, d3] }
  | _ => none }
def FnExactSwapBoxesWrongFalsely : Prop := fnExactSwapBoxesRow.holds Try.pinned (OpenSpec.ofChange fnExactSwapBoxesWrong)

/-- 'laws.FnExactBestSwap': WHATEVER THE INPUT: true; the input reads as it did. -/
def fnExactBestSwapSpec : ChangeSpec := { name := "fnExactBestSwap", fn := fun _ => fun
  | [d1, d2] => { results := [.lit (.bool true)], args := [d1, d2] }
  | _ => none }
def fnExactBestSwapRow : OpenClaim := { program := "ytllafkeheppkjaa", sum := "8dfe55f53debcea245994efa7c330d76da83c9345453fb48c1816c946b656f0d", func := "loop.example/g01054/laws.FnExactBestSwap", spec := "fnExactBestSwap", inPlace := ["internal/bytealg.abigen_runtime_cmpstring"], unfollowed := true, recurses := true, apart := false }
def FnExactBestSwapSaid : Prop := fnExactBestSwapRow.holds Try.pinned (OpenSpec.ofChange fnExactBestSwapSpec)

/-- ITS FALSE NEIGHBOUR: 'it returns false'. Refute it at one input. -/
def fnExactBestSwapWrong : ChangeSpec := { name := "fnExactBestSwap", fn := fun _ => fun
  | [d1, d2] => { results := [.lit (.bool false)], args := [d1, d2] }
  | _ => none }
def FnExactBestSwapWrongFalsely : Prop := fnExactBestSwapRow.holds Try.pinned (OpenSpec.ofChange fnExactBestSwapWrong)

/-- 'laws.FnExactNearestFree': WHATEVER THE INPUT: true; the input reads as it did. -/
def fnExactNearestFreeSpec : ChangeSpec := { name := "fnExactNearestFree", fn := fun _ => fun
  | [d1, d2, d3] => { results := [.lit (.bool true)], args := [d1, d2, d3] }
  | _ => none }
def fnExactNearestFreeRow : OpenClaim := { program := "ytllafkeheppkjaa", sum := "8dfe55f53debcea245994efa7c330d76da83c9345453fb48c1816c946b656f0d", func := "loop.example/g01054/laws.FnExactNearestFree", spec := "fnExactNearestFree", apart := false }
def FnExactNearestFreeSaid : Prop := fnExactNearestFreeRow.holds Try.pinned (OpenSpec.ofChange fnExactNearestFreeSpec)

/-- ITS FALSE NEIGHBOUR: 'it returns false'. Refute it at one input. -/
def fnExactNearestFreeWrong : ChangeSpec := { name := "fnExactNearestFree", fn := fun _ => fun
  | [d1, d2, d3] => { results := [.lit (.bool false)], args := [d1, d2, d3] }
  | _ => none }
def FnExactNearestFreeWrongFalsely : Prop := fnExactNearestFreeRow.holds Try.pinned (OpenSpec.ofChange fnExactNearestFreeWrong)

/-- 'laws.FnExactTakeTypes': WHATEVER THE INPUT: true; the input reads as it did. -/
def fnExactTakeTypesSpec : ChangeSpec := { name := "fnExactTakeTypes", fn := fun _ => fun
  | [d1, d2] => { results := [.lit (.bool true)], args := [d1, d2] }
  | _ => none }
def fnExactTakeTypesRow : OpenClaim := { program := "ytllafkeheppkjaa", sum := "8dfe55f53debcea245994efa7c330d76da83c9345453fb48c1816c946b656f0d", func := "loop.example/g01054/laws.FnExactTakeTypes", spec := "fnExactTakeTypes", inPlace := ["internal/bytealg.abigen_runtime_cmpstring"], unfollowed := true, recurses := true, apart := false }
def FnExactTakeTypesSaid : Prop := fnExactTakeTypesRow.holds Try.pinned (OpenSpec.ofChange fnExactTakeTypesSpec)

/-- ITS FALSE NEIGHBOUR: 'it returns false'. Refute it at one input. -/
def fnExactTakeTypesWrong : ChangeSpec := { name := "fnExactTakeTypes", fn := fun _ => fun
  | [d1, d2] => { results := [.lit (.bool false)], args := [d1, d2] }
  | _ => none }
def FnExactTakeTypesWrongFalsely : Prop := fnExactTakeTypesRow.holds Try.pinned (OpenSpec.ofChange fnExactTakeTypesWrong)

/-- 'laws.FnExactPutTypes': WHATEVER THE INPUT: true; the input reads as it did. -/
def fnExactPutTypesSpec : ChangeSpec := { name := "fnExactPutTypes", fn := fun _ => fun
  | [d1, d2] => { results := [.lit (.bool true)], args := [d1, d2] }
  | _ => none }
def fnExactPutTypesRow : OpenClaim := { program := "ytllafkeheppkjaa", sum := "8dfe55f53debcea245994efa7c330d76da83c9345453fb48c1816c946b656f0d", func := "loop.example/g01054/laws.FnExactPutTypes", spec := "fnExactPutTypes", inPlace := ["internal/bytealg.abigen_runtime_cmpstring"], unfollowed := true, recurses := true, apart := false }
def FnExactPutTypesSaid : Prop := fnExactPutTypesRow.holds Try.pinned (OpenSpec.ofChange fnExactPutTypesSpec)

/-- ITS FALSE NEIGHBOUR: 'it returns false'. Refute it at one input. -/
def fnExactPutTypesWrong : ChangeSpec := { name := "fnExactPutTypes", fn := fun _ => fun
  | [d1, d2] => { results := [.lit (.bool false)], args := [d1, d2] }
  | _ => none }
def FnExactPutTypesWrongFalsely : Prop := fnExactPutTypesRow.holds Try.pinned (OpenSpec.ofChange fnExactPutTypesWrong)

/-- 'laws.FnExactTypesIn': WHATEVER THE INPUT: true; the input reads as it did. -/
def fnExactTypesInSpec : ChangeSpec := { name := "fnExactTypesIn", fn := fun _ => fun
  | [d] => { results := [.lit (.bool true)], args := [d] }
  | _ => none }
def fnExactTypesInRow : OpenClaim := { program := "ytllafkeheppkjaa", sum := "8dfe55f53debcea245994efa7c330d76da83c9345453fb48c1816c946b656f0d", func := "loop.example/g01054/laws.FnExactTypesIn", spec := "fnExactTypesIn", apart := false }
def FnExactTypesInSaid : Prop := fnExactTypesInRow.holds Try.pinned (OpenSpec.ofChange fnExactTypesInSpec)

/-- ITS FALSE NEIGHBOUR: 'it returns false'. Refute it at one input. -/
def fnExactTypesInWrong : ChangeSpec := { name := "fnExactTypesIn", fn := fun _ => fun
  | [d] => { results := [.lit (.bool false)], args := [d] }
  | _ => none }
def FnExactTypesInWrongFalsely : Prop := fnExactTypesInRow.holds Try.pinned (OpenSpec.ofChange fnExactTypesInWrong)

/-- 'laws.FnHandWays': WHATEVER THE INPUT: true; the input reads as it did. -/
def fnHandWaysSpec : ChangeSpec := { name := "fnHandWays", fn := fun _ => fun
  | [d1, d2] => { results := [.lit (.bool true)], args := [d1, d2] }
  | _ => none }
def fnHandWaysRow : OpenClaim := { program := "ytllafkeheppkjaa", sum := "8dfe55f53debcea245994efa7c330d76da83c9345453fb48c1816c946b656f0d", func := "loop.example/g01054/laws.FnHandWays", spec := "fnHandWays", inPlace := ["internal/bytealg.abigen_runtime_cmpstring"], unfollowed := true, recurses := true, apart := false }
def FnHandWaysSaid : Prop := fnHandWaysRow.holds Try.pinned (OpenSpec.ofChange fnHandWaysSpec)

/-- ITS FALSE NEIGHBOUR: 'it returns false'. Refute it at one input. -/
def fnHandWaysWrong : ChangeSpec := { name := "fnHandWays", fn := fun _ => fun
  | [d1, d2] => { results := [.lit (.bool false)], args := [d1, d2] }
  | _ => none }
def FnHandWaysWrongFalsely : Prop := fnHandWaysRow.holds Try.pinned (OpenSpec.ofChange fnHandWaysWrong)

/-- 'laws.FnExactDivideByWeights': WHATEVER THE INPUT: true; the input reads as it did. -/
def fnExactDivideByWeightsSpec : ChangeSpec := { name := "fnExactDivideByWeights", fn := fun _ => fun
  | [d1, d2] => { results := [.lit (.bool true)], args := [d1, d2] }
  | _ => none }
def fnExactDivideByWeightsRow : OpenClaim := { program := "ytllafkeheppkjaa", sum := "8dfe55f53debcea245994efa7c330d76da83c9345453fb48c1816c946b656f0d", func := "loop.example/g01054/laws.FnExactDivideByWeights", spec := "fnExactDivideByWeights", unfollowed := true, recurses := true, apart := false }
def FnExactDivideByWeightsSaid : Prop := fnExactDivideByWeightsRow.holds Try.pinned (OpenSpec.ofChange fnExactDivideByWeightsSpec)

/-- ITS FALSE NEIGHBOUR: 'it returns false'. Refute it at one input. -/
def fnExactDivideByWeightsWrong : ChangeSpec := { name := "fnExactDivideByWeights", fn := fun _ => fun
  | [d1, d2] => { results := [.lit (.bool false)], args := [d1, d2] }
  | _ => none }
def FnExactDivideByWeightsWrongFalsely : Prop := fnExactDivideByWeightsRow.holds Try.pinned (OpenSpec.ofChange fnExactDivideByWeightsWrong)

/- THE SECOND FORM. 'bulk': how many values and letters a reading holds, each counted each time it is reached (what is shared counts as often as it is met; a slice's spare places count too). A statement '..UptoSaid' is the law's where the arguments, and the package variables that the reading takes, are together of bulk at most 1048576: NARROWER than '..Said'. Prove '..Said' where nothing that the law and all that it calls make is longer than what came in: it says more and counts as full. Else prove '..UptoSaid'. A law counts once. -/
mutual
def uptoBulk {H : Type} : DataW H → Nat
  | .lit (.string bytes) => bytes.length + 1
  | .lit _ => 1
  | .nil => 1
  | .ptr d => uptoBulk d + 1
  | .slice elems spare => uptoBulkAll elems + uptoBulkAll spare + 1
  | .agg parts => uptoBulkAll parts + 1
  | .iface _ d => uptoBulk d + 1
  | .map entries => uptoBulkEntries entries + 1
  | .held _ => 1
def uptoBulkAll {H : Type} : List (DataW H) → Nat
  | [] => 0
  | d :: r => uptoBulk d + uptoBulkAll r
def uptoBulkEntries {H : Type} : List (Lit × DataW H) → Nat
  | [] => 0
  | x :: r => uptoBulkEntry x + uptoBulkEntries r
def uptoBulkEntry {H : Type} : Lit × DataW H → Nat
  | (.string bytes, d) => bytes.length + uptoBulk d + 1
  | (_, d) => uptoBulk d + 1
 end
def uptoSmall : (H : Type) → List (DataW H) → Bool := fun _ ds => decide (uptoBulkAll ds ≤ 1048576)
def OpenSpec.upto (s : _root_.Go.ChangeSpec) : _root_.Go.OpenSpec := { _root_.Go.OpenSpec.ofChange s with cond := some uptoSmall }

/-- 'laws.FnExactIsBox', WHERE WHAT IT READS IS OF BULK AT MOST 1048576: true; the input reads as it did. -/
def fnExactIsBoxUptoRow : OpenClaim := { program := "ytllafkeheppkjaa", sum := "8dfe55f53debcea245994efa7c330d76da83c9345453fb48c1816c946b656f0d", func := "loop.example/g01054/laws.FnExactIsBox", spec := "fnExactIsBox", apart := false, narrowed := true }
def FnExactIsBoxUptoSaid : Prop := fnExactIsBoxUptoRow.holds Try.pinned (OpenSpec.upto fnExactIsBoxSpec)

/-- 'laws.FnExactIsCase', WHERE WHAT IT READS IS OF BULK AT MOST 1048576: true; the input reads as it did. -/
def fnExactIsCaseUptoRow : OpenClaim := { program := "ytllafkeheppkjaa", sum := "8dfe55f53debcea245994efa7c330d76da83c9345453fb48c1816c946b656f0d", func := "loop.example/g01054/laws.FnExactIsCase", spec := "fnExactIsCase", apart := false, narrowed := true }
def FnExactIsCaseUptoSaid : Prop := fnExactIsCaseUptoRow.holds Try.pinned (OpenSpec.upto fnExactIsCaseSpec)

/-- 'laws.FnExactBoxOf', WHERE WHAT IT READS IS OF BULK AT MOST 1048576: true; the input reads as it did. -/
def fnExactBoxOfUptoRow : OpenClaim := { program := "ytllafkeheppkjaa", sum := "8dfe55f53debcea245994efa7c330d76da83c9345453fb48c1816c946b656f0d", func := "loop.example/g01054/laws.FnExactBoxOf", spec := "fnExactBoxOf", inPlace := ["internal/bytealg.abigen_runtime_cmpstring"], unfollowed := true, recurses := true, apart := false, narrowed := true }
def FnExactBoxOfUptoSaid : Prop := fnExactBoxOfUptoRow.holds Try.pinned (OpenSpec.upto fnExactBoxOfSpec)

/-- 'laws.FnExactHandWay', WHERE WHAT IT READS IS OF BULK AT MOST 1048576: true; the input reads as it did. -/
def fnExactHandWayUptoRow : OpenClaim := { program := "ytllafkeheppkjaa", sum := "8dfe55f53debcea245994efa7c330d76da83c9345453fb48c1816c946b656f0d", func := "loop.example/g01054/laws.FnExactHandWay", spec := "fnExactHandWay", inPlace := ["internal/bytealg.abigen_runtime_cmpstring"], unfollowed := true, recurses := true, apart := false, narrowed := true }
def FnExactHandWayUptoSaid : Prop := fnExactHandWayUptoRow.holds Try.pinned (OpenSpec.upto fnExactHandWaySpec)

/-- 'laws.FnExactSwapBoxes', WHERE WHAT IT READS IS OF BULK AT MOST 1048576: true; the input reads as it did. -/
def fnExactSwapBoxesUptoRow : OpenClaim := { program := "ytllafkeheppkjaa", sum := "8dfe55f53debcea245994efa7c330d76da83c9345453fb48c1816c946b656f0d", func := "loop.example/g01054/laws.FnExactSwapBoxes", spec := "fnExactSwapBoxes", apart := false, narrowed := true }
def FnExactSwapBoxesUptoSaid : Prop := fnExactSwapBoxesUptoRow.holds Try.pinned (OpenSpec.upto fnExactSwapBoxesSpec)

/-- 'laws.FnExactBestSwap', WHERE WHAT IT READS IS OF BULK AT MOST 1048576: true; the input reads as it did. -/
def fnExactBestSwapUptoRow : OpenClaim := { program := "ytllafkeheppkjaa", sum := "8dfe55f53debcea245994efa7c330d76da83c9345453fb48c1816c946b656f0d", func := "loop.example/g01054/laws.FnExactBestSwap", spec := "fnExactBestSwap", inPlace := ["internal/bytealg.abigen_runtime_cmpstring"], unfollowed := true, recurses := true, apart := false, narrowed := true }
def FnExactBestSwapUptoSaid : Prop := fnExactBestSwapUptoRow.holds Try.pinned (OpenSpec.upto fnExactBestSwapSpec)

/-- 'laws.FnExactNearestFree', WHERE WHAT IT READS IS OF BULK AT MOST 1048576: true; the input reads as it did. -/
def fnExactNearestFreeUptoRow : OpenClaim := { program := "ytllafkeheppkjaa", sum := "8dfe55f53debcea245994efa7c330d76da83c9345453fb48c1816c946b656f0d", func := "loop.example/g01054/laws.FnExactNearestFree", spec := "fnExactNearestFree", apart := false, narrowed := true }
def FnExactNearestFreeUptoSaid : Prop := fnExactNearestFreeUptoRow.holds Try.pinned (OpenSpec.upto fnExactNearestFreeSpec)

/-- 'laws.FnExactTakeTypes', WHERE WHAT IT READS IS OF BULK AT MOST 1048576: true; the input reads as it did. -/
def fnExactTakeTypesUptoRow : OpenClaim := { program := "ytllafkeheppkjaa", sum := "8dfe55f53debcea245994efa7c330d76da83c9345453fb48c1816c946b656f0d", func := "loop.example/g01054/laws.FnExactTakeTypes", spec := "fnExactTakeTypes", inPlace := ["internal/bytealg.abigen_runtime_cmpstring"], unfollowed := true, recurses := true, apart := false, narrowed := true }
def FnExactTakeTypesUptoSaid : Prop := fnExactTakeTypesUptoRow.holds Try.pinned (OpenSpec.upto fnExactTakeTypesSpec)

/-- 'laws.FnExactPutTypes', WHERE WHAT IT READS IS OF BULK AT MOST 1048576: true; the input reads as it did. -/
def fnExactPutTypesUptoRow : OpenClaim := { program := "ytllafkeheppkjaa", sum := "8dfe55f53debcea245994efa7c330d76da83c9345453fb48c1816c946b656f0d", func := "loop.example/g01054/laws.FnExactPutTypes", spec := "fnExactPutTypes", inPlace := ["internal/bytealg.abigen_runtime_cmpstring"], unfollowed := true, recurses := true, apart := false, narrowed := true }
def FnExactPutTypesUptoSaid : Prop := fnExactPutTypesUptoRow.holds Try.pinned (OpenSpec.upto fnExactPutTypesSpec)

/-- 'laws.FnExactTypesIn', WHERE WHAT IT READS IS OF BULK AT MOST 1048576: true; the input reads as it did. -/
def fnExactTypesInUptoRow : OpenClaim := { program := "ytllafkeheppkjaa", sum := "8dfe55f53debcea245994efa7c330d76da83c9345453fb48c1816c946b656f0d", func := "loop.example/g01054/laws.FnExactTypesIn", spec := "fnExactTypesIn", apart := false, narrowed := true }
def FnExactTypesInUptoSaid : Prop := fnExactTypesInUptoRow.holds Try.pinned (OpenSpec.upto fnExactTypesInSpec)

/-- 'laws.FnHandWays', WHERE WHAT IT READS IS OF BULK AT MOST 1048576: true; the input reads as it did. -/
def fnHandWaysUptoRow : OpenClaim := { program := "ytllafkeheppkjaa", sum := "8dfe55f53debcea245994efa7c330d76da83c9345453fb48c1816c946b656f0d", func := "loop.example/g01054/laws.FnHandWays", spec := "fnHandWays", inPlace := ["internal/bytealg.abigen_runtime_cmpstring"], unfollowed := true, recurses := true, apart := false, narrowed := true }
def FnHandWaysUptoSaid : Prop := fnHandWaysUptoRow.holds Try.pinned (OpenSpec.upto fnHandWaysSpec)

/-- 'laws.FnExactDivideByWeights', WHERE WHAT IT READS IS OF BULK AT MOST 1048576: true; the input reads as it did. -/
def fnExactDivideByWeightsUptoRow : OpenClaim := { program := "ytllafkeheppkjaa", sum := "8dfe55f53debcea245994efa7c330d76da83c9345453fb48c1816c946b656f0d", func := "loop.example/g01054/laws.FnExactDivideByWeights", spec := "fnExactDivideByWeights", unfollowed := true, recurses := true, apart := false, narrowed := true }
def FnExactDivideByWeightsUptoSaid : Prop := fnExactDivideByWeightsUptoRow.holds Try.pinned (OpenSpec.upto fnExactDivideByWeightsSpec)

end Rows
end Go.Proofs.Ytllafkeheppkjaa
