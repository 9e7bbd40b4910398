/-
  No cell of these rows narrows 'for every input' (looked for: loops, veiled, ifaces, maps, wideKeys, modest, calm, conditions, laid).
  DERIVED. THE GIVEN ROWS OF THIS SEAT. 9 by the template 'for every input the law returns true; each argument reads behind the call as it read before'; 0 by the template 'total and deterministic' (their statements: YtdomccamkiplcaaTotals.lean).
  GIVEN WITH THE SEED: the statements are not yours to turn. If you find one false, say at which input.
  Laid BY PROGRAM, IN A SANDBOX (cutbox-rows.mjs): the forced cells as the released guide's own fill.sh prints them over the translation acd6181096318c29… (all of the seat's roots in one cut). By AI agents, Wed Nov 11 2026. No macro, syntax, notation, axiom, sorry.
-/
import Derived.Test.YtdomccamkiplcaaChecked
import GoSem.Claim
import GoSem.ClaimJoined
import GoSem.ClaimMapViews
import Derived.JoinedTies
import Derived.KernelRfl
namespace Go.Proofs.Ytdomccamkiplcaa
/- THE CELL 'sum', in the pinned program and in every row, IS THE sha256 OF THE DUMP (.gsa) THAT YtdomccamkiplcaaProg.lean LOADS. Nothing in Lean hashes anything: it is a label: what it is worth is what the hold of that sum in a sandbox is worth. -/
noncomputable def Try.pinned : Pinned := { name := "ytdomccamkiplcaa", sum := "acd6181096318c29870fd69867e0ed6cae200028c1c5c4f65eb277813f6aae1b", checked := Try.checked }
namespace Rows
def none {H : Type} : Left H := { results := [], args := [] }

/-- 'laws.FnBills': WHATEVER THE INPUT: true; the input reads as it did. -/
def fnBillsSpec : ChangeSpec := { name := "fnBills", fn := fun _ => fun
  | [d1, d2] => { results := [.lit (.bool true)], args := [d1, d2] }
  | _ => none }
def fnBillsRow : OpenClaim := { program := "ytdomccamkiplcaa", sum := "acd6181096318c29870fd69867e0ed6cae200028c1c5c4f65eb277813f6aae1b", func := "loop.example/g01054/laws.FnBills", spec := "fnBills", unfollowed := true, recurses := true, apart := false }
def FnBillsSaid : Prop := fnBillsRow.holds Try.pinned (OpenSpec.ofChange fnBillsSpec)

/-- ITS FALSE NEIGHBOUR: 'it returns false'. Refute it at one input. -/
def fnBillsWrong : ChangeSpec := { name := "fnBills", fn := fun _ => fun
  | [d1, d2] => { results := [.lit (.bool false)], args := [d1, d2] }
  | _ => none }
def FnBillsWrongFalsely : Prop := fnBillsRow.holds Try.pinned (OpenSpec.ofChange fnBillsWrong)

/-- 'laws.FnExactCountSorts': WHATEVER THE INPUT: true; the input reads as it did. -/
def fnExactCountSortsSpec : ChangeSpec := { name := "fnExactCountSorts", fn := fun _ => fun
  | [d1, d2] => { results := [.lit (.bool true)], args := [d1, d2] }
  | _ => none }
def fnExactCountSortsRow : OpenClaim := { program := "ytdomccamkiplcaa", sum := "acd6181096318c29870fd69867e0ed6cae200028c1c5c4f65eb277813f6aae1b", func := "loop.example/g01054/laws.FnExactCountSorts", spec := "fnExactCountSorts", apart := false }
def FnExactCountSortsSaid : Prop := fnExactCountSortsRow.holds Try.pinned (OpenSpec.ofChange fnExactCountSortsSpec)

/-- ITS FALSE NEIGHBOUR: 'it returns false'. Refute it at one input. -/
def fnExactCountSortsWrong : ChangeSpec := { name := "fnExactCountSorts", fn := fun _ => fun
  | [d1, d2] => { results := [.lit (.bool false)], args := [d1, d2] }
  | _ => none }
def FnExactCountSortsWrongFalsely : Prop := fnExactCountSortsRow.holds Try.pinned (OpenSpec.ofChange fnExactCountSortsWrong)

/-- 'laws.FnExactIsEnough': WHATEVER THE INPUT: true; the input reads as it did. -/
def fnExactIsEnoughSpec : ChangeSpec := { name := "fnExactIsEnough", fn := fun _ => fun
  | [d1, d2, d3] => { results := [.lit (.bool true)], args := [d1, d2, d3] }
  | _ => none }
def fnExactIsEnoughRow : OpenClaim := { program := "ytdomccamkiplcaa", sum := "acd6181096318c29870fd69867e0ed6cae200028c1c5c4f65eb277813f6aae1b", func := "loop.example/g01054/laws.FnExactIsEnough", spec := "fnExactIsEnough", apart := false }
def FnExactIsEnoughSaid : Prop := fnExactIsEnoughRow.holds Try.pinned (OpenSpec.ofChange fnExactIsEnoughSpec)

/-- ITS FALSE NEIGHBOUR: 'it returns false'. Refute it at one input. -/
def fnExactIsEnoughWrong : ChangeSpec := { name := "fnExactIsEnough", fn := fun _ => fun
  | [d1, d2, d3] => { results := [.lit (.bool false)], args := [d1, d2, d3] }
  | _ => none }
def FnExactIsEnoughWrongFalsely : Prop := fnExactIsEnoughRow.holds Try.pinned (OpenSpec.ofChange fnExactIsEnoughWrong)

/-- 'laws.FnExactFirstRunOut': WHATEVER THE INPUT: true; the input reads as it did. -/
def fnExactFirstRunOutSpec : ChangeSpec := { name := "fnExactFirstRunOut", fn := fun _ => fun
  | [d1, d2, d3] => { results := [.lit (.bool true)], args := [d1, d2, d3] }
  | _ => none }
def fnExactFirstRunOutRow : OpenClaim := { program := "ytdomccamkiplcaa", sum := "acd6181096318c29870fd69867e0ed6cae200028c1c5c4f65eb277813f6aae1b", func := "loop.example/g01054/laws.FnExactFirstRunOut", spec := "fnExactFirstRunOut", apart := false }
def FnExactFirstRunOutSaid : Prop := fnExactFirstRunOutRow.holds Try.pinned (OpenSpec.ofChange fnExactFirstRunOutSpec)

/-- ITS FALSE NEIGHBOUR: 'it returns false'. Refute it at one input. -/
def fnExactFirstRunOutWrong : ChangeSpec := { name := "fnExactFirstRunOut", fn := fun _ => fun
  | [d1, d2, d3] => { results := [.lit (.bool false)], args := [d1, d2, d3] }
  | _ => none }
def FnExactFirstRunOutWrongFalsely : Prop := fnExactFirstRunOutRow.holds Try.pinned (OpenSpec.ofChange fnExactFirstRunOutWrong)

/-- 'laws.FnExactTimesToSet': WHATEVER THE INPUT: true; the input reads as it did. -/
def fnExactTimesToSetSpec : ChangeSpec := { name := "fnExactTimesToSet", fn := fun _ => fun
  | [d1, d2, d3] => { results := [.lit (.bool true)], args := [d1, d2, d3] }
  | _ => none }
def fnExactTimesToSetRow : OpenClaim := { program := "ytdomccamkiplcaa", sum := "acd6181096318c29870fd69867e0ed6cae200028c1c5c4f65eb277813f6aae1b", func := "loop.example/g01054/laws.FnExactTimesToSet", spec := "fnExactTimesToSet", unfollowed := true, recurses := true, apart := false }
def FnExactTimesToSetSaid : Prop := fnExactTimesToSetRow.holds Try.pinned (OpenSpec.ofChange fnExactTimesToSetSpec)

/-- ITS FALSE NEIGHBOUR: 'it returns false'. Refute it at one input. -/
def fnExactTimesToSetWrong : ChangeSpec := { name := "fnExactTimesToSet", fn := fun _ => fun
  | [d1, d2, d3] => { results := [.lit (.bool false)], args := [d1, d2, d3] }
  | _ => none }
def FnExactTimesToSetWrongFalsely : Prop := fnExactTimesToSetRow.holds Try.pinned (OpenSpec.ofChange fnExactTimesToSetWrong)

/-- 'laws.FnExactLeastRecast': WHATEVER THE INPUT: true; the input reads as it did. -/
def fnExactLeastRecastSpec : ChangeSpec := { name := "fnExactLeastRecast", fn := fun _ => fun
  | [d1, d2, d3, d4] => { results := [.lit (.bool true)], args := [d1, d2, d3, d4] }
  | _ => none }
def fnExactLeastRecastRow : OpenClaim := { program := "ytdomccamkiplcaa", sum := "acd6181096318c29870fd69867e0ed6cae200028c1c5c4f65eb277813f6aae1b", func := "loop.example/g01054/laws.FnExactLeastRecast", spec := "fnExactLeastRecast", apart := false }
def FnExactLeastRecastSaid : Prop := fnExactLeastRecastRow.holds Try.pinned (OpenSpec.ofChange fnExactLeastRecastSpec)

/-- ITS FALSE NEIGHBOUR: 'it returns false'. Refute it at one input. -/
def fnExactLeastRecastWrong : ChangeSpec := { name := "fnExactLeastRecast", fn := fun _ => fun
  | [d1, d2, d3, d4] => { results := [.lit (.bool false)], args := [d1, d2, d3, d4] }
  | _ => none }
def FnExactLeastRecastWrongFalsely : Prop := fnExactLeastRecastRow.holds Try.pinned (OpenSpec.ofChange fnExactLeastRecastWrong)

/-- 'laws.FnExactDivideByWeights': WHATEVER THE INPUT: true; the input reads as it did. -/
def fnExactDivideByWeightsSpec : ChangeSpec := { name := "fnExactDivideByWeights", fn := fun _ => fun
  | [d1, d2] => { results := [.lit (.bool true)], args := [d1, d2] }
  | _ => none }
def fnExactDivideByWeightsRow : OpenClaim := { program := "ytdomccamkiplcaa", sum := "acd6181096318c29870fd69867e0ed6cae200028c1c5c4f65eb277813f6aae1b", func := "loop.example/g01054/laws.FnExactDivideByWeights", spec := "fnExactDivideByWeights", unfollowed := true, recurses := true, apart := false }
def FnExactDivideByWeightsSaid : Prop := fnExactDivideByWeightsRow.holds Try.pinned (OpenSpec.ofChange fnExactDivideByWeightsSpec)

/-- ITS FALSE NEIGHBOUR: 'it returns false'. Refute it at one input. -/
def fnExactDivideByWeightsWrong : ChangeSpec := { name := "fnExactDivideByWeights", fn := fun _ => fun
  | [d1, d2] => { results := [.lit (.bool false)], args := [d1, d2] }
  | _ => none }
def FnExactDivideByWeightsWrongFalsely : Prop := fnExactDivideByWeightsRow.holds Try.pinned (OpenSpec.ofChange fnExactDivideByWeightsWrong)

/-- 'laws.FnExactScarcestSort': WHATEVER THE INPUT: true; the input reads as it did. -/
def fnExactScarcestSortSpec : ChangeSpec := { name := "fnExactScarcestSort", fn := fun _ => fun
  | [d1, d2, d3] => { results := [.lit (.bool true)], args := [d1, d2, d3] }
  | _ => none }
def fnExactScarcestSortRow : OpenClaim := { program := "ytdomccamkiplcaa", sum := "acd6181096318c29870fd69867e0ed6cae200028c1c5c4f65eb277813f6aae1b", func := "loop.example/g01054/laws.FnExactScarcestSort", spec := "fnExactScarcestSort", unfollowed := true, recurses := true, apart := false }
def FnExactScarcestSortSaid : Prop := fnExactScarcestSortRow.holds Try.pinned (OpenSpec.ofChange fnExactScarcestSortSpec)

/-- ITS FALSE NEIGHBOUR: 'it returns false'. Refute it at one input. -/
def fnExactScarcestSortWrong : ChangeSpec := { name := "fnExactScarcestSort", fn := fun _ => fun
  | [d1, d2, d3] => { results := [.lit (.bool false)], args := [d1, d2, d3] }
  | _ => none }
def FnExactScarcestSortWrongFalsely : Prop := fnExactScarcestSortRow.holds Try.pinned (OpenSpec.ofChange fnExactScarcestSortWrong)

/-- 'laws.FnExactWeightOfTypes': WHATEVER THE INPUT: true; the input reads as it did. -/
def fnExactWeightOfTypesSpec : ChangeSpec := { name := "fnExactWeightOfTypes", fn := fun _ => fun
  | [d1, d2, d3] => { results := [.lit (.bool true)], args := [d1, d2, d3] }
  | _ => none }
def fnExactWeightOfTypesRow : OpenClaim := { program := "ytdomccamkiplcaa", sum := "acd6181096318c29870fd69867e0ed6cae200028c1c5c4f65eb277813f6aae1b", func := "loop.example/g01054/laws.FnExactWeightOfTypes", spec := "fnExactWeightOfTypes", apart := false }
def FnExactWeightOfTypesSaid : Prop := fnExactWeightOfTypesRow.holds Try.pinned (OpenSpec.ofChange fnExactWeightOfTypesSpec)

/-- ITS FALSE NEIGHBOUR: 'it returns false'. Refute it at one input. -/
def fnExactWeightOfTypesWrong : ChangeSpec := { name := "fnExactWeightOfTypes", fn := fun _ => fun
  | [d1, d2, d3] => { results := [.lit (.bool false)], args := [d1, d2, d3] }
  | _ => none }
def FnExactWeightOfTypesWrongFalsely : Prop := fnExactWeightOfTypesRow.holds Try.pinned (OpenSpec.ofChange fnExactWeightOfTypesWrong)

/- THE SECOND FORM. 'bulk': how many values and letters a reading holds, each counted each time it is reached (what is shared counts as often as it is met; a slice's spare places count too). A statement '..UptoSaid' is the law's where the arguments, and the package variables that the reading takes, are together of bulk at most 1048576: NARROWER than '..Said'. Prove '..Said' where nothing that the law and all that it calls make is longer than what came in: it says more and counts as full. Else prove '..UptoSaid'. A law counts once. -/
mutual
def uptoBulk {H : Type} : DataW H → Nat
  | .lit (.string bytes) => bytes.length + 1
  | .lit _ => 1
  | .nil => 1
  | .ptr d => uptoBulk d + 1
  | .slice elems spare => uptoBulkAll elems + uptoBulkAll spare + 1
  | .agg parts => uptoBulkAll parts + 1
  | .iface _ d => uptoBulk d + 1
  | .map entries => uptoBulkEntries entries + 1
  | .held _ => 1
def uptoBulkAll {H : Type} : List (DataW H) → Nat
  | [] => 0
  | d :: r => uptoBulk d + uptoBulkAll r
def uptoBulkEntries {H : Type} : List (Lit × DataW H) → Nat
  | [] => 0
  | x :: r => uptoBulkEntry x + uptoBulkEntries r
def uptoBulkEntry {H : Type} : Lit × DataW H → Nat
  | (.string bytes, d) => bytes.length + uptoBulk d + 1
  | (_, d) => uptoBulk d + 1
 end
def uptoSmall : (H : Type) → List (DataW H) → Bool := fun _ ds => decide (uptoBulkAll ds ≤ 1048576)
def OpenSpec.upto (s : _root_.Go.ChangeSpec) : _root_.Go.OpenSpec := { _root_.Go.OpenSpec.ofChange s with cond := some uptoSmall }

/-- 'laws.FnBills', WHERE WHAT IT READS IS OF BULK AT MOST 1048576: true; the input reads as it did. -/
def fnBillsUptoRow : OpenClaim := { program := "ytdomccamkiplcaa", sum := "acd6181096318c29870fd69867e0ed6cae200028c1c5c4f65eb277813f6aae1b", func := "loop.example/g01054/laws.FnBills", spec := "fnBills", unfollowed := true, recurses := true, apart := false, narrowed := true }
def FnBillsUptoSaid : Prop := fnBillsUptoRow.holds Try.pinned (OpenSpec.upto fnBillsSpec)

/-- 'laws.FnExactCountSorts', WHERE WHAT IT READS IS OF BULK AT MOST 1048576: true; the input reads as it did. -/
def fnExactCountSortsUptoRow : OpenClaim := { program := "ytdomccamkiplcaa", sum := "acd6181096318c29870fd69867e0ed6cae200028c1c5c4f65eb277813f6aae1b", func := "loop.example/g01054/laws.FnExactCountSorts", spec := "fnExactCountSorts", apart := false, narrowed := true }
def FnExactCountSortsUptoSaid : Prop := fnExactCountSortsUptoRow.holds Try.pinned (OpenSpec.upto fnExactCountSortsSpec)

/-- 'laws.FnExactIsEnough', WHERE WHAT IT READS IS OF BULK AT MOST 1048576: true; the input reads as it did. -/
def fnExactIsEnoughUptoRow : OpenClaim := { program := "ytdomccamkiplcaa", sum := "acd6181096318c29870fd69867e0ed6cae200028c1c5c4f65eb277813f6aae1b", func := "loop.example/g01054/laws.FnExactIsEnough", spec := "fnExactIsEnough", apart := false, narrowed := true }
def FnExactIsEnoughUptoSaid : Prop := fnExactIsEnoughUptoRow.holds Try.pinned (OpenSpec.upto fnExactIsEnoughSpec)

/-- 'laws.FnExactFirstRunOut', WHERE WHAT IT READS IS OF BULK AT MOST 1048576: true; the input reads as it did. -/
def fnExactFirstRunOutUptoRow : OpenClaim := { program := "ytdomccamkiplcaa", sum := "acd6181096318c29870fd69867e0ed6cae200028c1c5c4f65eb277813f6aae1b", func := "loop.example/g01054/laws.FnExactFirstRunOut", spec := "fnExactFirstRunOut", apart := false, narrowed := true }
def FnExactFirstRunOutUptoSaid : Prop := fnExactFirstRunOutUptoRow.holds Try.pinned (OpenSpec.upto fnExactFirstRunOutSpec)

/-- 'laws.FnExactTimesToSet', WHERE WHAT IT READS IS OF BULK AT MOST 1048576: true; the input reads as it did. -/
def fnExactTimesToSetUptoRow : OpenClaim := { program := "ytdomccamkiplcaa", sum := "acd6181096318c29870fd69867e0ed6cae200028c1c5c4f65eb277813f6aae1b", func := "loop.example/g01054/laws.FnExactTimesToSet", spec := "fnExactTimesToSet", unfollowed := true, recurses := true, apart := false, narrowed := true }
def FnExactTimesToSetUptoSaid : Prop := fnExactTimesToSetUptoRow.holds Try.pinned (OpenSpec.upto fnExactTimesToSetSpec)

/-- 'laws.FnExactLeastRecast', WHERE WHAT IT READS IS OF BULK AT MOST 1048576: true; the input reads as it did. -/
def fnExactLeastRecastUptoRow : OpenClaim := { program := "ytdomccamkiplcaa", sum := "acd6181096318c29870fd69867e0ed6cae200028c1c5c4f65eb277813f6aae1b", func := "loop.example/g01054/laws.FnExactLeastRecast", spec := "fnExactLeastRecast", apart := false, narrowed := true }
def FnExactLeastRecastUptoSaid : Prop := fnExactLeastRecastUptoRow.holds Try.pinned (OpenSpec.upto fnExactLeastRecastSpec)

/-- 'laws.FnExactDivideByWeights', WHERE WHAT IT READS IS OF BULK AT MOST 1048576: true; the input reads as it did. -/
def fnExactDivideByWeightsUptoRow : OpenClaim := { program := "ytdomccamkiplcaa", sum := "acd6181096318c29870fd69867e0ed6cae200028c1c5c4f65eb277813f6aae1b", func := "loop.example/g01054/laws.FnExactDivideByWeights", spec := "fnExactDivideByWeights", unfollowed := true, recurses := true, apart := false, narrowed := true }
def FnExactDivideByWeightsUptoSaid : Prop := fnExactDivideByWeightsUptoRow.holds Try.pinned (OpenSpec.upto fnExactDivideByWeightsSpec)

/-- 'laws.FnExactScarcestSort', WHERE WHAT IT READS IS OF BULK AT MOST 1048576: true; the input reads as it did. -/
def fnExactScarcestSortUptoRow : OpenClaim := { program := "ytdomccamkiplcaa", sum := "acd6181096318c29870fd69867e0ed6cae200028c1c5c4f65eb277813f6aae1b", func := "loop.example/g01054/laws.FnExactScarcestSort", spec := "fnExactScarcestSort", unfollowed := true, recurses := true, apart := false, narrowed := true }
def FnExactScarcestSortUptoSaid : Prop := fnExactScarcestSortUptoRow.holds Try.pinned (OpenSpec.upto fnExactScarcestSortSpec)

/-- 'laws.FnExactWeightOfTypes', WHERE WHAT IT READS IS OF BULK AT MOST 1048576: true; the input reads as it did. -/
def fnExactWeightOfTypesUptoRow : OpenClaim := { program := "ytdomccamkiplcaa", sum := "acd6181096318c29870fd69867e0ed6cae200028c1c5c4f65eb277813f6aae1b", func := "loop.example/g01054/laws.FnExactWeightOfTypes", spec := "fnExactWeightOfTypes", apart := false, narrowed := true }
def FnExactWeightOfTypesUptoSaid : Prop := fnExactWeightOfTypesUptoRow.holds Try.pinned (OpenSpec.upto fnExactWeightOfTypesSpec)

end Rows
end Go.Proofs.Ytdomccamkiplcaa
