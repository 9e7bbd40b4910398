/-
  No cell of these rows narrows 'for every input' (looked for: loops, veiled, ifaces, maps, wideKeys, modest, calm, conditions, laid).
  DERIVED. THE GIVEN ROWS OF THIS SEAT. 9 by the template 'for every input the law returns true; each argument reads behind the call as it read before'; 0 by the template 'total and deterministic' (their statements: YtoaljhkfnnmdiaaTotals.lean).
  GIVEN WITH THE SEED: the statements are not yours to turn. If you find one false, say at which input.
  Laid BY PROGRAM, IN A SANDBOX (cutbox-rows.mjs): the forced cells as the released guide's own fill.sh prints them over the translation 0ec2bef55e1990cd… (all of the seat's roots in one cut). By AI agents, Wed Nov 11 2026. No macro, syntax, notation, axiom, sorry.
-/
import Derived.Test.YtoaljhkfnnmdiaaChecked
import GoSem.Claim
import GoSem.ClaimJoined
import GoSem.ClaimMapViews
import Derived.JoinedTies
import Derived.KernelRfl
namespace Go.Proofs.Ytoaljhkfnnmdiaa
/- THE CELL 'sum', in the pinned program and in every row, IS THE sha256 OF THE DUMP (.gsa) THAT YtoaljhkfnnmdiaaProg.lean LOADS. Nothing in Lean hashes anything: it is a label: what it is worth is what the hold of that sum in a sandbox is worth. -/
noncomputable def Try.pinned : Pinned := { name := "ytoaljhkfnnmdiaa", sum := "0ec2bef55e1990cdade74b6bf24789f2c1e7a2251ac37484bc5fbeffb0e132e9", checked := Try.checked }
namespace Rows
def none {H : Type} : Left H := { results := [], args := [] }

/-- 'laws.FnSpaces': WHATEVER THE INPUT: true; the input reads as it did. -/
def fnSpacesSpec : ChangeSpec := { name := "fnSpaces", fn := fun _ => fun
  | [d1, d2] => { results := [.lit (.bool true)], args := [d1, d2] }
  | _ => none }
def fnSpacesRow : OpenClaim := { program := "ytoaljhkfnnmdiaa", sum := "0ec2bef55e1990cdade74b6bf24789f2c1e7a2251ac37484bc5fbeffb0e132e9", func := "loop.example/g01054/laws.FnSpaces", spec := "fnSpaces", unfollowed := true, recurses := true, apart := false }
def FnSpacesSaid : Prop := fnSpacesRow.holds Try.pinned (OpenSpec.ofChange fnSpacesSpec)

/-- ITS FALSE NEIGHBOUR: 'it returns false'. Refute it at one input. -/
def fnSpacesWrong : ChangeSpec := { name := "fnSpaces", fn := fun _ => fun
  | [d1, d2] => { results := [.lit (.bool false)], args := [d1, d2] }
  | _ => none }
def FnSpacesWrongFalsely : Prop := fnSpacesRow.holds Try.pinned (OpenSpec.ofChange fnSpacesWrong)

/-- 'laws.FnExactAreSpaces': WHATEVER THE INPUT: true; the input reads as it did. -/
def fnExactAreSpacesSpec : ChangeSpec := { name := "fnExactAreSpaces", fn := fun _ => fun
  | [d] => { results := [.lit (.bool true)], args := [d] }
  | _ => none }
def fnExactAreSpacesRow : OpenClaim := { program := "ytoaljhkfnnmdiaa", sum := "0ec2bef55e1990cdade74b6bf24789f2c1e7a2251ac37484bc5fbeffb0e132e9", func := "loop.example/g01054/laws.FnExactAreSpaces", spec := "fnExactAreSpaces", apart := false }
def FnExactAreSpacesSaid : Prop := fnExactAreSpacesRow.holds Try.pinned (OpenSpec.ofChange fnExactAreSpacesSpec)

/-- ITS FALSE NEIGHBOUR: 'it returns false'. Refute it at one input. -/
def fnExactAreSpacesWrong : ChangeSpec := { name := "fnExactAreSpaces", fn := fun _ => fun
  | [d] => { results := [.lit (.bool false)], args := [d] }
  | _ => none }
def FnExactAreSpacesWrongFalsely : Prop := fnExactAreSpacesRow.holds Try.pinned (OpenSpec.ofChange fnExactAreSpacesWrong)

/-- 'laws.FnExactCanFill': WHATEVER THE INPUT: true; the input reads as it did. -/
def fnExactCanFillSpec : ChangeSpec := { name := "fnExactCanFill", fn := fun _ => fun
  | [d1, d2] => { results := [.lit (.bool true)], args := [d1, d2] }
  | _ => none }
def fnExactCanFillRow : OpenClaim := { program := "ytoaljhkfnnmdiaa", sum := "0ec2bef55e1990cdade74b6bf24789f2c1e7a2251ac37484bc5fbeffb0e132e9", func := "loop.example/g01054/laws.FnExactCanFill", spec := "fnExactCanFill", unfollowed := true, recurses := true, apart := false }
def FnExactCanFillSaid : Prop := fnExactCanFillRow.holds Try.pinned (OpenSpec.ofChange fnExactCanFillSpec)

/-- ITS FALSE NEIGHBOUR: 'it returns false'. Refute it at one input. -/
def fnExactCanFillWrong : ChangeSpec := { name := "fnExactCanFill", fn := fun _ => fun
  | [d1, d2] => { results := [.lit (.bool false)], args := [d1, d2] }
  | _ => none }
def FnExactCanFillWrongFalsely : Prop := fnExactCanFillRow.holds Try.pinned (OpenSpec.ofChange fnExactCanFillWrong)

/-- 'laws.FnExactFewestSpaces': WHATEVER THE INPUT: true; the input reads as it did. -/
def fnExactFewestSpacesSpec : ChangeSpec := { name := "fnExactFewestSpaces", fn := fun _ => fun
  | [d1, d2] => { results := [.lit (.bool true)], args := [d1, d2] }
  | _ => none }
def fnExactFewestSpacesRow : OpenClaim := { program := "ytoaljhkfnnmdiaa", sum := "0ec2bef55e1990cdade74b6bf24789f2c1e7a2251ac37484bc5fbeffb0e132e9", func := "loop.example/g01054/laws.FnExactFewestSpaces", spec := "fnExactFewestSpaces", unfollowed := true, recurses := true, apart := false }
def FnExactFewestSpacesSaid : Prop := fnExactFewestSpacesRow.holds Try.pinned (OpenSpec.ofChange fnExactFewestSpacesSpec)

/-- ITS FALSE NEIGHBOUR: 'it returns false'. Refute it at one input. -/
def fnExactFewestSpacesWrong : ChangeSpec := { name := "fnExactFewestSpaces", fn := fun _ => fun
  | [d1, d2] => { results := [.lit (.bool false)], args := [d1, d2] }
  | _ => none }
def FnExactFewestSpacesWrongFalsely : Prop := fnExactFewestSpacesRow.holds Try.pinned (OpenSpec.ofChange fnExactFewestSpacesWrong)

/-- 'laws.FnExactMissingSums': WHATEVER THE INPUT: true; the input reads as it did. -/
def fnExactMissingSumsSpec : ChangeSpec := { name := "fnExactMissingSums", fn := fun _ => fun
  | [d1, d2] => { results := [.lit (.bool true)], args := [d1, d2] }
  | _ => none }
def fnExactMissingSumsRow : OpenClaim := { program := "ytoaljhkfnnmdiaa", sum := "0ec2bef55e1990cdade74b6bf24789f2c1e7a2251ac37484bc5fbeffb0e132e9", func := "loop.example/g01054/laws.FnExactMissingSums", spec := "fnExactMissingSums", unfollowed := true, recurses := true, apart := false }
def FnExactMissingSumsSaid : Prop := fnExactMissingSumsRow.holds Try.pinned (OpenSpec.ofChange fnExactMissingSumsSpec)

/-- ITS FALSE NEIGHBOUR: 'it returns false'. Refute it at one input. -/
def fnExactMissingSumsWrong : ChangeSpec := { name := "fnExactMissingSums", fn := fun _ => fun
  | [d1, d2] => { results := [.lit (.bool false)], args := [d1, d2] }
  | _ => none }
def FnExactMissingSumsWrongFalsely : Prop := fnExactMissingSumsRow.holds Try.pinned (OpenSpec.ofChange fnExactMissingSumsWrong)

/-- 'laws.FnExactWaysToFill': WHATEVER THE INPUT: true; the input reads as it did. -/
def fnExactWaysToFillSpec : ChangeSpec := { name := "fnExactWaysToFill", fn := fun _ => fun
  | [d1, d2] => { results := [.lit (.bool true)], args := [d1, d2] }
  | _ => none }
def fnExactWaysToFillRow : OpenClaim := { program := "ytoaljhkfnnmdiaa", sum := "0ec2bef55e1990cdade74b6bf24789f2c1e7a2251ac37484bc5fbeffb0e132e9", func := "loop.example/g01054/laws.FnExactWaysToFill", spec := "fnExactWaysToFill", apart := false }
def FnExactWaysToFillSaid : Prop := fnExactWaysToFillRow.holds Try.pinned (OpenSpec.ofChange fnExactWaysToFillSpec)

/-- ITS FALSE NEIGHBOUR: 'it returns false'. Refute it at one input. -/
def fnExactWaysToFillWrong : ChangeSpec := { name := "fnExactWaysToFill", fn := fun _ => fun
  | [d1, d2] => { results := [.lit (.bool false)], args := [d1, d2] }
  | _ => none }
def FnExactWaysToFillWrongFalsely : Prop := fnExactWaysToFillRow.holds Try.pinned (OpenSpec.ofChange fnExactWaysToFillWrong)

/-- 'laws.FnExactNearestFill': WHATEVER THE INPUT: true; the input reads as it did. -/
def fnExactNearestFillSpec : ChangeSpec := { name := "fnExactNearestFill", fn := fun _ => fun
  | [d1, d2] => { results := [.lit (.bool true)], args := [d1, d2] }
  | _ => none }
def fnExactNearestFillRow : OpenClaim := { program := "ytoaljhkfnnmdiaa", sum := "0ec2bef55e1990cdade74b6bf24789f2c1e7a2251ac37484bc5fbeffb0e132e9", func := "loop.example/g01054/laws.FnExactNearestFill", spec := "fnExactNearestFill", unfollowed := true, recurses := true, apart := false }
def FnExactNearestFillSaid : Prop := fnExactNearestFillRow.holds Try.pinned (OpenSpec.ofChange fnExactNearestFillSpec)

/-- ITS FALSE NEIGHBOUR: 'it returns false'. Refute it at one input. -/
def fnExactNearestFillWrong : ChangeSpec := { name := "fnExactNearestFill", fn := fun _ => fun
  | [d1, d2] => { results := [.lit (.bool false)], args := [d1, d2] }
  | _ => none }
def FnExactNearestFillWrongFalsely : Prop := fnExactNearestFillRow.holds Try.pinned (OpenSpec.ofChange fnExactNearestFillWrong)

/-- 'laws.FnExactFillFromStock': WHATEVER THE INPUT: true; the input reads as it did. -/
def fnExactFillFromStockSpec : ChangeSpec := { name := "fnExactFillFromStock", fn := fun _ => fun
  | [d1, d2, d3] => { results := [.lit (.bool true)], args := [d1, d2, d3] }
  | _ => none }
def fnExactFillFromStockRow : OpenClaim := { program := "ytoaljhkfnnmdiaa", sum := "0ec2bef55e1990cdade74b6bf24789f2c1e7a2251ac37484bc5fbeffb0e132e9", func := "loop.example/g01054/laws.FnExactFillFromStock", spec := "fnExactFillFromStock", unfollowed := true, recurses := true, apart := false }
def FnExactFillFromStockSaid : Prop := fnExactFillFromStockRow.holds Try.pinned (OpenSpec.ofChange fnExactFillFromStockSpec)

/-- ITS FALSE NEIGHBOUR: 'it returns false'. Refute it at one input. -/
def fnExactFillFromStockWrong : ChangeSpec := { name := "fnExactFillFromStock", fn := fun _ => fun
  | [d1, d2, d3] => { results := [.lit (.bool false)], args := [d1, d2, d3] }
  | _ => none }
def FnExactFillFromStockWrongFalsely : Prop := fnExactFillFromStockRow.holds Try.pinned (OpenSpec.ofChange fnExactFillFromStockWrong)

/-- 'laws.FnExactThinnestNeeded': WHATEVER THE INPUT: true; the input reads as it did. -/
def fnExactThinnestNeededSpec : ChangeSpec := { name := "fnExactThinnestNeeded", fn := fun _ => fun
  | [d1, d2] => { results := [.lit (.bool true)], args := [d1, d2] }
  | _ => none }
def fnExactThinnestNeededRow : OpenClaim := { program := "ytoaljhkfnnmdiaa", sum := "0ec2bef55e1990cdade74b6bf24789f2c1e7a2251ac37484bc5fbeffb0e132e9", func := "loop.example/g01054/laws.FnExactThinnestNeeded", spec := "fnExactThinnestNeeded", unfollowed := true, recurses := true, apart := false }
def FnExactThinnestNeededSaid : Prop := fnExactThinnestNeededRow.holds Try.pinned (OpenSpec.ofChange fnExactThinnestNeededSpec)

/-- ITS FALSE NEIGHBOUR: 'it returns false'. Refute it at one input. -/
def fnExactThinnestNeededWrong : ChangeSpec := { name := "fnExactThinnestNeeded", fn := fun _ => fun
  | [d1, d2] => { results := [.lit (.bool false)], args := [d1, d2] }
  | _ => none }
def FnExactThinnestNeededWrongFalsely : Prop := fnExactThinnestNeededRow.holds Try.pinned (OpenSpec.ofChange fnExactThinnestNeededWrong)

/- THE SECOND FORM. 'bulk': how many values and letters a reading holds, each counted each time it is reached (what is shared counts as often as it is met; a slice's spare places count too). A statement '..UptoSaid' is the law's where the arguments, and the package variables that the reading takes, are together of bulk at most 1048576: NARROWER than '..Said'. Prove '..Said' where nothing that the law and all that it calls make is longer than what came in: it says more and counts as full. Else prove '..UptoSaid'. A law counts once. -/
mutual
def uptoBulk {H : Type} : DataW H → Nat
  | .lit (.string bytes) => bytes.length + 1
  | .lit _ => 1
  | .nil => 1
  | .ptr d => uptoBulk d + 1
  | .slice elems spare => uptoBulkAll elems + uptoBulkAll spare + 1
  | .agg parts => uptoBulkAll parts + 1
  | .iface _ d => uptoBulk d + 1
  | .map entries => uptoBulkEntries entries + 1
  | .held _ => 1
def uptoBulkAll {H : Type} : List (DataW H) → Nat
  | [] => 0
  | d :: r => uptoBulk d + uptoBulkAll r
def uptoBulkEntries {H : Type} : List (Lit × DataW H) → Nat
  | [] => 0
  | x :: r => uptoBulkEntry x + uptoBulkEntries r
def uptoBulkEntry {H : Type} : Lit × DataW H → Nat
  | (.string bytes, d) => bytes.length + uptoBulk d + 1
  | (_, d) => uptoBulk d + 1
 end
def uptoSmall : (H : Type) → List (DataW H) → Bool := fun _ ds => decide (uptoBulkAll ds ≤ 1048576)
def OpenSpec.upto (s : _root_.Go.ChangeSpec) : _root_.Go.OpenSpec := { _root_.Go.OpenSpec.ofChange s with cond := some uptoSmall }

/-- 'laws.FnSpaces', WHERE WHAT IT READS IS OF BULK AT MOST 1048576: true; the input reads as it did. -/
def fnSpacesUptoRow : OpenClaim := { program := "ytoaljhkfnnmdiaa", sum := "0ec2bef55e1990cdade74b6bf24789f2c1e7a2251ac37484bc5fbeffb0e132e9", func := "loop.example/g01054/laws.FnSpaces", spec := "fnSpaces", unfollowed := true, recurses := true, apart := false, narrowed := true }
def FnSpacesUptoSaid : Prop := fnSpacesUptoRow.holds Try.pinned (OpenSpec.upto fnSpacesSpec)

/-- 'laws.FnExactAreSpaces', WHERE WHAT IT READS IS OF BULK AT MOST 1048576: true; the input reads as it did. -/
def fnExactAreSpacesUptoRow : OpenClaim := { program := "ytoaljhkfnnmdiaa", sum := "0ec2bef55e1990cdade74b6bf24789f2c1e7a2251ac37484bc5fbeffb0e132e9", func := "loop.example/g01054/laws.FnExactAreSpaces", spec := "fnExactAreSpaces", apart := false, narrowed := true }
def FnExactAreSpacesUptoSaid : Prop := fnExactAreSpacesUptoRow.holds Try.pinned (OpenSpec.upto fnExactAreSpacesSpec)

/-- 'laws.FnExactCanFill', WHERE WHAT IT READS IS OF BULK AT MOST 1048576: true; the input reads as it did. -/
def fnExactCanFillUptoRow : OpenClaim := { program := "ytoaljhkfnnmdiaa", sum := "0ec2bef55e1990cdade74b6bf24789f2c1e7a2251ac37484bc5fbeffb0e132e9", func := "loop.example/g01054/laws.FnExactCanFill", spec := "fnExactCanFill", unfollowed := true, recurses := true, apart := false, narrowed := true }
def FnExactCanFillUptoSaid : Prop := fnExactCanFillUptoRow.holds Try.pinned (OpenSpec.upto fnExactCanFillSpec)

/-- 'laws.FnExactFewestSpaces', WHERE WHAT IT READS IS OF BULK AT MOST 1048576: true; the input reads as it did. -/
def fnExactFewestSpacesUptoRow : OpenClaim := { program := "ytoaljhkfnnmdiaa", sum := "0ec2bef55e1990cdade74b6bf24789f2c1e7a2251ac37484bc5fbeffb0e132e9", func := "loop.example/g01054/laws.FnExactFewestSpaces", spec := "fnExactFewestSpaces", unfollowed := true, recurses := true, apart := false, narrowed := true }
def FnExactFewestSpacesUptoSaid : Prop := fnExactFewestSpacesUptoRow.holds Try.pinned (OpenSpec.upto fnExactFewestSpacesSpec)

/-- 'laws.FnExactMissingSums', WHERE WHAT IT READS IS OF BULK AT MOST 1048576: true; the input reads as it did. -/
def fnExactMissingSumsUptoRow : OpenClaim := { program := "ytoaljhkfnnmdiaa", sum := "0ec2bef55e1990cdade74b6bf24789f2c1e7a2251ac37484bc5fbeffb0e132e9", func := "loop.example/g01054/laws.FnExactMissingSums", spec := "fnExactMissingSums", unfollowed := true, recurses := true, apart := false, narrowed := true }
def FnExactMissingSumsUptoSaid : Prop := fnExactMissingSumsUptoRow.holds Try.pinned (OpenSpec.upto fnExactMissingSumsSpec)

/-- 'laws.FnExactWaysToFill', WHERE WHAT IT READS IS OF BULK AT MOST 1048576: true; the input reads as it did. -/
def fnExactWaysToFillUptoRow : OpenClaim := { program := "ytoaljhkfnnmdiaa", sum := "0ec2bef55e1990cdade74b6bf24789f2c1e7a2251ac37484bc5fbeffb0e132e9", func := "loop.example/g01054/laws.FnExactWaysToFill", spec := "fnExactWaysToFill", apart := false, narrowed := true }
def FnExactWaysToFillUptoSaid : Prop := fnExactWaysToFillUptoRow.holds Try.pinned (OpenSpec.upto fnExactWaysToFillSpec)

/-- 'laws.FnExactNearestFill', WHERE WHAT IT READS IS OF BULK AT MOST 1048576: true; the input reads as it did. -/
def fnExactNearestFillUptoRow : OpenClaim := { program := "ytoaljhkfnnmdiaa", sum := "0ec2bef55e1990cdade74b6bf24789f2c1e7a2251ac37484bc5fbeffb0e132e9", func := "loop.example/g01054/laws.FnExactNearestFill", spec := "fnExactNearestFill", unfollowed := true, recurses := true, apart := false, narrowed := true }
def FnExactNearestFillUptoSaid : Prop := fnExactNearestFillUptoRow.holds Try.pinned (OpenSpec.upto fnExactNearestFillSpec)

/-- 'laws.FnExactFillFromStock', WHERE WHAT IT READS IS OF BULK AT MOST 1048576: true; the input reads as it did. -/
def fnExactFillFromStockUptoRow : OpenClaim := { program := "ytoaljhkfnnmdiaa", sum := "0ec2bef55e1990cdade74b6bf24789f2c1e7a2251ac37484bc5fbeffb0e132e9", func := "loop.example/g01054/laws.FnExactFillFromStock", spec := "fnExactFillFromStock", unfollowed := true, recurses := true, apart := false, narrowed := true }
def FnExactFillFromStockUptoSaid : Prop := fnExactFillFromStockUptoRow.holds Try.pinned (OpenSpec.upto fnExactFillFromStockSpec)

/-- 'laws.FnExactThinnestNeeded', WHERE WHAT IT READS IS OF BULK AT MOST 1048576: true; the input reads as it did. -/
def fnExactThinnestNeededUptoRow : OpenClaim := { program := "ytoaljhkfnnmdiaa", sum := "0ec2bef55e1990cdade74b6bf24789f2c1e7a2251ac37484bc5fbeffb0e132e9", func := "loop.example/g01054/laws.FnExactThinnestNeeded", spec := "fnExactThinnestNeeded", unfollowed := true, recurses := true, apart := false, narrowed := true }
def FnExactThinnestNeededUptoSaid : Prop := fnExactThinnestNeededUptoRow.holds Try.pinned (OpenSpec.upto fnExactThinnestNeededSpec)

end Rows
end Go.Proofs.Ytoaljhkfnnmdiaa
