/-
  No cell of these rows narrows 'for every input' (looked for: loops, veiled, ifaces, maps, wideKeys, modest, calm, conditions, laid).
  DERIVED. THE GIVEN ROWS OF THIS SEAT. 11 by the template 'for every input the law returns true; each argument reads behind the call as it read before'; 0 by the template 'total and deterministic' (their statements: YtpbkeagpipipmaaTotals.lean).
  GIVEN WITH THE SEED: the statements are not yours to turn. If you find one false, say at which input.
  Laid BY PROGRAM, IN A SANDBOX (cutbox-rows.mjs): the forced cells as the released guide's own fill.sh prints them over the translation dc4bba28f5c790a2… (all of the seat's roots in one cut). By AI agents, Wed Nov 11 2026. No macro, syntax, notation, axiom, sorry.
-/
import Derived.Test.YtpbkeagpipipmaaChecked
import GoSem.Claim
import GoSem.ClaimJoined
import GoSem.ClaimMapViews
import Derived.JoinedTies
import Derived.KernelRfl
namespace Go.Proofs.Ytpbkeagpipipmaa
/- THE CELL 'sum', in the pinned program and in every row, IS THE sha256 OF THE DUMP (.gsa) THAT YtpbkeagpipipmaaProg.lean LOADS. Nothing in Lean hashes anything: it is a label: what it is worth is what the hold of that sum in a sandbox is worth. -/
noncomputable def Try.pinned : Pinned := { name := "ytpbkeagpipipmaa", sum := "dc4bba28f5c790a224bfb79b988bab5ef34b9bde9659b9a1132a11d932c80533", checked := Try.checked }
namespace Rows
def none {H : Type} : Left H := { results := [], args := [] }

/-- 'laws.FnJustified': WHATEVER THE INPUT: true; the input reads as it did. -/
def fnJustifiedSpec : ChangeSpec := { name := "fnJustified", fn := fun _ => fun
  | [d1, d2] => { results := [.lit (.bool true)], args := [d1, d2] }
  | _ => none }
def fnJustifiedRow : OpenClaim := { program := "ytpbkeagpipipmaa", sum := "dc4bba28f5c790a224bfb79b988bab5ef34b9bde9659b9a1132a11d932c80533", func := "loop.example/g01054/laws.FnJustified", spec := "fnJustified", unfollowed := true, recurses := true, apart := false }
def FnJustifiedSaid : Prop := fnJustifiedRow.holds Try.pinned (OpenSpec.ofChange fnJustifiedSpec)

/-- ITS FALSE NEIGHBOUR: 'it returns false'. Refute it at one input. -/
def fnJustifiedWrong : ChangeSpec := { name := "fnJustified", fn := fun _ => fun
  | [d1, d2] => { results := [.lit (.bool false)], args := [d1, d2] }
  | _ => none }
def FnJustifiedWrongFalsely : Prop := fnJustifiedRow.holds Try.pinned (OpenSpec.ofChange fnJustifiedWrong)

/-- 'laws.FnMeasures': WHATEVER THE INPUT: true; the input reads as it did. -/
def fnMeasuresSpec : ChangeSpec := { name := "fnMeasures", fn := fun _ => fun
  | [d1, d2] => { results := [.lit (.bool true)], args := [d1, d2] }
  | _ => none }
def fnMeasuresRow : OpenClaim := { program := "ytpbkeagpipipmaa", sum := "dc4bba28f5c790a224bfb79b988bab5ef34b9bde9659b9a1132a11d932c80533", func := "loop.example/g01054/laws.FnMeasures", spec := "fnMeasures", unfollowed := true, recurses := true, apart := false }
def FnMeasuresSaid : Prop := fnMeasuresRow.holds Try.pinned (OpenSpec.ofChange fnMeasuresSpec)

/-- ITS FALSE NEIGHBOUR: 'it returns false'. Refute it at one input. -/
def fnMeasuresWrong : ChangeSpec := { name := "fnMeasures", fn := fun _ => fun
  | [d1, d2] => { results := [.lit (.bool false)], args := [d1, d2] }
  | _ => none }
def FnMeasuresWrongFalsely : Prop := fnMeasuresRow.holds Try.pinned (OpenSpec.ofChange fnMeasuresWrong)

/-- 'laws.FnExactIsRule': WHATEVER THE INPUT: true; the input reads as it did. -/
def fnExactIsRuleSpec : ChangeSpec := { name := "fnExactIsRule", fn := fun _ => fun
  | [d] => { results := [.lit (.bool true)], args := [d] }
  | _ => none }
def fnExactIsRuleRow : OpenClaim := { program := "ytpbkeagpipipmaa", sum := "dc4bba28f5c790a224bfb79b988bab5ef34b9bde9659b9a1132a11d932c80533", func := "loop.example/g01054/laws.FnExactIsRule", spec := "fnExactIsRule", apart := false }
def FnExactIsRuleSaid : Prop := fnExactIsRuleRow.holds Try.pinned (OpenSpec.ofChange fnExactIsRuleSpec)

/-- ITS FALSE NEIGHBOUR: 'it returns false'. Refute it at one input. -/
def fnExactIsRuleWrong : ChangeSpec := { name := "fnExactIsRule", fn := fun _ => fun
  | [d] => { results := [.lit (.bool false)], args := [d] }
  | _ => none }
def FnExactIsRuleWrongFalsely : Prop := fnExactIsRuleRow.holds Try.pinned (OpenSpec.ofChange fnExactIsRuleWrong)

/-- 'laws.FnExactNaturalWidth': WHATEVER THE INPUT: true; the input reads as it did. -/
def fnExactNaturalWidthSpec : ChangeSpec := { name := "fnExactNaturalWidth", fn := fun _ => fun
  | [d1, d2] => { results := [.lit (.bool true)], args := [d1, d2] }
  | _ => none }
def fnExactNaturalWidthRow : OpenClaim := { program := "ytpbkeagpipipmaa", sum := "dc4bba28f5c790a224bfb79b988bab5ef34b9bde9659b9a1132a11d932c80533", func := "loop.example/g01054/laws.FnExactNaturalWidth", spec := "fnExactNaturalWidth", apart := false }
def FnExactNaturalWidthSaid : Prop := fnExactNaturalWidthRow.holds Try.pinned (OpenSpec.ofChange fnExactNaturalWidthSpec)

/-- ITS FALSE NEIGHBOUR: 'it returns false'. Refute it at one input. -/
def fnExactNaturalWidthWrong : ChangeSpec := { name := "fnExactNaturalWidth", fn := fun _ => fun
  | [d1, d2] => { results := [.lit (.bool false)], args := [d1, d2] }
  | _ => none }
def FnExactNaturalWidthWrongFalsely : Prop := fnExactNaturalWidthRow.holds Try.pinned (OpenSpec.ofChange fnExactNaturalWidthWrong)

/-- 'laws.FnExactWidthBounds': WHATEVER THE INPUT: true; the input reads as it did. -/
def fnExactWidthBoundsSpec : ChangeSpec := { name := "fnExactWidthBounds", fn := fun _ => fun
  | [d1, d2] => { results := [.lit (.bool true)], args := [d1, d2] }
  | _ => none }
def fnExactWidthBoundsRow : OpenClaim := { program := "ytpbkeagpipipmaa", sum := "dc4bba28f5c790a224bfb79b988bab5ef34b9bde9659b9a1132a11d932c80533", func := "loop.example/g01054/laws.FnExactWidthBounds", spec := "fnExactWidthBounds", apart := false }
def FnExactWidthBoundsSaid : Prop := fnExactWidthBoundsRow.holds Try.pinned (OpenSpec.ofChange fnExactWidthBoundsSpec)

/-- ITS FALSE NEIGHBOUR: 'it returns false'. Refute it at one input. -/
def fnExactWidthBoundsWrong : ChangeSpec := { name := "fnExactWidthBounds", fn := fun _ => fun
  | [d1, d2] => { results := [.lit (.bool false)], args := [d1, d2] }
  | _ => none }
def FnExactWidthBoundsWrongFalsely : Prop := fnExactWidthBoundsRow.holds Try.pinned (OpenSpec.ofChange fnExactWidthBoundsWrong)

/-- 'laws.FnExactJustifyLine': WHATEVER THE INPUT: true; the input reads as it did. -/
def fnExactJustifyLineSpec : ChangeSpec := { name := "fnExactJustifyLine", fn := fun _ => fun
  | [d1, d2, d3] => { results := [.lit (.bool true)], args := [d1, d2, d3] }
  | _ => none }
def fnExactJustifyLineRow : OpenClaim := { program := "ytpbkeagpipipmaa", sum := "dc4bba28f5c790a224bfb79b988bab5ef34b9bde9659b9a1132a11d932c80533", func := "loop.example/g01054/laws.FnExactJustifyLine", spec := "fnExactJustifyLine", unfollowed := true, recurses := true, apart := false }
def FnExactJustifyLineSaid : Prop := fnExactJustifyLineRow.holds Try.pinned (OpenSpec.ofChange fnExactJustifyLineSpec)

/-- ITS FALSE NEIGHBOUR: 'it returns false'. Refute it at one input. -/
def fnExactJustifyLineWrong : ChangeSpec := { name := "fnExactJustifyLine", fn := fun _ => fun
  | [d1, d2, d3] => { results := [.lit (.bool false)], args := [d1, d2, d3] }
  | _ => none }
def FnExactJustifyLineWrongFalsely : Prop := fnExactJustifyLineRow.holds Try.pinned (OpenSpec.ofChange fnExactJustifyLineWrong)

/-- 'laws.FnExactWhyNotJustified': WHATEVER THE INPUT: true; the input reads as it did. -/
def fnExactWhyNotJustifiedSpec : ChangeSpec := { name := "fnExactWhyNotJustified", fn := fun _ => fun
  | [d1, d2, d3] => { results := [.lit (.bool true)], args := [d1, d2, d3] }
  | _ => none }
def fnExactWhyNotJustifiedRow : OpenClaim := { program := "ytpbkeagpipipmaa", sum := "dc4bba28f5c790a224bfb79b988bab5ef34b9bde9659b9a1132a11d932c80533", func := "loop.example/g01054/laws.FnExactWhyNotJustified", spec := "fnExactWhyNotJustified", unfollowed := true, recurses := true, apart := false }
def FnExactWhyNotJustifiedSaid : Prop := fnExactWhyNotJustifiedRow.holds Try.pinned (OpenSpec.ofChange fnExactWhyNotJustifiedSpec)

/-- ITS FALSE NEIGHBOUR: 'it returns false'. Refute it at one input. -/
def fnExactWhyNotJustifiedWrong : ChangeSpec := { name := "fnExactWhyNotJustified", fn := fun _ => fun
  | [d1, d2, d3] => { results := [.lit (.bool false)], args := [d1, d2, d3] }
  | _ => none }
def FnExactWhyNotJustifiedWrongFalsely : Prop := fnExactWhyNotJustifiedRow.holds Try.pinned (OpenSpec.ofChange fnExactWhyNotJustifiedWrong)

/-- 'laws.FnExactWordsThatFit': WHATEVER THE INPUT: true; the input reads as it did. -/
def fnExactWordsThatFitSpec : ChangeSpec := { name := "fnExactWordsThatFit", fn := fun _ => fun
  | [d1, d2, d3] => { results := [.lit (.bool true)], args := [d1, d2, d3] }
  | _ => none }
def fnExactWordsThatFitRow : OpenClaim := { program := "ytpbkeagpipipmaa", sum := "dc4bba28f5c790a224bfb79b988bab5ef34b9bde9659b9a1132a11d932c80533", func := "loop.example/g01054/laws.FnExactWordsThatFit", spec := "fnExactWordsThatFit", apart := false }
def FnExactWordsThatFitSaid : Prop := fnExactWordsThatFitRow.holds Try.pinned (OpenSpec.ofChange fnExactWordsThatFitSpec)

/-- ITS FALSE NEIGHBOUR: 'it returns false'. Refute it at one input. -/
def fnExactWordsThatFitWrong : ChangeSpec := { name := "fnExactWordsThatFit", fn := fun _ => fun
  | [d1, d2, d3] => { results := [.lit (.bool false)], args := [d1, d2, d3] }
  | _ => none }
def FnExactWordsThatFitWrongFalsely : Prop := fnExactWordsThatFitRow.holds Try.pinned (OpenSpec.ofChange fnExactWordsThatFitWrong)

/-- 'laws.FnExactCostOfLine': WHATEVER THE INPUT: true; the input reads as it did. -/
def fnExactCostOfLineSpec : ChangeSpec := { name := "fnExactCostOfLine", fn := fun _ => fun
  | [d1, d2, d3] => { results := [.lit (.bool true)], args := [d1, d2, d3] }
  | _ => none }
def fnExactCostOfLineRow : OpenClaim := { program := "ytpbkeagpipipmaa", sum := "dc4bba28f5c790a224bfb79b988bab5ef34b9bde9659b9a1132a11d932c80533", func := "loop.example/g01054/laws.FnExactCostOfLine", spec := "fnExactCostOfLine", unfollowed := true, recurses := true, apart := false }
def FnExactCostOfLineSaid : Prop := fnExactCostOfLineRow.holds Try.pinned (OpenSpec.ofChange fnExactCostOfLineSpec)

/-- ITS FALSE NEIGHBOUR: 'it returns false'. Refute it at one input. -/
def fnExactCostOfLineWrong : ChangeSpec := { name := "fnExactCostOfLine", fn := fun _ => fun
  | [d1, d2, d3] => { results := [.lit (.bool false)], args := [d1, d2, d3] }
  | _ => none }
def FnExactCostOfLineWrongFalsely : Prop := fnExactCostOfLineRow.holds Try.pinned (OpenSpec.ofChange fnExactCostOfLineWrong)

/-- 'laws.FnExactBestMeasure': WHATEVER THE INPUT: true; the input reads as it did. -/
def fnExactBestMeasureSpec : ChangeSpec := { name := "fnExactBestMeasure", fn := fun _ => fun
  | [d1, d2, d3, d4] => { results := [.lit (.bool true)], args := [d1, d2, d3, d4] }
  | _ => none }
def fnExactBestMeasureRow : OpenClaim := { program := "ytpbkeagpipipmaa", sum := "dc4bba28f5c790a224bfb79b988bab5ef34b9bde9659b9a1132a11d932c80533", func := "loop.example/g01054/laws.FnExactBestMeasure", spec := "fnExactBestMeasure", unfollowed := true, recurses := true, apart := false }
def FnExactBestMeasureSaid : Prop := fnExactBestMeasureRow.holds Try.pinned (OpenSpec.ofChange fnExactBestMeasureSpec)

/-- ITS FALSE NEIGHBOUR: 'it returns false'. Refute it at one input. -/
def fnExactBestMeasureWrong : ChangeSpec := { name := "fnExactBestMeasure", fn := fun _ => fun
  | [d1, d2, d3, d4] => { results := [.lit (.bool false)], args := [d1, d2, d3, d4] }
  | _ => none }
def FnExactBestMeasureWrongFalsely : Prop := fnExactBestMeasureRow.holds Try.pinned (OpenSpec.ofChange fnExactBestMeasureWrong)

/-- 'laws.FnExactSpacesFor': WHATEVER THE INPUT: true; the input reads as it did. -/
def fnExactSpacesForSpec : ChangeSpec := { name := "fnExactSpacesFor", fn := fun _ => fun
  | [d1, d2, d3, d4] => { results := [.lit (.bool true)], args := [d1, d2, d3, d4] }
  | _ => none }
def fnExactSpacesForRow : OpenClaim := { program := "ytpbkeagpipipmaa", sum := "dc4bba28f5c790a224bfb79b988bab5ef34b9bde9659b9a1132a11d932c80533", func := "loop.example/g01054/laws.FnExactSpacesFor", spec := "fnExactSpacesFor", unfollowed := true, recurses := true, apart := false }
def FnExactSpacesForSaid : Prop := fnExactSpacesForRow.holds Try.pinned (OpenSpec.ofChange fnExactSpacesForSpec)

/-- ITS FALSE NEIGHBOUR: 'it returns false'. Refute it at one input. -/
def fnExactSpacesForWrong : ChangeSpec := { name := "fnExactSpacesFor", fn := fun _ => fun
  | [d1, d2, d3, d4] => { results := [.lit (.bool false)], args := [d1, d2, d3, d4] }
  | _ => none }
def FnExactSpacesForWrongFalsely : Prop := fnExactSpacesForRow.holds Try.pinned (OpenSpec.ofChange fnExactSpacesForWrong)

/- THE SECOND FORM. 'bulk': how many values and letters a reading holds, each counted each time it is reached (what is shared counts as often as it is met; a slice's spare places count too). A statement '..UptoSaid' is the law's where the arguments, and the package variables that the reading takes, are together of bulk at most 1048576: NARROWER than '..Said'. Prove '..Said' where nothing that the law and all that it calls make is longer than what came in: it says more and counts as full. Else prove '..UptoSaid'. A law counts once. -/
mutual
def uptoBulk {H : Type} : DataW H → Nat
  | .lit (.string bytes) => bytes.length + 1
  | .lit _ => 1
  | .nil => 1
  | .ptr d => uptoBulk d + 1
  | .slice elems spare => uptoBulkAll elems + uptoBulkAll spare + 1
  | .agg parts => uptoBulkAll parts + 1
  | .iface _ d => uptoBulk d + 1
  | .map entries => uptoBulkEntries entries + 1
  | .held _ => 1
def uptoBulkAll {H : Type} : List (DataW H) → Nat
  | [] => 0
  | d :: r => uptoBulk d + uptoBulkAll r
def uptoBulkEntries {H : Type} : List (Lit × DataW H) → Nat
  | [] => 0
  | x :: r => uptoBulkEntry x + uptoBulkEntries r
def uptoBulkEntry {H : Type} : Lit × DataW H → Nat
  | (.string bytes, d) => bytes.length + uptoBulk d + 1
  | (_, d) => uptoBulk d + 1
 end
def uptoSmall : (H : Type) → List (DataW H) → Bool := fun _ ds => decide (uptoBulkAll ds ≤ 1048576)
def OpenSpec.upto (s : _root_.Go.ChangeSpec) : _root_.Go.OpenSpec := { _root_.Go.OpenSpec.ofChange s with cond := some uptoSmall }

/-- 'laws.FnJustified', WHERE WHAT IT READS IS OF BULK AT MOST 1048576: true; the input reads as it did. -/
def fnJustifiedUptoRow : OpenClaim := { program := "ytpbkeagpipipmaa", sum := "dc4bba28f5c790a224bfb79b988bab5ef34b9bde9659b9a1132a11d932c80533", func := "loop.example/g01054/laws.FnJustified", spec := "fnJustified", unfollowed := true, recurses := true, apart := false, narrowed := true }
def FnJustifiedUptoSaid : Prop := fnJustifiedUptoRow.holds Try.pinned (OpenSpec.upto fnJustifiedSpec)

/-- 'laws.FnMeasures', WHERE WHAT IT READS IS OF BULK AT MOST 1048576: true; the input reads as it did. -/
def fnMeasuresUptoRow : OpenClaim := { program := "ytpbkeagpipipmaa", sum := "dc4bba28f5c790a224bfb79b988bab5ef34b9bde9659b9a1132a11d932c80533", func := "loop.example/g01054/laws.FnMeasures", spec := "fnMeasures", unfollowed := true, recurses := true, apart := false, narrowed := true }
def FnMeasuresUptoSaid : Prop := fnMeasuresUptoRow.holds Try.pinned (OpenSpec.upto fnMeasuresSpec)

/-- 'laws.FnExactIsRule', WHERE WHAT IT READS IS OF BULK AT MOST 1048576: true; the input reads as it did. -/
def fnExactIsRuleUptoRow : OpenClaim := { program := "ytpbkeagpipipmaa", sum := "dc4bba28f5c790a224bfb79b988bab5ef34b9bde9659b9a1132a11d932c80533", func := "loop.example/g01054/laws.FnExactIsRule", spec := "fnExactIsRule", apart := false, narrowed := true }
def FnExactIsRuleUptoSaid : Prop := fnExactIsRuleUptoRow.holds Try.pinned (OpenSpec.upto fnExactIsRuleSpec)

/-- 'laws.FnExactNaturalWidth', WHERE WHAT IT READS IS OF BULK AT MOST 1048576: true; the input reads as it did. -/
def fnExactNaturalWidthUptoRow : OpenClaim := { program := "ytpbkeagpipipmaa", sum := "dc4bba28f5c790a224bfb79b988bab5ef34b9bde9659b9a1132a11d932c80533", func := "loop.example/g01054/laws.FnExactNaturalWidth", spec := "fnExactNaturalWidth", apart := false, narrowed := true }
def FnExactNaturalWidthUptoSaid : Prop := fnExactNaturalWidthUptoRow.holds Try.pinned (OpenSpec.upto fnExactNaturalWidthSpec)

/-- 'laws.FnExactWidthBounds', WHERE WHAT IT READS IS OF BULK AT MOST 1048576: true; the input reads as it did. -/
def fnExactWidthBoundsUptoRow : OpenClaim := { program := "ytpbkeagpipipmaa", sum := "dc4bba28f5c790a224bfb79b988bab5ef34b9bde9659b9a1132a11d932c80533", func := "loop.example/g01054/laws.FnExactWidthBounds", spec := "fnExactWidthBounds", apart := false, narrowed := true }
def FnExactWidthBoundsUptoSaid : Prop := fnExactWidthBoundsUptoRow.holds Try.pinned (OpenSpec.upto fnExactWidthBoundsSpec)

/-- 'laws.FnExactJustifyLine', WHERE WHAT IT READS IS OF BULK AT MOST 1048576: true; the input reads as it did. -/
def fnExactJustifyLineUptoRow : OpenClaim := { program := "ytpbkeagpipipmaa", sum := "dc4bba28f5c790a224bfb79b988bab5ef34b9bde9659b9a1132a11d932c80533", func := "loop.example/g01054/laws.FnExactJustifyLine", spec := "fnExactJustifyLine", unfollowed := true, recurses := true, apart := false, narrowed := true }
def FnExactJustifyLineUptoSaid : Prop := fnExactJustifyLineUptoRow.holds Try.pinned (OpenSpec.upto fnExactJustifyLineSpec)

/-- 'laws.FnExactWhyNotJustified', WHERE WHAT IT READS IS OF BULK AT MOST 1048576: true; the input reads as it did. -/
def fnExactWhyNotJustifiedUptoRow : OpenClaim := { program := "ytpbkeagpipipmaa", sum := "dc4bba28f5c790a224bfb79b988bab5ef34b9bde9659b9a1132a11d932c80533", func := "loop.example/g01054/laws.FnExactWhyNotJustified", spec := "fnExactWhyNotJustified", unfollowed := true, recurses := true, apart := false, narrowed := true }
def FnExactWhyNotJustifiedUptoSaid : Prop := fnExactWhyNotJustifiedUptoRow.holds Try.pinned (OpenSpec.upto fnExactWhyNotJustifiedSpec)

/-- 'laws.FnExactWordsThatFit', WHERE WHAT IT READS IS OF BULK AT MOST 1048576: true; the input reads as it did. -/
def fnExactWordsThatFitUptoRow : OpenClaim := { program := "ytpbkeagpipipmaa", sum := "dc4bba28f5c790a224bfb79b988bab5ef34b9bde9659b9a1132a11d932c80533", func := "loop.example/g01054/laws.FnExactWordsThatFit", spec := "fnExactWordsThatFit", apart := false, narrowed := true }
def FnExactWordsThatFitUptoSaid : Prop := fnExactWordsThatFitUptoRow.holds Try.pinned (OpenSpec.upto fnExactWordsThatFitSpec)

/-- 'laws.FnExactCostOfLine', WHERE WHAT IT READS IS OF BULK AT MOST 1048576: true; the input reads as it did. -/
def fnExactCostOfLineUptoRow : OpenClaim := { program := "ytpbkeagpipipmaa", sum := "dc4bba28f5c790a224bfb79b988bab5ef34b9bde9659b9a1132a11d932c80533", func := "loop.example/g01054/laws.FnExactCostOfLine", spec := "fnExactCostOfLine", unfollowed := true, recurses := true, apart := false, narrowed := true }
def FnExactCostOfLineUptoSaid : Prop := fnExactCostOfLineUptoRow.holds Try.pinned (OpenSpec.upto fnExactCostOfLineSpec)

/-- 'laws.FnExactBestMeasure', WHERE WHAT IT READS IS OF BULK AT MOST 1048576: true; the input reads as it did. -/
def fnExactBestMeasureUptoRow : OpenClaim := { program := "ytpbkeagpipipmaa", sum := "dc4bba28f5c790a224bfb79b988bab5ef34b9bde9659b9a1132a11d932c80533", func := "loop.example/g01054/laws.FnExactBestMeasure", spec := "fnExactBestMeasure", unfollowed := true, recurses := true, apart := false, narrowed := true }
def FnExactBestMeasureUptoSaid : Prop := fnExactBestMeasureUptoRow.holds Try.pinned (OpenSpec.upto fnExactBestMeasureSpec)

/-- 'laws.FnExactSpacesFor', WHERE WHAT IT READS IS OF BULK AT MOST 1048576: true; the input reads as it did. -/
def fnExactSpacesForUptoRow : OpenClaim := { program := "ytpbkeagpipipmaa", sum := "dc4bba28f5c790a224bfb79b988bab5ef34b9bde9659b9a1132a11d932c80533", func := "loop.example/g01054/laws.FnExactSpacesFor", spec := "fnExactSpacesFor", unfollowed := true, recurses := true, apart := false, narrowed := true }
def FnExactSpacesForUptoSaid : Prop := fnExactSpacesForUptoRow.holds Try.pinned (OpenSpec.upto fnExactSpacesForSpec)

end Rows
end Go.Proofs.Ytpbkeagpipipmaa
