/-
  No cell of these rows narrows 'for every input' (looked for: loops, veiled, ifaces, maps, wideKeys, modest, calm, conditions, laid).
  DERIVED. THE GIVEN ROWS OF THIS SEAT. 11 by the template 'for every input the law returns true; each argument reads behind the call as it read before'; 0 by the template 'total and deterministic' (their statements: YtbbaphhkdhdelaaTotals.lean).
  GIVEN WITH THE SEED: the statements are not yours to turn. If you find one false, say at which input.
  Laid BY PROGRAM, IN A SANDBOX (cutbox-rows.mjs): the forced cells as the released guide's own fill.sh prints them over the translation 982331e7db1d4590… (all of the seat's roots in one cut). By AI agents, Wed Nov 11 2026. No macro, syntax, notation, axiom, sorry.
-/
import Derived.Test.YtbbaphhkdhdelaaChecked
import GoSem.Claim
import GoSem.ClaimJoined
import GoSem.ClaimMapViews
import Derived.JoinedTies
import Derived.KernelRfl
namespace Go.Proofs.Ytbbaphhkdhdelaa
/- THE CELL 'sum', in the pinned program and in every row, IS THE sha256 OF THE DUMP (.gsa) THAT YtbbaphhkdhdelaaProg.lean LOADS. Nothing in Lean hashes anything: it is a label: what it is worth is what the hold of that sum in a sandbox is worth. -/
noncomputable def Try.pinned : Pinned := { name := "ytbbaphhkdhdelaa", sum := "982331e7db1d45902bf6e8f8beec9d49e7cec928d9e86ce77171cf796e46ff4f", checked := Try.checked }
namespace Rows
def none {H : Type} : Left H := { results := [], args := [] }

/-- 'laws.FnExactIsStrike': WHATEVER THE INPUT: true; the input reads as it did. -/
def fnExactIsStrikeSpec : ChangeSpec := { name := "fnExactIsStrike", fn := fun _ => fun
  | [d] => { results := [.lit (.bool true)], args := [d] }
  | _ => none }
def fnExactIsStrikeRow : OpenClaim := { program := "ytbbaphhkdhdelaa", sum := "982331e7db1d45902bf6e8f8beec9d49e7cec928d9e86ce77171cf796e46ff4f", func := "loop.example/g01054/laws.FnExactIsStrike", spec := "fnExactIsStrike", apart := false }
def FnExactIsStrikeSaid : Prop := fnExactIsStrikeRow.holds Try.pinned (OpenSpec.ofChange fnExactIsStrikeSpec)

/-- ITS FALSE NEIGHBOUR: 'it returns false'. Refute it at one input. -/
def fnExactIsStrikeWrong : ChangeSpec := { name := "fnExactIsStrike", fn := fun _ => fun
  | [d] => { results := [.lit (.bool false)], args := [d] }
  | _ => none }
def FnExactIsStrikeWrongFalsely : Prop := fnExactIsStrikeRow.holds Try.pinned (OpenSpec.ofChange fnExactIsStrikeWrong)

/-- 'laws.FnExactWidthOfStrike': WHATEVER THE INPUT: true; the input reads as it did. -/
def fnExactWidthOfStrikeSpec : ChangeSpec := { name := "fnExactWidthOfStrike", fn := fun _ => fun
  | [d] => { results := [.lit (.bool true)], args := [d] }
  | _ => none }
def fnExactWidthOfStrikeRow : OpenClaim := { program := "ytbbaphhkdhdelaa", sum := "982331e7db1d45902bf6e8f8beec9d49e7cec928d9e86ce77171cf796e46ff4f", func := "loop.example/g01054/laws.FnExactWidthOfStrike", spec := "fnExactWidthOfStrike", apart := false }
def FnExactWidthOfStrikeSaid : Prop := fnExactWidthOfStrikeRow.holds Try.pinned (OpenSpec.ofChange fnExactWidthOfStrikeSpec)

/-- ITS FALSE NEIGHBOUR: 'it returns false'. Refute it at one input. -/
def fnExactWidthOfStrikeWrong : ChangeSpec := { name := "fnExactWidthOfStrike", fn := fun _ => fun
  | [d] => { results := [.lit (.bool false)], args := [d] }
  | _ => none }
def FnExactWidthOfStrikeWrongFalsely : Prop := fnExactWidthOfStrikeRow.holds Try.pinned (OpenSpec.ofChange fnExactWidthOfStrikeWrong)

/-- 'laws.FnExactFilingsFor': WHATEVER THE INPUT: true; the input reads as it did. -/
def fnExactFilingsForSpec : ChangeSpec := { name := "fnExactFilingsFor", fn := fun _ => fun
  | [d1, d2] => { results := [.lit (.bool true)], args := [d1, d2] }
  | _ => none }
def fnExactFilingsForRow : OpenClaim := { program := "ytbbaphhkdhdelaa", sum := "982331e7db1d45902bf6e8f8beec9d49e7cec928d9e86ce77171cf796e46ff4f", func := "loop.example/g01054/laws.FnExactFilingsFor", spec := "fnExactFilingsFor", apart := false }
def FnExactFilingsForSaid : Prop := fnExactFilingsForRow.holds Try.pinned (OpenSpec.ofChange fnExactFilingsForSpec)

/-- ITS FALSE NEIGHBOUR: 'it returns false'. Refute it at one input. -/
def fnExactFilingsForWrong : ChangeSpec := { name := "fnExactFilingsFor", fn := fun _ => fun
  | [d1, d2] => { results := [.lit (.bool false)], args := [d1, d2] }
  | _ => none }
def FnExactFilingsForWrongFalsely : Prop := fnExactFilingsForRow.holds Try.pinned (OpenSpec.ofChange fnExactFilingsForWrong)

/-- 'laws.FnExactCanBeJustified': WHATEVER THE INPUT: true; the input reads as it did. -/
def fnExactCanBeJustifiedSpec : ChangeSpec := { name := "fnExactCanBeJustified", fn := fun _ => fun
  | [d1, d2] => { results := [.lit (.bool true)], args := [d1, d2] }
  | _ => none }
def fnExactCanBeJustifiedRow : OpenClaim := { program := "ytbbaphhkdhdelaa", sum := "982331e7db1d45902bf6e8f8beec9d49e7cec928d9e86ce77171cf796e46ff4f", func := "loop.example/g01054/laws.FnExactCanBeJustified", spec := "fnExactCanBeJustified", apart := false }
def FnExactCanBeJustifiedSaid : Prop := fnExactCanBeJustifiedRow.holds Try.pinned (OpenSpec.ofChange fnExactCanBeJustifiedSpec)

/-- ITS FALSE NEIGHBOUR: 'it returns false'. Refute it at one input. -/
def fnExactCanBeJustifiedWrong : ChangeSpec := { name := "fnExactCanBeJustified", fn := fun _ => fun
  | [d1, d2] => { results := [.lit (.bool false)], args := [d1, d2] }
  | _ => none }
def FnExactCanBeJustifiedWrongFalsely : Prop := fnExactCanBeJustifiedRow.holds Try.pinned (OpenSpec.ofChange fnExactCanBeJustifiedWrong)

/-- 'laws.FnExactStandardFor': WHATEVER THE INPUT: true; the input reads as it did. -/
def fnExactStandardForSpec : ChangeSpec := { name := "fnExactStandardFor", fn := fun _ => fun
  | [d] => { results := [.lit (.bool true)], args := [d] }
  | _ => none }
def fnExactStandardForRow : OpenClaim := { program := "ytbbaphhkdhdelaa", sum := "982331e7db1d45902bf6e8f8beec9d49e7cec928d9e86ce77171cf796e46ff4f", func := "loop.example/g01054/laws.FnExactStandardFor", spec := "fnExactStandardFor", apart := false }
def FnExactStandardForSaid : Prop := fnExactStandardForRow.holds Try.pinned (OpenSpec.ofChange fnExactStandardForSpec)

/-- ITS FALSE NEIGHBOUR: 'it returns false'. Refute it at one input. -/
def fnExactStandardForWrong : ChangeSpec := { name := "fnExactStandardFor", fn := fun _ => fun
  | [d] => { results := [.lit (.bool false)], args := [d] }
  | _ => none }
def FnExactStandardForWrongFalsely : Prop := fnExactStandardForRow.holds Try.pinned (OpenSpec.ofChange fnExactStandardForWrong)

/-- 'laws.FnExactOffStandard': WHATEVER THE INPUT: true; the input reads as it did. -/
def fnExactOffStandardSpec : ChangeSpec := { name := "fnExactOffStandard", fn := fun _ => fun
  | [d1, d2, d3] => { results := [.lit (.bool true)], args := [d1, d2, d3] }
  | _ => none }
def fnExactOffStandardRow : OpenClaim := { program := "ytbbaphhkdhdelaa", sum := "982331e7db1d45902bf6e8f8beec9d49e7cec928d9e86ce77171cf796e46ff4f", func := "loop.example/g01054/laws.FnExactOffStandard", spec := "fnExactOffStandard", apart := false }
def FnExactOffStandardSaid : Prop := fnExactOffStandardRow.holds Try.pinned (OpenSpec.ofChange fnExactOffStandardSpec)

/-- ITS FALSE NEIGHBOUR: 'it returns false'. Refute it at one input. -/
def fnExactOffStandardWrong : ChangeSpec := { name := "fnExactOffStandard", fn := fun _ => fun
  | [d1, d2, d3] => { results := [.lit (.bool false)], args := [d1, d2, d3] }
  | _ => none }
def FnExactOffStandardWrongFalsely : Prop := fnExactOffStandardRow.holds Try.pinned (OpenSpec.ofChange fnExactOffStandardWrong)

/-- 'laws.FnExactLeastFiled': WHATEVER THE INPUT: true; the input reads as it did. -/
def fnExactLeastFiledSpec : ChangeSpec := { name := "fnExactLeastFiled", fn := fun _ => fun
  | [d1, d2] => { results := [.lit (.bool true)], args := [d1, d2] }
  | _ => none }
def fnExactLeastFiledRow : OpenClaim := { program := "ytbbaphhkdhdelaa", sum := "982331e7db1d45902bf6e8f8beec9d49e7cec928d9e86ce77171cf796e46ff4f", func := "loop.example/g01054/laws.FnExactLeastFiled", spec := "fnExactLeastFiled", apart := false }
def FnExactLeastFiledSaid : Prop := fnExactLeastFiledRow.holds Try.pinned (OpenSpec.ofChange fnExactLeastFiledSpec)

/-- ITS FALSE NEIGHBOUR: 'it returns false'. Refute it at one input. -/
def fnExactLeastFiledWrong : ChangeSpec := { name := "fnExactLeastFiled", fn := fun _ => fun
  | [d1, d2] => { results := [.lit (.bool false)], args := [d1, d2] }
  | _ => none }
def FnExactLeastFiledWrongFalsely : Prop := fnExactLeastFiledRow.holds Try.pinned (OpenSpec.ofChange fnExactLeastFiledWrong)

/-- 'laws.FnExactFileStrike': WHATEVER THE INPUT: true; the input reads as it did. -/
def fnExactFileStrikeSpec : ChangeSpec := { name := "fnExactFileStrike", fn := fun _ => fun
  | [d1, d2, d3] => { results := [.lit (.bool true)], args := [d1, d2, d3] }
  | _ => none }
def fnExactFileStrikeRow : OpenClaim := { program := "ytbbaphhkdhdelaa", sum := "982331e7db1d45902bf6e8f8beec9d49e7cec928d9e86ce77171cf796e46ff4f", func := "loop.example/g01054/laws.FnExactFileStrike", spec := "fnExactFileStrike", apart := false }
def FnExactFileStrikeSaid : Prop := fnExactFileStrikeRow.holds Try.pinned (OpenSpec.ofChange fnExactFileStrikeSpec)

/-- ITS FALSE NEIGHBOUR: 'it returns false'. Refute it at one input. -/
def fnExactFileStrikeWrong : ChangeSpec := { name := "fnExactFileStrike", fn := fun _ => fun
  | [d1, d2, d3] => { results := [.lit (.bool false)], args := [d1, d2, d3] }
  | _ => none }
def FnExactFileStrikeWrongFalsely : Prop := fnExactFileStrikeRow.holds Try.pinned (OpenSpec.ofChange fnExactFileStrikeWrong)

/-- 'laws.FnExactCentreStrike': WHATEVER THE INPUT: true; the input reads as it did. -/
def fnExactCentreStrikeSpec : ChangeSpec := { name := "fnExactCentreStrike", fn := fun _ => fun
  | [d] => { results := [.lit (.bool true)], args := [d] }
  | _ => none }
def fnExactCentreStrikeRow : OpenClaim := { program := "ytbbaphhkdhdelaa", sum := "982331e7db1d45902bf6e8f8beec9d49e7cec928d9e86ce77171cf796e46ff4f", func := "loop.example/g01054/laws.FnExactCentreStrike", spec := "fnExactCentreStrike", apart := false }
def FnExactCentreStrikeSaid : Prop := fnExactCentreStrikeRow.holds Try.pinned (OpenSpec.ofChange fnExactCentreStrikeSpec)

/-- ITS FALSE NEIGHBOUR: 'it returns false'. Refute it at one input. -/
def fnExactCentreStrikeWrong : ChangeSpec := { name := "fnExactCentreStrike", fn := fun _ => fun
  | [d] => { results := [.lit (.bool false)], args := [d] }
  | _ => none }
def FnExactCentreStrikeWrongFalsely : Prop := fnExactCentreStrikeRow.holds Try.pinned (OpenSpec.ofChange fnExactCentreStrikeWrong)

/-- 'laws.FnExactDepthAfter': WHATEVER THE INPUT: true; the input reads as it did. -/
def fnExactDepthAfterSpec : ChangeSpec := { name := "fnExactDepthAfter", fn := fun _ => fun
  | [d1, d2] => { results := [.lit (.bool true)], args := [d1, d2] }
  | _ => none }
def fnExactDepthAfterRow : OpenClaim := { program := "ytbbaphhkdhdelaa", sum := "982331e7db1d45902bf6e8f8beec9d49e7cec928d9e86ce77171cf796e46ff4f", func := "loop.example/g01054/laws.FnExactDepthAfter", spec := "fnExactDepthAfter", apart := false }
def FnExactDepthAfterSaid : Prop := fnExactDepthAfterRow.holds Try.pinned (OpenSpec.ofChange fnExactDepthAfterSpec)

/-- ITS FALSE NEIGHBOUR: 'it returns false'. Refute it at one input. -/
def fnExactDepthAfterWrong : ChangeSpec := { name := "fnExactDepthAfter", fn := fun _ => fun
  | [d1, d2] => { results := [.lit (.bool false)], args := [d1, d2] }
  | _ => none }
def FnExactDepthAfterWrongFalsely : Prop := fnExactDepthAfterRow.holds Try.pinned (OpenSpec.ofChange fnExactDepthAfterWrong)

/-- 'laws.FnExactCastsLeft': WHATEVER THE INPUT: true; the input reads as it did. -/
def fnExactCastsLeftSpec : ChangeSpec := { name := "fnExactCastsLeft", fn := fun _ => fun
  | [d1, d2, d3] => { results := [.lit (.bool true)], args := [d1, d2, d3] }
  | _ => none }
def fnExactCastsLeftRow : OpenClaim := { program := "ytbbaphhkdhdelaa", sum := "982331e7db1d45902bf6e8f8beec9d49e7cec928d9e86ce77171cf796e46ff4f", func := "loop.example/g01054/laws.FnExactCastsLeft", spec := "fnExactCastsLeft", apart := false }
def FnExactCastsLeftSaid : Prop := fnExactCastsLeftRow.holds Try.pinned (OpenSpec.ofChange fnExactCastsLeftSpec)

/-- ITS FALSE NEIGHBOUR: 'it returns false'. Refute it at one input. -/
def fnExactCastsLeftWrong : ChangeSpec := { name := "fnExactCastsLeft", fn := fun _ => fun
  | [d1, d2, d3] => { results := [.lit (.bool false)], args := [d1, d2, d3] }
  | _ => none }
def FnExactCastsLeftWrongFalsely : Prop := fnExactCastsLeftRow.holds Try.pinned (OpenSpec.ofChange fnExactCastsLeftWrong)

/- THE SECOND FORM. 'bulk': how many values and letters a reading holds, each counted each time it is reached (what is shared counts as often as it is met; a slice's spare places count too). A statement '..UptoSaid' is the law's where the arguments, and the package variables that the reading takes, are together of bulk at most 1048576: NARROWER than '..Said'. Prove '..Said' where nothing that the law and all that it calls make is longer than what came in: it says more and counts as full. Else prove '..UptoSaid'. A law counts once. -/
mutual
def uptoBulk {H : Type} : DataW H → Nat
  | .lit (.string bytes) => bytes.length + 1
  | .lit _ => 1
  | .nil => 1
  | .ptr d => uptoBulk d + 1
  | .slice elems spare => uptoBulkAll elems + uptoBulkAll spare + 1
  | .agg parts => uptoBulkAll parts + 1
  | .iface _ d => uptoBulk d + 1
  | .map entries => uptoBulkEntries entries + 1
  | .held _ => 1
def uptoBulkAll {H : Type} : List (DataW H) → Nat
  | [] => 0
  | d :: r => uptoBulk d + uptoBulkAll r
def uptoBulkEntries {H : Type} : List (Lit × DataW H) → Nat
  | [] => 0
  | x :: r => uptoBulkEntry x + uptoBulkEntries r
def uptoBulkEntry {H : Type} : Lit × DataW H → Nat
  | (.string bytes, d) => bytes.length + uptoBulk d + 1
  | (_, d) => uptoBulk d + 1
 end
def uptoSmall : (H : Type) → List (DataW H) → Bool := fun _ ds => decide (uptoBulkAll ds ≤ 1048576)
def OpenSpec.upto (s : _root_.Go.ChangeSpec) : _root_.Go.OpenSpec := { _root_.Go.OpenSpec.ofChange s with cond := some uptoSmall }

/-- 'laws.FnExactIsStrike', WHERE WHAT IT READS IS OF BULK AT MOST 1048576: true; the input reads as it did. -/
def fnExactIsStrikeUptoRow : OpenClaim := { program := "ytbbaphhkdhdelaa", sum := "982331e7db1d45902bf6e8f8beec9d49e7cec928d9e86ce77171cf796e46ff4f", func := "loop.example/g01054/laws.FnExactIsStrike", spec := "fnExactIsStrike", apart := false, narrowed := true }
def FnExactIsStrikeUptoSaid : Prop := fnExactIsStrikeUptoRow.holds Try.pinned (OpenSpec.upto fnExactIsStrikeSpec)

/-- 'laws.FnExactWidthOfStrike', WHERE WHAT IT READS IS OF BULK AT MOST 1048576: true; the input reads as it did. -/
def fnExactWidthOfStrikeUptoRow : OpenClaim := { program := "ytbbaphhkdhdelaa", sum := "982331e7db1d45902bf6e8f8beec9d49e7cec928d9e86ce77171cf796e46ff4f", func := "loop.example/g01054/laws.FnExactWidthOfStrike", spec := "fnExactWidthOfStrike", apart := false, narrowed := true }
def FnExactWidthOfStrikeUptoSaid : Prop := fnExactWidthOfStrikeUptoRow.holds Try.pinned (OpenSpec.upto fnExactWidthOfStrikeSpec)

/-- 'laws.FnExactFilingsFor', WHERE WHAT IT READS IS OF BULK AT MOST 1048576: true; the input reads as it did. -/
def fnExactFilingsForUptoRow : OpenClaim := { program := "ytbbaphhkdhdelaa", sum := "982331e7db1d45902bf6e8f8beec9d49e7cec928d9e86ce77171cf796e46ff4f", func := "loop.example/g01054/laws.FnExactFilingsFor", spec := "fnExactFilingsFor", apart := false, narrowed := true }
def FnExactFilingsForUptoSaid : Prop := fnExactFilingsForUptoRow.holds Try.pinned (OpenSpec.upto fnExactFilingsForSpec)

/-- 'laws.FnExactCanBeJustified', WHERE WHAT IT READS IS OF BULK AT MOST 1048576: true; the input reads as it did. -/
def fnExactCanBeJustifiedUptoRow : OpenClaim := { program := "ytbbaphhkdhdelaa", sum := "982331e7db1d45902bf6e8f8beec9d49e7cec928d9e86ce77171cf796e46ff4f", func := "loop.example/g01054/laws.FnExactCanBeJustified", spec := "fnExactCanBeJustified", apart := false, narrowed := true }
def FnExactCanBeJustifiedUptoSaid : Prop := fnExactCanBeJustifiedUptoRow.holds Try.pinned (OpenSpec.upto fnExactCanBeJustifiedSpec)

/-- 'laws.FnExactStandardFor', WHERE WHAT IT READS IS OF BULK AT MOST 1048576: true; the input reads as it did. -/
def fnExactStandardForUptoRow : OpenClaim := { program := "ytbbaphhkdhdelaa", sum := "982331e7db1d45902bf6e8f8beec9d49e7cec928d9e86ce77171cf796e46ff4f", func := "loop.example/g01054/laws.FnExactStandardFor", spec := "fnExactStandardFor", apart := false, narrowed := true }
def FnExactStandardForUptoSaid : Prop := fnExactStandardForUptoRow.holds Try.pinned (OpenSpec.upto fnExactStandardForSpec)

/-- 'laws.FnExactOffStandard', WHERE WHAT IT READS IS OF BULK AT MOST 1048576: true; the input reads as it did. -/
def fnExactOffStandardUptoRow : OpenClaim := { program := "ytbbaphhkdhdelaa", sum := "982331e7db1d45902bf6e8f8beec9d49e7cec928d9e86ce77171cf796e46ff4f", func := "loop.example/g01054/laws.FnExactOffStandard", spec := "fnExactOffStandard", apart := false, narrowed := true }
def FnExactOffStandardUptoSaid : Prop := fnExactOffStandardUptoRow.holds Try.pinned (OpenSpec.upto fnExactOffStandardSpec)

/-- 'laws.FnExactLeastFiled', WHERE WHAT IT READS IS OF BULK AT MOST 1048576: true; the input reads as it did. -/
def fnExactLeastFiledUptoRow : OpenClaim := { program := "ytbbaphhkdhdelaa", sum := "982331e7db1d45902bf6e8f8beec9d49e7cec928d9e86ce77171cf796e46ff4f", func := "loop.example/g01054/laws.FnExactLeastFiled", spec := "fnExactLeastFiled", apart := false, narrowed := true }
def FnExactLeastFiledUptoSaid : Prop := fnExactLeastFiledUptoRow.holds Try.pinned (OpenSpec.upto fnExactLeastFiledSpec)

/-- 'laws.FnExactFileStrike', WHERE WHAT IT READS IS OF BULK AT MOST 1048576: true; the input reads as it did. -/
def fnExactFileStrikeUptoRow : OpenClaim := { program := "ytbbaphhkdhdelaa", sum := "982331e7db1d45902bf6e8f8beec9d49e7cec928d9e86ce77171cf796e46ff4f", func := "loop.example/g01054/laws.FnExactFileStrike", spec := "fnExactFileStrike", apart := false, narrowed := true }
def FnExactFileStrikeUptoSaid : Prop := fnExactFileStrikeUptoRow.holds Try.pinned (OpenSpec.upto fnExactFileStrikeSpec)

/-- 'laws.FnExactCentreStrike', WHERE WHAT IT READS IS OF BULK AT MOST 1048576: true; the input reads as it did. -/
def fnExactCentreStrikeUptoRow : OpenClaim := { program := "ytbbaphhkdhdelaa", sum := "982331e7db1d45902bf6e8f8beec9d49e7cec928d9e86ce77171cf796e46ff4f", func := "loop.example/g01054/laws.FnExactCentreStrike", spec := "fnExactCentreStrike", apart := false, narrowed := true }
def FnExactCentreStrikeUptoSaid : Prop := fnExactCentreStrikeUptoRow.holds Try.pinned (OpenSpec.upto fnExactCentreStrikeSpec)

/-- 'laws.FnExactDepthAfter', WHERE WHAT IT READS IS OF BULK AT MOST 1048576: true; the input reads as it did. -/
def fnExactDepthAfterUptoRow : OpenClaim := { program := "ytbbaphhkdhdelaa", sum := "982331e7db1d45902bf6e8f8beec9d49e7cec928d9e86ce77171cf796e46ff4f", func := "loop.example/g01054/laws.FnExactDepthAfter", spec := "fnExactDepthAfter", apart := false, narrowed := true }
def FnExactDepthAfterUptoSaid : Prop := fnExactDepthAfterUptoRow.holds Try.pinned (OpenSpec.upto fnExactDepthAfterSpec)

/-- 'laws.FnExactCastsLeft', WHERE WHAT IT READS IS OF BULK AT MOST 1048576: true; the input reads as it did. -/
def fnExactCastsLeftUptoRow : OpenClaim := { program := "ytbbaphhkdhdelaa", sum := "982331e7db1d45902bf6e8f8beec9d49e7cec928d9e86ce77171cf796e46ff4f", func := "loop.example/g01054/laws.FnExactCastsLeft", spec := "fnExactCastsLeft", apart := false, narrowed := true }
def FnExactCastsLeftUptoSaid : Prop := fnExactCastsLeftUptoRow.holds Try.pinned (OpenSpec.upto fnExactCastsLeftSpec)

end Rows
end Go.Proofs.Ytbbaphhkdhdelaa
