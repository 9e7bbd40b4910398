/-
  No cell of these rows narrows 'for every input' (looked for: loops, veiled, ifaces, maps, wideKeys, modest, calm, conditions, laid).
  DERIVED. THE GIVEN ROWS OF THIS SEAT. 13 by the template 'for every input the law returns true; each argument reads behind the call as it read before'; 0 by the template 'total and deterministic' (their statements: YtbepgjknjopikaaTotals.lean).
  GIVEN WITH THE SEED: the statements are not yours to turn. If you find one false, say at which input.
  Laid BY PROGRAM, IN A SANDBOX (cutbox-rows.mjs): the forced cells as the released guide's own fill.sh prints them over the translation 1b68feae3eb121c9… (all of the seat's roots in one cut). By AI agents, Wed Nov 11 2026. No macro, syntax, notation, axiom, sorry.
-/
import Derived.Test.YtbepgjknjopikaaChecked
import GoSem.Claim
import GoSem.ClaimJoined
import GoSem.ClaimMapViews
import Derived.JoinedTies
import Derived.KernelRfl
namespace Go.Proofs.Ytbepgjknjopikaa
/- THE CELL 'sum', in the pinned program and in every row, IS THE sha256 OF THE DUMP (.gsa) THAT YtbepgjknjopikaaProg.lean LOADS. Nothing in Lean hashes anything: it is a label: what it is worth is what the hold of that sum in a sandbox is worth. -/
noncomputable def Try.pinned : Pinned := { name := "ytbepgjknjopikaa", sum := "1b68feae3eb121c99ffba7d554c12e9dab25bdcfa5ab8e7a8d41ad349c6a650d", checked := Try.checked }
namespace Rows
def none {H : Type} : Left H := { results := [], args := [] }

/-- 'laws.FnExactIsTrial': WHATEVER THE INPUT: true; the input reads as it did. -/
def fnExactIsTrialSpec : ChangeSpec := { name := "fnExactIsTrial", fn := fun _ => fun
  | [d] => { results := [.lit (.bool true)], args := [d] }
  | _ => none }
def fnExactIsTrialRow : OpenClaim := { program := "ytbepgjknjopikaa", sum := "1b68feae3eb121c99ffba7d554c12e9dab25bdcfa5ab8e7a8d41ad349c6a650d", func := "loop.example/g01054/laws.FnExactIsTrial", spec := "fnExactIsTrial", apart := false }
def FnExactIsTrialSaid : Prop := fnExactIsTrialRow.holds Try.pinned (OpenSpec.ofChange fnExactIsTrialSpec)

/-- ITS FALSE NEIGHBOUR: 'it returns false'. Refute it at one input. -/
def fnExactIsTrialWrong : ChangeSpec := { name := "fnExactIsTrial", fn := fun _ => fun
  | [d] => { results := [.lit (.bool false)], args := [d] }
  | _ => none }
def FnExactIsTrialWrongFalsely : Prop := fnExactIsTrialRow.holds Try.pinned (OpenSpec.ofChange fnExactIsTrialWrong)

/-- 'laws.FnExactMeanOff': WHATEVER THE INPUT: true; the input reads as it did. -/
def fnExactMeanOffSpec : ChangeSpec := { name := "fnExactMeanOff", fn := fun _ => fun
  | [d] => { results := [.lit (.bool true)], args := [d] }
  | _ => none }
def fnExactMeanOffRow : OpenClaim := { program := "ytbepgjknjopikaa", sum := "1b68feae3eb121c99ffba7d554c12e9dab25bdcfa5ab8e7a8d41ad349c6a650d", func := "loop.example/g01054/laws.FnExactMeanOff", spec := "fnExactMeanOff", apart := false }
def FnExactMeanOffSaid : Prop := fnExactMeanOffRow.holds Try.pinned (OpenSpec.ofChange fnExactMeanOffSpec)

/-- ITS FALSE NEIGHBOUR: 'it returns false'. Refute it at one input. -/
def fnExactMeanOffWrong : ChangeSpec := { name := "fnExactMeanOff", fn := fun _ => fun
  | [d] => { results := [.lit (.bool false)], args := [d] }
  | _ => none }
def FnExactMeanOffWrongFalsely : Prop := fnExactMeanOffRow.holds Try.pinned (OpenSpec.ofChange fnExactMeanOffWrong)

/-- 'laws.FnExactSpreadOff': WHATEVER THE INPUT: true; the input reads as it did. -/
def fnExactSpreadOffSpec : ChangeSpec := { name := "fnExactSpreadOff", fn := fun _ => fun
  | [d] => { results := [.lit (.bool true)], args := [d] }
  | _ => none }
def fnExactSpreadOffRow : OpenClaim := { program := "ytbepgjknjopikaa", sum := "1b68feae3eb121c99ffba7d554c12e9dab25bdcfa5ab8e7a8d41ad349c6a650d", func := "loop.example/g01054/laws.FnExactSpreadOff", spec := "fnExactSpreadOff", apart := false }
def FnExactSpreadOffSaid : Prop := fnExactSpreadOffRow.holds Try.pinned (OpenSpec.ofChange fnExactSpreadOffSpec)

/-- ITS FALSE NEIGHBOUR: 'it returns false'. Refute it at one input. -/
def fnExactSpreadOffWrong : ChangeSpec := { name := "fnExactSpreadOff", fn := fun _ => fun
  | [d] => { results := [.lit (.bool false)], args := [d] }
  | _ => none }
def FnExactSpreadOffWrongFalsely : Prop := fnExactSpreadOffRow.holds Try.pinned (OpenSpec.ofChange fnExactSpreadOffWrong)

/-- 'laws.FnExactMedianOff': WHATEVER THE INPUT: true; the input reads as it did. -/
def fnExactMedianOffSpec : ChangeSpec := { name := "fnExactMedianOff", fn := fun _ => fun
  | [d] => { results := [.lit (.bool true)], args := [d] }
  | _ => none }
def fnExactMedianOffRow : OpenClaim := { program := "ytbepgjknjopikaa", sum := "1b68feae3eb121c99ffba7d554c12e9dab25bdcfa5ab8e7a8d41ad349c6a650d", func := "loop.example/g01054/laws.FnExactMedianOff", spec := "fnExactMedianOff", unfollowed := true, recurses := true, apart := false }
def FnExactMedianOffSaid : Prop := fnExactMedianOffRow.holds Try.pinned (OpenSpec.ofChange fnExactMedianOffSpec)

/-- ITS FALSE NEIGHBOUR: 'it returns false'. Refute it at one input. -/
def fnExactMedianOffWrong : ChangeSpec := { name := "fnExactMedianOff", fn := fun _ => fun
  | [d] => { results := [.lit (.bool false)], args := [d] }
  | _ => none }
def FnExactMedianOffWrongFalsely : Prop := fnExactMedianOffRow.holds Try.pinned (OpenSpec.ofChange fnExactMedianOffWrong)

/-- 'laws.FnExactOutsideOff': WHATEVER THE INPUT: true; the input reads as it did. -/
def fnExactOutsideOffSpec : ChangeSpec := { name := "fnExactOutsideOff", fn := fun _ => fun
  | [d1, d2] => { results := [.lit (.bool true)], args := [d1, d2] }
  | _ => none }
def fnExactOutsideOffRow : OpenClaim := { program := "ytbepgjknjopikaa", sum := "1b68feae3eb121c99ffba7d554c12e9dab25bdcfa5ab8e7a8d41ad349c6a650d", func := "loop.example/g01054/laws.FnExactOutsideOff", spec := "fnExactOutsideOff", apart := false }
def FnExactOutsideOffSaid : Prop := fnExactOutsideOffRow.holds Try.pinned (OpenSpec.ofChange fnExactOutsideOffSpec)

/-- ITS FALSE NEIGHBOUR: 'it returns false'. Refute it at one input. -/
def fnExactOutsideOffWrong : ChangeSpec := { name := "fnExactOutsideOff", fn := fun _ => fun
  | [d1, d2] => { results := [.lit (.bool false)], args := [d1, d2] }
  | _ => none }
def FnExactOutsideOffWrongFalsely : Prop := fnExactOutsideOffRow.holds Try.pinned (OpenSpec.ofChange fnExactOutsideOffWrong)

/-- 'laws.FnExactIsAccepted': WHATEVER THE INPUT: true; the input reads as it did. -/
def fnExactIsAcceptedSpec : ChangeSpec := { name := "fnExactIsAccepted", fn := fun _ => fun
  | [d1, d2, d3] => { results := [.lit (.bool true)], args := [d1, d2, d3] }
  | _ => none }
def fnExactIsAcceptedRow : OpenClaim := { program := "ytbepgjknjopikaa", sum := "1b68feae3eb121c99ffba7d554c12e9dab25bdcfa5ab8e7a8d41ad349c6a650d", func := "loop.example/g01054/laws.FnExactIsAccepted", spec := "fnExactIsAccepted", apart := false }
def FnExactIsAcceptedSaid : Prop := fnExactIsAcceptedRow.holds Try.pinned (OpenSpec.ofChange fnExactIsAcceptedSpec)

/-- ITS FALSE NEIGHBOUR: 'it returns false'. Refute it at one input. -/
def fnExactIsAcceptedWrong : ChangeSpec := { name := "fnExactIsAccepted", fn := fun _ => fun
  | [d1, d2, d3] => { results := [.lit (.bool false)], args := [d1, d2, d3] }
  | _ => none }
def FnExactIsAcceptedWrongFalsely : Prop := fnExactIsAcceptedRow.holds Try.pinned (OpenSpec.ofChange fnExactIsAcceptedWrong)

/-- 'laws.FnExactLeastTolerance': WHATEVER THE INPUT: true; the input reads as it did. -/
def fnExactLeastToleranceSpec : ChangeSpec := { name := "fnExactLeastTolerance", fn := fun _ => fun
  | [d1, d2] => { results := [.lit (.bool true)], args := [d1, d2] }
  | _ => none }
def fnExactLeastToleranceRow : OpenClaim := { program := "ytbepgjknjopikaa", sum := "1b68feae3eb121c99ffba7d554c12e9dab25bdcfa5ab8e7a8d41ad349c6a650d", func := "loop.example/g01054/laws.FnExactLeastTolerance", spec := "fnExactLeastTolerance", unfollowed := true, recurses := true, apart := false }
def FnExactLeastToleranceSaid : Prop := fnExactLeastToleranceRow.holds Try.pinned (OpenSpec.ofChange fnExactLeastToleranceSpec)

/-- ITS FALSE NEIGHBOUR: 'it returns false'. Refute it at one input. -/
def fnExactLeastToleranceWrong : ChangeSpec := { name := "fnExactLeastTolerance", fn := fun _ => fun
  | [d1, d2] => { results := [.lit (.bool false)], args := [d1, d2] }
  | _ => none }
def FnExactLeastToleranceWrongFalsely : Prop := fnExactLeastToleranceRow.holds Try.pinned (OpenSpec.ofChange fnExactLeastToleranceWrong)

/-- 'laws.FnExactLongestDrift': WHATEVER THE INPUT: true; the input reads as it did. -/
def fnExactLongestDriftSpec : ChangeSpec := { name := "fnExactLongestDrift", fn := fun _ => fun
  | [d] => { results := [.lit (.bool true)], args := [d] }
  | _ => none }
def fnExactLongestDriftRow : OpenClaim := { program := "ytbepgjknjopikaa", sum := "1b68feae3eb121c99ffba7d554c12e9dab25bdcfa5ab8e7a8d41ad349c6a650d", func := "loop.example/g01054/laws.FnExactLongestDrift", spec := "fnExactLongestDrift", apart := false }
def FnExactLongestDriftSaid : Prop := fnExactLongestDriftRow.holds Try.pinned (OpenSpec.ofChange fnExactLongestDriftSpec)

/-- ITS FALSE NEIGHBOUR: 'it returns false'. Refute it at one input. -/
def fnExactLongestDriftWrong : ChangeSpec := { name := "fnExactLongestDrift", fn := fun _ => fun
  | [d] => { results := [.lit (.bool false)], args := [d] }
  | _ => none }
def FnExactLongestDriftWrongFalsely : Prop := fnExactLongestDriftRow.holds Try.pinned (OpenSpec.ofChange fnExactLongestDriftWrong)

/-- 'laws.FnExactSumsOff': WHATEVER THE INPUT: true; the input reads as it did. -/
def fnExactSumsOffSpec : ChangeSpec := { name := "fnExactSumsOff", fn := fun _ => fun
  | [d1, d2] => { results := [.lit (.bool true)], args := [d1, d2] }
  | _ => none }
def fnExactSumsOffRow : OpenClaim := { program := "ytbepgjknjopikaa", sum := "1b68feae3eb121c99ffba7d554c12e9dab25bdcfa5ab8e7a8d41ad349c6a650d", func := "loop.example/g01054/laws.FnExactSumsOff", spec := "fnExactSumsOff", apart := false }
def FnExactSumsOffSaid : Prop := fnExactSumsOffRow.holds Try.pinned (OpenSpec.ofChange fnExactSumsOffSpec)

/-- ITS FALSE NEIGHBOUR: 'it returns false'. Refute it at one input. -/
def fnExactSumsOffWrong : ChangeSpec := { name := "fnExactSumsOff", fn := fun _ => fun
  | [d1, d2] => { results := [.lit (.bool false)], args := [d1, d2] }
  | _ => none }
def FnExactSumsOffWrongFalsely : Prop := fnExactSumsOffRow.holds Try.pinned (OpenSpec.ofChange fnExactSumsOffWrong)

/-- 'laws.FnExactFirstAlarm': WHATEVER THE INPUT: true; the input reads as it did. -/
def fnExactFirstAlarmSpec : ChangeSpec := { name := "fnExactFirstAlarm", fn := fun _ => fun
  | [d1, d2, d3] => { results := [.lit (.bool true)], args := [d1, d2, d3] }
  | _ => none }
def fnExactFirstAlarmRow : OpenClaim := { program := "ytbepgjknjopikaa", sum := "1b68feae3eb121c99ffba7d554c12e9dab25bdcfa5ab8e7a8d41ad349c6a650d", func := "loop.example/g01054/laws.FnExactFirstAlarm", spec := "fnExactFirstAlarm", apart := false }
def FnExactFirstAlarmSaid : Prop := fnExactFirstAlarmRow.holds Try.pinned (OpenSpec.ofChange fnExactFirstAlarmSpec)

/-- ITS FALSE NEIGHBOUR: 'it returns false'. Refute it at one input. -/
def fnExactFirstAlarmWrong : ChangeSpec := { name := "fnExactFirstAlarm", fn := fun _ => fun
  | [d1, d2, d3] => { results := [.lit (.bool false)], args := [d1, d2, d3] }
  | _ => none }
def FnExactFirstAlarmWrongFalsely : Prop := fnExactFirstAlarmRow.holds Try.pinned (OpenSpec.ofChange fnExactFirstAlarmWrong)

/-- 'laws.FnExactWithoutOutside': WHATEVER THE INPUT: true; the input reads as it did. -/
def fnExactWithoutOutsideSpec : ChangeSpec := { name := "fnExactWithoutOutside", fn := fun _ => fun
  | [d1, d2] => { results := [.lit (.bool true)], args := [d1, d2] }
  | _ => none }
def fnExactWithoutOutsideRow : OpenClaim := { program := "ytbepgjknjopikaa", sum := "1b68feae3eb121c99ffba7d554c12e9dab25bdcfa5ab8e7a8d41ad349c6a650d", func := "loop.example/g01054/laws.FnExactWithoutOutside", spec := "fnExactWithoutOutside", apart := false }
def FnExactWithoutOutsideSaid : Prop := fnExactWithoutOutsideRow.holds Try.pinned (OpenSpec.ofChange fnExactWithoutOutsideSpec)

/-- ITS FALSE NEIGHBOUR: 'it returns false'. Refute it at one input. -/
def fnExactWithoutOutsideWrong : ChangeSpec := { name := "fnExactWithoutOutside", fn := fun _ => fun
  | [d1, d2] => { results := [.lit (.bool false)], args := [d1, d2] }
  | _ => none }
def FnExactWithoutOutsideWrongFalsely : Prop := fnExactWithoutOutsideRow.holds Try.pinned (OpenSpec.ofChange fnExactWithoutOutsideWrong)

/-- 'laws.FnExactCorrectionFor': WHATEVER THE INPUT: true; the input reads as it did. -/
def fnExactCorrectionForSpec : ChangeSpec := { name := "fnExactCorrectionFor", fn := fun _ => fun
  | [d] => { results := [.lit (.bool true)], args := [d] }
  | _ => none }
def fnExactCorrectionForRow : OpenClaim := { program := "ytbepgjknjopikaa", sum := "1b68feae3eb121c99ffba7d554c12e9dab25bdcfa5ab8e7a8d41ad349c6a650d", func := "loop.example/g01054/laws.FnExactCorrectionFor", spec := "fnExactCorrectionFor", unfollowed := true, recurses := true, apart := false }
def FnExactCorrectionForSaid : Prop := fnExactCorrectionForRow.holds Try.pinned (OpenSpec.ofChange fnExactCorrectionForSpec)

/-- ITS FALSE NEIGHBOUR: 'it returns false'. Refute it at one input. -/
def fnExactCorrectionForWrong : ChangeSpec := { name := "fnExactCorrectionFor", fn := fun _ => fun
  | [d] => { results := [.lit (.bool false)], args := [d] }
  | _ => none }
def FnExactCorrectionForWrongFalsely : Prop := fnExactCorrectionForRow.holds Try.pinned (OpenSpec.ofChange fnExactCorrectionForWrong)

/-- 'laws.FnExactJoinTrials': WHATEVER THE INPUT: true; the input reads as it did. -/
def fnExactJoinTrialsSpec : ChangeSpec := { name := "fnExactJoinTrials", fn := fun _ => fun
  | [d1, d2] => { results := [.lit (.bool true)], args := [d1, d2] }
  | _ => none }
def fnExactJoinTrialsRow : OpenClaim := { program := "ytbepgjknjopikaa", sum := "1b68feae3eb121c99ffba7d554c12e9dab25bdcfa5ab8e7a8d41ad349c6a650d", func := "loop.example/g01054/laws.FnExactJoinTrials", spec := "fnExactJoinTrials", apart := false }
def FnExactJoinTrialsSaid : Prop := fnExactJoinTrialsRow.holds Try.pinned (OpenSpec.ofChange fnExactJoinTrialsSpec)

/-- ITS FALSE NEIGHBOUR: 'it returns false'. Refute it at one input. -/
def fnExactJoinTrialsWrong : ChangeSpec := { name := "fnExactJoinTrials", fn := fun _ => fun
  | [d1, d2] => { results := [.lit (.bool false)], args := [d1, d2] }
  | _ => none }
def FnExactJoinTrialsWrongFalsely : Prop := fnExactJoinTrialsRow.holds Try.pinned (OpenSpec.ofChange fnExactJoinTrialsWrong)

/- THE SECOND FORM. 'bulk': how many values and letters a reading holds, each counted each time it is reached (what is shared counts as often as it is met; a slice's spare places count too). A statement '..UptoSaid' is the law's where the arguments, and the package variables that the reading takes, are together of bulk at most 1048576: NARROWER than '..Said'. Prove '..Said' where nothing that the law and all that it calls make is longer than what came in: it says more and counts as full. Else prove '..UptoSaid'. A law counts once. -/
mutual
def uptoBulk {H : Type} : DataW H → Nat
  | .lit (.string bytes) => bytes.length + 1
  | .lit _ => 1
  | .nil => 1
  | .ptr d => uptoBulk d + 1
  | .slice elems spare => uptoBulkAll elems + uptoBulkAll spare + 1
  | .agg parts => uptoBulkAll parts + 1
  | .iface _ d => uptoBulk d + 1
  | .map entries => uptoBulkEntries entries + 1
  | .held _ => 1
def uptoBulkAll {H : Type} : List (DataW H) → Nat
  | [] => 0
  | d :: r => uptoBulk d + uptoBulkAll r
def uptoBulkEntries {H : Type} : List (Lit × DataW H) → Nat
  | [] => 0
  | x :: r => uptoBulkEntry x + uptoBulkEntries r
def uptoBulkEntry {H : Type} : Lit × DataW H → Nat
  | (.string bytes, d) => bytes.length + uptoBulk d + 1
  | (_, d) => uptoBulk d + 1
 end
def uptoSmall : (H : Type) → List (DataW H) → Bool := fun _ ds => decide (uptoBulkAll ds ≤ 1048576)
def OpenSpec.upto (s : _root_.Go.ChangeSpec) : _root_.Go.OpenSpec := { _root_.Go.OpenSpec.ofChange s with cond := some uptoSmall }

/-- 'laws.FnExactIsTrial', WHERE WHAT IT READS IS OF BULK AT MOST 1048576: true; the input reads as it did. -/
def fnExactIsTrialUptoRow : OpenClaim := { program := "ytbepgjknjopikaa", sum := "1b68feae3eb121c99ffba7d554c12e9dab25bdcfa5ab8e7a8d41ad349c6a650d", func := "loop.example/g01054/laws.FnExactIsTrial", spec := "fnExactIsTrial", apart := false, narrowed := true }
def FnExactIsTrialUptoSaid : Prop := fnExactIsTrialUptoRow.holds Try.pinned (OpenSpec.upto fnExactIsTrialSpec)

/-- 'laws.FnExactMeanOff', WHERE WHAT IT READS IS OF BULK AT MOST 1048576: true; the input reads as it did. -/
def fnExactMeanOffUptoRow : OpenClaim := { program := "ytbepgjknjopikaa", sum := "1b68feae3eb121c99ffba7d554c12e9dab25bdcfa5ab8e7a8d41ad349c6a650d", func := "loop.example/g01054/laws.FnExactMeanOff", spec := "fnExactMeanOff", apart := false, narrowed := true }
def FnExactMeanOffUptoSaid : Prop := fnExactMeanOffUptoRow.holds Try.pinned (OpenSpec.upto fnExactMeanOffSpec)

/-- 'laws.FnExactSpreadOff', WHERE WHAT IT READS IS OF BULK AT MOST 1048576: true; the input reads as it did. -/
def fnExactSpreadOffUptoRow : OpenClaim := { program := "ytbepgjknjopikaa", sum := "1b68feae3eb121c99ffba7d554c12e9dab25bdcfa5ab8e7a8d41ad349c6a650d", func := "loop.example/g01054/laws.FnExactSpreadOff", spec := "fnExactSpreadOff", apart := false, narrowed := true }
def FnExactSpreadOffUptoSaid : Prop := fnExactSpreadOffUptoRow.holds Try.pinned (OpenSpec.upto fnExactSpreadOffSpec)

/-- 'laws.FnExactMedianOff', WHERE WHAT IT READS IS OF BULK AT MOST 1048576: true; the input reads as it did. -/
def fnExactMedianOffUptoRow : OpenClaim := { program := "ytbepgjknjopikaa", sum := "1b68feae3eb121c99ffba7d554c12e9dab25bdcfa5ab8e7a8d41ad349c6a650d", func := "loop.example/g01054/laws.FnExactMedianOff", spec := "fnExactMedianOff", unfollowed := true, recurses := true, apart := false, narrowed := true }
def FnExactMedianOffUptoSaid : Prop := fnExactMedianOffUptoRow.holds Try.pinned (OpenSpec.upto fnExactMedianOffSpec)

/-- 'laws.FnExactOutsideOff', WHERE WHAT IT READS IS OF BULK AT MOST 1048576: true; the input reads as it did. -/
def fnExactOutsideOffUptoRow : OpenClaim := { program := "ytbepgjknjopikaa", sum := "1b68feae3eb121c99ffba7d554c12e9dab25bdcfa5ab8e7a8d41ad349c6a650d", func := "loop.example/g01054/laws.FnExactOutsideOff", spec := "fnExactOutsideOff", apart := false, narrowed := true }
def FnExactOutsideOffUptoSaid : Prop := fnExactOutsideOffUptoRow.holds Try.pinned (OpenSpec.upto fnExactOutsideOffSpec)

/-- 'laws.FnExactIsAccepted', WHERE WHAT IT READS IS OF BULK AT MOST 1048576: true; the input reads as it did. -/
def fnExactIsAcceptedUptoRow : OpenClaim := { program := "ytbepgjknjopikaa", sum := "1b68feae3eb121c99ffba7d554c12e9dab25bdcfa5ab8e7a8d41ad349c6a650d", func := "loop.example/g01054/laws.FnExactIsAccepted", spec := "fnExactIsAccepted", apart := false, narrowed := true }
def FnExactIsAcceptedUptoSaid : Prop := fnExactIsAcceptedUptoRow.holds Try.pinned (OpenSpec.upto fnExactIsAcceptedSpec)

/-- 'laws.FnExactLeastTolerance', WHERE WHAT IT READS IS OF BULK AT MOST 1048576: true; the input reads as it did. -/
def fnExactLeastToleranceUptoRow : OpenClaim := { program := "ytbepgjknjopikaa", sum := "1b68feae3eb121c99ffba7d554c12e9dab25bdcfa5ab8e7a8d41ad349c6a650d", func := "loop.example/g01054/laws.FnExactLeastTolerance", spec := "fnExactLeastTolerance", unfollowed := true, recurses := true, apart := false, narrowed := true }
def FnExactLeastToleranceUptoSaid : Prop := fnExactLeastToleranceUptoRow.holds Try.pinned (OpenSpec.upto fnExactLeastToleranceSpec)

/-- 'laws.FnExactLongestDrift', WHERE WHAT IT READS IS OF BULK AT MOST 1048576: true; the input reads as it did. -/
def fnExactLongestDriftUptoRow : OpenClaim := { program := "ytbepgjknjopikaa", sum := "1b68feae3eb121c99ffba7d554c12e9dab25bdcfa5ab8e7a8d41ad349c6a650d", func := "loop.example/g01054/laws.FnExactLongestDrift", spec := "fnExactLongestDrift", apart := false, narrowed := true }
def FnExactLongestDriftUptoSaid : Prop := fnExactLongestDriftUptoRow.holds Try.pinned (OpenSpec.upto fnExactLongestDriftSpec)

/-- 'laws.FnExactSumsOff', WHERE WHAT IT READS IS OF BULK AT MOST 1048576: true; the input reads as it did. -/
def fnExactSumsOffUptoRow : OpenClaim := { program := "ytbepgjknjopikaa", sum := "1b68feae3eb121c99ffba7d554c12e9dab25bdcfa5ab8e7a8d41ad349c6a650d", func := "loop.example/g01054/laws.FnExactSumsOff", spec := "fnExactSumsOff", apart := false, narrowed := true }
def FnExactSumsOffUptoSaid : Prop := fnExactSumsOffUptoRow.holds Try.pinned (OpenSpec.upto fnExactSumsOffSpec)

/-- 'laws.FnExactFirstAlarm', WHERE WHAT IT READS IS OF BULK AT MOST 1048576: true; the input reads as it did. -/
def fnExactFirstAlarmUptoRow : OpenClaim := { program := "ytbepgjknjopikaa", sum := "1b68feae3eb121c99ffba7d554c12e9dab25bdcfa5ab8e7a8d41ad349c6a650d", func := "loop.example/g01054/laws.FnExactFirstAlarm", spec := "fnExactFirstAlarm", apart := false, narrowed := true }
def FnExactFirstAlarmUptoSaid : Prop := fnExactFirstAlarmUptoRow.holds Try.pinned (OpenSpec.upto fnExactFirstAlarmSpec)

/-- 'laws.FnExactWithoutOutside', WHERE WHAT IT READS IS OF BULK AT MOST 1048576: true; the input reads as it did. -/
def fnExactWithoutOutsideUptoRow : OpenClaim := { program := "ytbepgjknjopikaa", sum := "1b68feae3eb121c99ffba7d554c12e9dab25bdcfa5ab8e7a8d41ad349c6a650d", func := "loop.example/g01054/laws.FnExactWithoutOutside", spec := "fnExactWithoutOutside", apart := false, narrowed := true }
def FnExactWithoutOutsideUptoSaid : Prop := fnExactWithoutOutsideUptoRow.holds Try.pinned (OpenSpec.upto fnExactWithoutOutsideSpec)

/-- 'laws.FnExactCorrectionFor', WHERE WHAT IT READS IS OF BULK AT MOST 1048576: true; the input reads as it did. -/
def fnExactCorrectionForUptoRow : OpenClaim := { program := "ytbepgjknjopikaa", sum := "1b68feae3eb121c99ffba7d554c12e9dab25bdcfa5ab8e7a8d41ad349c6a650d", func := "loop.example/g01054/laws.FnExactCorrectionFor", spec := "fnExactCorrectionFor", unfollowed := true, recurses := true, apart := false, narrowed := true }
def FnExactCorrectionForUptoSaid : Prop := fnExactCorrectionForUptoRow.holds Try.pinned (OpenSpec.upto fnExactCorrectionForSpec)

/-- 'laws.FnExactJoinTrials', WHERE WHAT IT READS IS OF BULK AT MOST 1048576: true; the input reads as it did. -/
def fnExactJoinTrialsUptoRow : OpenClaim := { program := "ytbepgjknjopikaa", sum := "1b68feae3eb121c99ffba7d554c12e9dab25bdcfa5ab8e7a8d41ad349c6a650d", func := "loop.example/g01054/laws.FnExactJoinTrials", spec := "fnExactJoinTrials", apart := false, narrowed := true }
def FnExactJoinTrialsUptoSaid : Prop := fnExactJoinTrialsUptoRow.holds Try.pinned (OpenSpec.upto fnExactJoinTrialsSpec)

end Rows
end Go.Proofs.Ytbepgjknjopikaa
