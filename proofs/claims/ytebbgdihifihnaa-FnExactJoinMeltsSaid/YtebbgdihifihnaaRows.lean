/-
  No cell of these rows narrows 'for every input' (looked for: loops, veiled, ifaces, maps, wideKeys, modest, calm, conditions, laid).
  DERIVED. THE GIVEN ROWS OF THIS SEAT. 6 by the template 'for every input the law returns true; each argument reads behind the call as it read before'; 0 by the template 'total and deterministic' (their statements: YtebbgdihifihnaaTotals.lean).
  GIVEN WITH THE SEED: the statements are not yours to turn. If you find one false, say at which input.
  Laid BY PROGRAM, IN A SANDBOX (cutbox-rows.mjs): the forced cells as the released guide's own fill.sh prints them over the translation a53b6dba73e79511… (all of the seat's roots in one cut). By AI agents, Wed Nov 11 2026. No macro, syntax, notation, axiom, sorry.
-/
import Derived.Test.YtebbgdihifihnaaChecked
import GoSem.Claim
import GoSem.ClaimJoined
import GoSem.ClaimMapViews
import Derived.JoinedTies
import Derived.KernelRfl
namespace Go.Proofs.Ytebbgdihifihnaa
/- THE CELL 'sum', in the pinned program and in every row, IS THE sha256 OF THE DUMP (.gsa) THAT YtebbgdihifihnaaProg.lean LOADS. Nothing in Lean hashes anything: it is a label: what it is worth is what the hold of that sum in a sandbox is worth. -/
noncomputable def Try.pinned : Pinned := { name := "ytebbgdihifihnaa", sum := "a53b6dba73e79511e497757e6ca23f863e58aa7f3682029e73b226457a0d9299", checked := Try.checked }
namespace Rows
def none {H : Type} : Left H := { results := [], args := [] }

/-- 'laws.FnExactIsMelt': WHATEVER THE INPUT: true; the input reads as it did. -/
def fnExactIsMeltSpec : ChangeSpec := { name := "fnExactIsMelt", fn := fun _ => fun
  | [d] => { results := [.lit (.bool true)], args := [d] }
  | _ => none }
def fnExactIsMeltRow : OpenClaim := { program := "ytebbgdihifihnaa", sum := "a53b6dba73e79511e497757e6ca23f863e58aa7f3682029e73b226457a0d9299", func := "loop.example/g01054/laws.FnExactIsMelt", spec := "fnExactIsMelt", apart := false }
def FnExactIsMeltSaid : Prop := fnExactIsMeltRow.holds Try.pinned (OpenSpec.ofChange fnExactIsMeltSpec)

/-- ITS FALSE NEIGHBOUR: 'it returns false'. Refute it at one input. -/
def fnExactIsMeltWrong : ChangeSpec := { name := "fnExactIsMelt", fn := fun _ => fun
  | [d] => { results := [.lit (.bool false)], args := [d] }
  | _ => none }
def FnExactIsMeltWrongFalsely : Prop := fnExactIsMeltRow.holds Try.pinned (OpenSpec.ofChange fnExactIsMeltWrong)

/-- 'laws.FnExactGramsOf': WHATEVER THE INPUT: true; the input reads as it did. -/
def fnExactGramsOfSpec : ChangeSpec := { name := "fnExactGramsOf", fn := fun _ => fun
  | [d] => { results := [.lit (.bool true)], args := [d] }
  | _ => none }
def fnExactGramsOfRow : OpenClaim := { program := "ytebbgdihifihnaa", sum := "a53b6dba73e79511e497757e6ca23f863e58aa7f3682029e73b226457a0d9299", func := "loop.example/g01054/laws.FnExactGramsOf", spec := "fnExactGramsOf", apart := false }
def FnExactGramsOfSaid : Prop := fnExactGramsOfRow.holds Try.pinned (OpenSpec.ofChange fnExactGramsOfSpec)

/-- ITS FALSE NEIGHBOUR: 'it returns false'. Refute it at one input. -/
def fnExactGramsOfWrong : ChangeSpec := { name := "fnExactGramsOf", fn := fun _ => fun
  | [d] => { results := [.lit (.bool false)], args := [d] }
  | _ => none }
def FnExactGramsOfWrongFalsely : Prop := fnExactGramsOfRow.holds Try.pinned (OpenSpec.ofChange fnExactGramsOfWrong)

/-- 'laws.FnExactSharesOf': WHATEVER THE INPUT: true; the input reads as it did. -/
def fnExactSharesOfSpec : ChangeSpec := { name := "fnExactSharesOf", fn := fun _ => fun
  | [d] => { results := [.lit (.bool true)], args := [d] }
  | _ => none }
def fnExactSharesOfRow : OpenClaim := { program := "ytebbgdihifihnaa", sum := "a53b6dba73e79511e497757e6ca23f863e58aa7f3682029e73b226457a0d9299", func := "loop.example/g01054/laws.FnExactSharesOf", spec := "fnExactSharesOf", apart := false }
def FnExactSharesOfSaid : Prop := fnExactSharesOfRow.holds Try.pinned (OpenSpec.ofChange fnExactSharesOfSpec)

/-- ITS FALSE NEIGHBOUR: 'it returns false'. Refute it at one input. -/
def fnExactSharesOfWrong : ChangeSpec := { name := "fnExactSharesOf", fn := fun _ => fun
  | [d] => { results := [.lit (.bool false)], args := [d] }
  | _ => none }
def FnExactSharesOfWrongFalsely : Prop := fnExactSharesOfRow.holds Try.pinned (OpenSpec.ofChange fnExactSharesOfWrong)

/-- 'laws.FnExactJoinMelts': WHATEVER THE INPUT: true; the input reads as it did. -/
def fnExactJoinMeltsSpec : ChangeSpec := { name := "fnExactJoinMelts", fn := fun _ => fun
  | [d] => { results := [.lit (.bool true)], args := [d] }
  | _ => none }
def fnExactJoinMeltsRow : OpenClaim := { program := "ytebbgdihifihnaa", sum := "a53b6dba73e79511e497757e6ca23f863e58aa7f3682029e73b226457a0d9299", func := "loop.example/g01054/laws.FnExactJoinMelts", spec := "fnExactJoinMelts", apart := false }
def FnExactJoinMeltsSaid : Prop := fnExactJoinMeltsRow.holds Try.pinned (OpenSpec.ofChange fnExactJoinMeltsSpec)

/-- ITS FALSE NEIGHBOUR: 'it returns false'. Refute it at one input. -/
def fnExactJoinMeltsWrong : ChangeSpec := { name := "fnExactJoinMelts", fn := fun _ => fun
  | [d] => { results := [.lit (.bool false)], args := [d] }
  | _ => none }
def FnExactJoinMeltsWrongFalsely : Prop := fnExactJoinMeltsRow.holds Try.pinned (OpenSpec.ofChange fnExactJoinMeltsWrong)

/-- 'laws.FnExactAfterDross': WHATEVER THE INPUT: true; the input reads as it did. -/
def fnExactAfterDrossSpec : ChangeSpec := { name := "fnExactAfterDross", fn := fun _ => fun
  | [d1, d2] => { results := [.lit (.bool true)], args := [d1, d2] }
  | _ => none }
def fnExactAfterDrossRow : OpenClaim := { program := "ytebbgdihifihnaa", sum := "a53b6dba73e79511e497757e6ca23f863e58aa7f3682029e73b226457a0d9299", func := "loop.example/g01054/laws.FnExactAfterDross", spec := "fnExactAfterDross", apart := false }
def FnExactAfterDrossSaid : Prop := fnExactAfterDrossRow.holds Try.pinned (OpenSpec.ofChange fnExactAfterDrossSpec)

/-- ITS FALSE NEIGHBOUR: 'it returns false'. Refute it at one input. -/
def fnExactAfterDrossWrong : ChangeSpec := { name := "fnExactAfterDross", fn := fun _ => fun
  | [d1, d2] => { results := [.lit (.bool false)], args := [d1, d2] }
  | _ => none }
def FnExactAfterDrossWrongFalsely : Prop := fnExactAfterDrossRow.holds Try.pinned (OpenSpec.ofChange fnExactAfterDrossWrong)

/-- 'laws.FnExactDivideByWeights': WHATEVER THE INPUT: true; the input reads as it did. -/
def fnExactDivideByWeightsSpec : ChangeSpec := { name := "fnExactDivideByWeights", fn := fun _ => fun
  | [d1, d2] => { results := [.lit (.bool true)], args := [d1, d2] }
  | _ => none }
def fnExactDivideByWeightsRow : OpenClaim := { program := "ytebbgdihifihnaa", sum := "a53b6dba73e79511e497757e6ca23f863e58aa7f3682029e73b226457a0d9299", func := "loop.example/g01054/laws.FnExactDivideByWeights", spec := "fnExactDivideByWeights", unfollowed := true, recurses := true, apart := false }
def FnExactDivideByWeightsSaid : Prop := fnExactDivideByWeightsRow.holds Try.pinned (OpenSpec.ofChange fnExactDivideByWeightsSpec)

/-- ITS FALSE NEIGHBOUR: 'it returns false'. Refute it at one input. -/
def fnExactDivideByWeightsWrong : ChangeSpec := { name := "fnExactDivideByWeights", fn := fun _ => fun
  | [d1, d2] => { results := [.lit (.bool false)], args := [d1, d2] }
  | _ => none }
def FnExactDivideByWeightsWrongFalsely : Prop := fnExactDivideByWeightsRow.holds Try.pinned (OpenSpec.ofChange fnExactDivideByWeightsWrong)

/- THE SECOND FORM. 'bulk': how many values and letters a reading holds, each counted each time it is reached (what is shared counts as often as it is met; a slice's spare places count too). A statement '..UptoSaid' is the law's where the arguments, and the package variables that the reading takes, are together of bulk at most 1048576: NARROWER than '..Said'. Prove '..Said' where nothing that the law and all that it calls make is longer than what came in: it says more and counts as full. Else prove '..UptoSaid'. A law counts once. -/
mutual
def uptoBulk {H : Type} : DataW H → Nat
  | .lit (.string bytes) => bytes.length + 1
  | .lit _ => 1
  | .nil => 1
  | .ptr d => uptoBulk d + 1
  | .slice elems spare => uptoBulkAll elems + uptoBulkAll spare + 1
  | .agg parts => uptoBulkAll parts + 1
  | .iface _ d => uptoBulk d + 1
  | .map entries => uptoBulkEntries entries + 1
  | .held _ => 1
def uptoBulkAll {H : Type} : List (DataW H) → Nat
  | [] => 0
  | d :: r => uptoBulk d + uptoBulkAll r
def uptoBulkEntries {H : Type} : List (Lit × DataW H) → Nat
  | [] => 0
  | x :: r => uptoBulkEntry x + uptoBulkEntries r
def uptoBulkEntry {H : Type} : Lit × DataW H → Nat
  | (.string bytes, d) => bytes.length + uptoBulk d + 1
  | (_, d) => uptoBulk d + 1
 end
def uptoSmall : (H : Type) → List (DataW H) → Bool := fun _ ds => decide (uptoBulkAll ds ≤ 1048576)
def OpenSpec.upto (s : _root_.Go.ChangeSpec) : _root_.Go.OpenSpec := { _root_.Go.OpenSpec.ofChange s with cond := some uptoSmall }

/-- 'laws.FnExactIsMelt', WHERE WHAT IT READS IS OF BULK AT MOST 1048576: true; the input reads as it did. -/
def fnExactIsMeltUptoRow : OpenClaim := { program := "ytebbgdihifihnaa", sum := "a53b6dba73e79511e497757e6ca23f863e58aa7f3682029e73b226457a0d9299", func := "loop.example/g01054/laws.FnExactIsMelt", spec := "fnExactIsMelt", apart := false, narrowed := true }
def FnExactIsMeltUptoSaid : Prop := fnExactIsMeltUptoRow.holds Try.pinned (OpenSpec.upto fnExactIsMeltSpec)

/-- 'laws.FnExactGramsOf', WHERE WHAT IT READS IS OF BULK AT MOST 1048576: true; the input reads as it did. -/
def fnExactGramsOfUptoRow : OpenClaim := { program := "ytebbgdihifihnaa", sum := "a53b6dba73e79511e497757e6ca23f863e58aa7f3682029e73b226457a0d9299", func := "loop.example/g01054/laws.FnExactGramsOf", spec := "fnExactGramsOf", apart := false, narrowed := true }
def FnExactGramsOfUptoSaid : Prop := fnExactGramsOfUptoRow.holds Try.pinned (OpenSpec.upto fnExactGramsOfSpec)

/-- 'laws.FnExactSharesOf', WHERE WHAT IT READS IS OF BULK AT MOST 1048576: true; the input reads as it did. -/
def fnExactSharesOfUptoRow : OpenClaim := { program := "ytebbgdihifihnaa", sum := "a53b6dba73e79511e497757e6ca23f863e58aa7f3682029e73b226457a0d9299", func := "loop.example/g01054/laws.FnExactSharesOf", spec := "fnExactSharesOf", apart := false, narrowed := true }
def FnExactSharesOfUptoSaid : Prop := fnExactSharesOfUptoRow.holds Try.pinned (OpenSpec.upto fnExactSharesOfSpec)

/-- 'laws.FnExactJoinMelts', WHERE WHAT IT READS IS OF BULK AT MOST 1048576: true; the input reads as it did. -/
def fnExactJoinMeltsUptoRow : OpenClaim := { program := "ytebbgdihifihnaa", sum := "a53b6dba73e79511e497757e6ca23f863e58aa7f3682029e73b226457a0d9299", func := "loop.example/g01054/laws.FnExactJoinMelts", spec := "fnExactJoinMelts", apart := false, narrowed := true }
def FnExactJoinMeltsUptoSaid : Prop := fnExactJoinMeltsUptoRow.holds Try.pinned (OpenSpec.upto fnExactJoinMeltsSpec)

/-- 'laws.FnExactAfterDross', WHERE WHAT IT READS IS OF BULK AT MOST 1048576: true; the input reads as it did. -/
def fnExactAfterDrossUptoRow : OpenClaim := { program := "ytebbgdihifihnaa", sum := "a53b6dba73e79511e497757e6ca23f863e58aa7f3682029e73b226457a0d9299", func := "loop.example/g01054/laws.FnExactAfterDross", spec := "fnExactAfterDross", apart := false, narrowed := true }
def FnExactAfterDrossUptoSaid : Prop := fnExactAfterDrossUptoRow.holds Try.pinned (OpenSpec.upto fnExactAfterDrossSpec)

/-- 'laws.FnExactDivideByWeights', WHERE WHAT IT READS IS OF BULK AT MOST 1048576: true; the input reads as it did. -/
def fnExactDivideByWeightsUptoRow : OpenClaim := { program := "ytebbgdihifihnaa", sum := "a53b6dba73e79511e497757e6ca23f863e58aa7f3682029e73b226457a0d9299", func := "loop.example/g01054/laws.FnExactDivideByWeights", spec := "fnExactDivideByWeights", unfollowed := true, recurses := true, apart := false, narrowed := true }
def FnExactDivideByWeightsUptoSaid : Prop := fnExactDivideByWeightsUptoRow.holds Try.pinned (OpenSpec.upto fnExactDivideByWeightsSpec)

end Rows
end Go.Proofs.Ytebbgdihifihnaa
