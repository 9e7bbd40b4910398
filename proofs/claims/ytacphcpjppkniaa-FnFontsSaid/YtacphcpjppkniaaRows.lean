/-
  No cell of these rows narrows 'for every input' (looked for: loops, veiled, ifaces, maps, wideKeys, modest, calm, conditions, laid).
  DERIVED. THE GIVEN ROWS OF THIS SEAT. 11 by the template 'for every input the law returns true; each argument reads behind the call as it read before'; 0 by the template 'total and deterministic' (their statements: YtacphcpjppkniaaTotals.lean).
  GIVEN WITH THE SEED: the statements are not yours to turn. If you find one false, say at which input.
  Laid BY PROGRAM, IN A SANDBOX (cutbox-rows.mjs): the forced cells as the released guide's own fill.sh prints them over the translation f3575e32d589584e… (all of the seat's roots in one cut). By AI agents, Wed Nov 11 2026. No macro, syntax, notation, axiom, sorry.
-/
import Derived.Test.YtacphcpjppkniaaChecked
import GoSem.Claim
import GoSem.ClaimJoined
import GoSem.ClaimMapViews
import Derived.JoinedTies
import Derived.KernelRfl
namespace Go.Proofs.Ytacphcpjppkniaa
/- THE CELL 'sum', in the pinned program and in every row, IS THE sha256 OF THE DUMP (.gsa) THAT YtacphcpjppkniaaProg.lean LOADS. Nothing in Lean hashes anything: it is a label: what it is worth is what the hold of that sum in a sandbox is worth. -/
noncomputable def Try.pinned : Pinned := { name := "ytacphcpjppkniaa", sum := "f3575e32d589584e19da5ba2b7d120e5bb2a40e6a6a7992b7b5e24b4fb34a2aa", checked := Try.checked }
namespace Rows
def none {H : Type} : Left H := { results := [], args := [] }

/-- 'laws.FnFonts': WHATEVER THE INPUT: true; the input reads as it did. -/
def fnFontsSpec : ChangeSpec := { name := "fnFonts", fn := fun _ => fun
  | [d1, d2] => { results := [.lit (.bool true)], args := [d1, d2] }
  | _ => none }
def fnFontsRow : OpenClaim := { program := "ytacphcpjppkniaa", sum := "f3575e32d589584e19da5ba2b7d120e5bb2a40e6a6a7992b7b5e24b4fb34a2aa", func := "loop.example/g01054/laws.FnFonts", spec := "fnFonts", inPlace := ["internal/bytealg.abigen_runtime_cmpstring"], unfollowed := true, recurses := true, apart := false }
def FnFontsSaid : Prop := fnFontsRow.holds Try.pinned (OpenSpec.ofChange fnFontsSpec)

/-- ITS FALSE NEIGHBOUR: 'it returns false'. Refute it at one input. -/
def fnFontsWrong : ChangeSpec := { name := "fnFonts", fn := fun _ => fun
  | [d1, d2] => { results := [.lit (.bool false)], args := [d1, d2] }
  | _ => none }
def FnFontsWrongFalsely : Prop := fnFontsRow.holds Try.pinned (OpenSpec.ofChange fnFontsWrong)

/-- 'laws.FnExactIsSort': WHATEVER THE INPUT: true; the input reads as it did. -/
def fnExactIsSortSpec : ChangeSpec := { name := "fnExactIsSort", fn := fun _ => fun
  | [d] => { results := [.lit (.bool true)], args := [d] }
  | _ => none }
def fnExactIsSortRow : OpenClaim := { program := "ytacphcpjppkniaa", sum := "f3575e32d589584e19da5ba2b7d120e5bb2a40e6a6a7992b7b5e24b4fb34a2aa", func := "loop.example/g01054/laws.FnExactIsSort", spec := "fnExactIsSort", apart := false }
def FnExactIsSortSaid : Prop := fnExactIsSortRow.holds Try.pinned (OpenSpec.ofChange fnExactIsSortSpec)

/-- ITS FALSE NEIGHBOUR: 'it returns false'. Refute it at one input. -/
def fnExactIsSortWrong : ChangeSpec := { name := "fnExactIsSort", fn := fun _ => fun
  | [d] => { results := [.lit (.bool false)], args := [d] }
  | _ => none }
def FnExactIsSortWrongFalsely : Prop := fnExactIsSortRow.holds Try.pinned (OpenSpec.ofChange fnExactIsSortWrong)

/-- 'laws.FnExactIsFont': WHATEVER THE INPUT: true; the input reads as it did. -/
def fnExactIsFontSpec : ChangeSpec := { name := "fnExactIsFont", fn := fun _ => fun
  | [d] => { results := [.lit (.bool true)], args := [d] }
  | _ => none }
def fnExactIsFontRow : OpenClaim := { program := "ytacphcpjppkniaa", sum := "f3575e32d589584e19da5ba2b7d120e5bb2a40e6a6a7992b7b5e24b4fb34a2aa", func := "loop.example/g01054/laws.FnExactIsFont", spec := "fnExactIsFont", apart := false }
def FnExactIsFontSaid : Prop := fnExactIsFontRow.holds Try.pinned (OpenSpec.ofChange fnExactIsFontSpec)

/-- ITS FALSE NEIGHBOUR: 'it returns false'. Refute it at one input. -/
def fnExactIsFontWrong : ChangeSpec := { name := "fnExactIsFont", fn := fun _ => fun
  | [d] => { results := [.lit (.bool false)], args := [d] }
  | _ => none }
def FnExactIsFontWrongFalsely : Prop := fnExactIsFontRow.holds Try.pinned (OpenSpec.ofChange fnExactIsFontWrong)

/-- 'laws.FnExactSetOfCode': WHATEVER THE INPUT: true; the input reads as it did. -/
def fnExactSetOfCodeSpec : ChangeSpec := { name := "fnExactSetOfCode", fn := fun _ => fun
  | [d1, d2] => { results := [.lit (.bool true)], args := [d1, d2] }
  | _ => none }
def fnExactSetOfCodeRow : OpenClaim := { program := "ytacphcpjppkniaa", sum := "f3575e32d589584e19da5ba2b7d120e5bb2a40e6a6a7992b7b5e24b4fb34a2aa", func := "loop.example/g01054/laws.FnExactSetOfCode", spec := "fnExactSetOfCode", inPlace := ["internal/bytealg.abigen_runtime_cmpstring"], unfollowed := true, recurses := true, apart := false }
def FnExactSetOfCodeSaid : Prop := fnExactSetOfCodeRow.holds Try.pinned (OpenSpec.ofChange fnExactSetOfCodeSpec)

/-- ITS FALSE NEIGHBOUR: 'it returns false'. Refute it at one input. -/
def fnExactSetOfCodeWrong : ChangeSpec := { name := "fnExactSetOfCode", fn := fun _ => fun
  | [d1, d2] => { results := [.lit (.bool false)], args := [d1, d2] }
  | _ => none }
def FnExactSetOfCodeWrongFalsely : Prop := fnExactSetOfCodeRow.holds Try.pinned (OpenSpec.ofChange fnExactSetOfCodeWrong)

/-- 'laws.FnExactSortsOfWord': WHATEVER THE INPUT: true; the input reads as it did. -/
def fnExactSortsOfWordSpec : ChangeSpec := { name := "fnExactSortsOfWord", fn := fun _ => fun
  | [d1, d2] => { results := [.lit (.bool true)], args := [d1, d2] }
  | _ => none }
def fnExactSortsOfWordRow : OpenClaim := { program := "ytacphcpjppkniaa", sum := "f3575e32d589584e19da5ba2b7d120e5bb2a40e6a6a7992b7b5e24b4fb34a2aa", func := "loop.example/g01054/laws.FnExactSortsOfWord", spec := "fnExactSortsOfWord", apart := false }
def FnExactSortsOfWordSaid : Prop := fnExactSortsOfWordRow.holds Try.pinned (OpenSpec.ofChange fnExactSortsOfWordSpec)

/-- ITS FALSE NEIGHBOUR: 'it returns false'. Refute it at one input. -/
def fnExactSortsOfWordWrong : ChangeSpec := { name := "fnExactSortsOfWord", fn := fun _ => fun
  | [d1, d2] => { results := [.lit (.bool false)], args := [d1, d2] }
  | _ => none }
def FnExactSortsOfWordWrongFalsely : Prop := fnExactSortsOfWordRow.holds Try.pinned (OpenSpec.ofChange fnExactSortsOfWordWrong)

/-- 'laws.FnExactWidthOfWord': WHATEVER THE INPUT: true; the input reads as it did. -/
def fnExactWidthOfWordSpec : ChangeSpec := { name := "fnExactWidthOfWord", fn := fun _ => fun
  | [d1, d2] => { results := [.lit (.bool true)], args := [d1, d2] }
  | _ => none }
def fnExactWidthOfWordRow : OpenClaim := { program := "ytacphcpjppkniaa", sum := "f3575e32d589584e19da5ba2b7d120e5bb2a40e6a6a7992b7b5e24b4fb34a2aa", func := "loop.example/g01054/laws.FnExactWidthOfWord", spec := "fnExactWidthOfWord", apart := false }
def FnExactWidthOfWordSaid : Prop := fnExactWidthOfWordRow.holds Try.pinned (OpenSpec.ofChange fnExactWidthOfWordSpec)

/-- ITS FALSE NEIGHBOUR: 'it returns false'. Refute it at one input. -/
def fnExactWidthOfWordWrong : ChangeSpec := { name := "fnExactWidthOfWord", fn := fun _ => fun
  | [d1, d2] => { results := [.lit (.bool false)], args := [d1, d2] }
  | _ => none }
def FnExactWidthOfWordWrongFalsely : Prop := fnExactWidthOfWordRow.holds Try.pinned (OpenSpec.ofChange fnExactWidthOfWordWrong)

/-- 'laws.FnExactNarrowestWay': WHATEVER THE INPUT: true; the input reads as it did. -/
def fnExactNarrowestWaySpec : ChangeSpec := { name := "fnExactNarrowestWay", fn := fun _ => fun
  | [d1, d2] => { results := [.lit (.bool true)], args := [d1, d2] }
  | _ => none }
def fnExactNarrowestWayRow : OpenClaim := { program := "ytacphcpjppkniaa", sum := "f3575e32d589584e19da5ba2b7d120e5bb2a40e6a6a7992b7b5e24b4fb34a2aa", func := "loop.example/g01054/laws.FnExactNarrowestWay", spec := "fnExactNarrowestWay", apart := false }
def FnExactNarrowestWaySaid : Prop := fnExactNarrowestWayRow.holds Try.pinned (OpenSpec.ofChange fnExactNarrowestWaySpec)

/-- ITS FALSE NEIGHBOUR: 'it returns false'. Refute it at one input. -/
def fnExactNarrowestWayWrong : ChangeSpec := { name := "fnExactNarrowestWay", fn := fun _ => fun
  | [d1, d2] => { results := [.lit (.bool false)], args := [d1, d2] }
  | _ => none }
def FnExactNarrowestWayWrongFalsely : Prop := fnExactNarrowestWayRow.holds Try.pinned (OpenSpec.ofChange fnExactNarrowestWayWrong)

/-- 'laws.FnExactLigaturesIn': WHATEVER THE INPUT: true; the input reads as it did. -/
def fnExactLigaturesInSpec : ChangeSpec := { name := "fnExactLigaturesIn", fn := fun _ => fun
  | [d1, d2] => { results := [.lit (.bool true)], args := [d1, d2] }
  | _ => none }
def fnExactLigaturesInRow : OpenClaim := { program := "ytacphcpjppkniaa", sum := "f3575e32d589584e19da5ba2b7d120e5bb2a40e6a6a7992b7b5e24b4fb34a2aa", func := "loop.example/g01054/laws.FnExactLigaturesIn", spec := "fnExactLigaturesIn", apart := false }
def FnExactLigaturesInSaid : Prop := fnExactLigaturesInRow.holds Try.pinned (OpenSpec.ofChange fnExactLigaturesInSpec)

/-- ITS FALSE NEIGHBOUR: 'it returns false'. Refute it at one input. -/
def fnExactLigaturesInWrong : ChangeSpec := { name := "fnExactLigaturesIn", fn := fun _ => fun
  | [d1, d2] => { results := [.lit (.bool false)], args := [d1, d2] }
  | _ => none }
def FnExactLigaturesInWrongFalsely : Prop := fnExactLigaturesInRow.holds Try.pinned (OpenSpec.ofChange fnExactLigaturesInWrong)

/-- 'laws.FnExactMissingLetters': WHATEVER THE INPUT: true; the input reads as it did. -/
def fnExactMissingLettersSpec : ChangeSpec := { name := "fnExactMissingLetters", fn := fun _ => fun
  | [d1, d2] => { results := [.lit (.bool true)], args := [d1, d2] }
  | _ => none }
def fnExactMissingLettersRow : OpenClaim := { program := "ytacphcpjppkniaa", sum := "f3575e32d589584e19da5ba2b7d120e5bb2a40e6a6a7992b7b5e24b4fb34a2aa", func := "loop.example/g01054/laws.FnExactMissingLetters", spec := "fnExactMissingLetters", apart := false }
def FnExactMissingLettersSaid : Prop := fnExactMissingLettersRow.holds Try.pinned (OpenSpec.ofChange fnExactMissingLettersSpec)

/-- ITS FALSE NEIGHBOUR: 'it returns false'. Refute it at one input. -/
def fnExactMissingLettersWrong : ChangeSpec := { name := "fnExactMissingLetters", fn := fun _ => fun
  | [d1, d2] => { results := [.lit (.bool false)], args := [d1, d2] }
  | _ => none }
def FnExactMissingLettersWrongFalsely : Prop := fnExactMissingLettersRow.holds Try.pinned (OpenSpec.ofChange fnExactMissingLettersWrong)

/-- 'laws.FnExactWithSort': WHATEVER THE INPUT: true; the input reads as it did. -/
def fnExactWithSortSpec : ChangeSpec := { name := "fnExactWithSort", fn := fun _ => fun
  | [d1, d2] => { results := [.lit (.bool true)], args := [d1, d2] }
  | _ => none }
def fnExactWithSortRow : OpenClaim := { program := "ytacphcpjppkniaa", sum := "f3575e32d589584e19da5ba2b7d120e5bb2a40e6a6a7992b7b5e24b4fb34a2aa", func := "loop.example/g01054/laws.FnExactWithSort", spec := "fnExactWithSort", inPlace := ["internal/bytealg.abigen_runtime_cmpstring"], unfollowed := true, recurses := true, apart := false }
def FnExactWithSortSaid : Prop := fnExactWithSortRow.holds Try.pinned (OpenSpec.ofChange fnExactWithSortSpec)

/-- ITS FALSE NEIGHBOUR: 'it returns false'. Refute it at one input. -/
def fnExactWithSortWrong : ChangeSpec := { name := "fnExactWithSort", fn := fun _ => fun
  | [d1, d2] => { results := [.lit (.bool false)], args := [d1, d2] }
  | _ => none }
def FnExactWithSortWrongFalsely : Prop := fnExactWithSortRow.holds Try.pinned (OpenSpec.ofChange fnExactWithSortWrong)

/-- 'laws.FnExactWithoutSort': WHATEVER THE INPUT: true; the input reads as it did. -/
def fnExactWithoutSortSpec : ChangeSpec := { name := "fnExactWithoutSort", fn := fun _ => fun
  | [d1, d2] => { results := [.lit (.bool true)], args := [d1, d2] }
  | _ => none }
def fnExactWithoutSortRow : OpenClaim := { program := "ytacphcpjppkniaa", sum := "f3575e32d589584e19da5ba2b7d120e5bb2a40e6a6a7992b7b5e24b4fb34a2aa", func := "loop.example/g01054/laws.FnExactWithoutSort", spec := "fnExactWithoutSort", inPlace := ["internal/bytealg.abigen_runtime_cmpstring"], unfollowed := true, recurses := true, apart := false }
def FnExactWithoutSortSaid : Prop := fnExactWithoutSortRow.holds Try.pinned (OpenSpec.ofChange fnExactWithoutSortSpec)

/-- ITS FALSE NEIGHBOUR: 'it returns false'. Refute it at one input. -/
def fnExactWithoutSortWrong : ChangeSpec := { name := "fnExactWithoutSort", fn := fun _ => fun
  | [d1, d2] => { results := [.lit (.bool false)], args := [d1, d2] }
  | _ => none }
def FnExactWithoutSortWrongFalsely : Prop := fnExactWithoutSortRow.holds Try.pinned (OpenSpec.ofChange fnExactWithoutSortWrong)

/- THE SECOND FORM. 'bulk': how many values and letters a reading holds, each counted each time it is reached (what is shared counts as often as it is met; a slice's spare places count too). A statement '..UptoSaid' is the law's where the arguments, and the package variables that the reading takes, are together of bulk at most 1048576: NARROWER than '..Said'. Prove '..Said' where nothing that the law and all that it calls make is longer than what came in: it says more and counts as full. Else prove '..UptoSaid'. A law counts once. -/
mutual
def uptoBulk {H : Type} : DataW H → Nat
  | .lit (.string bytes) => bytes.length + 1
  | .lit _ => 1
  | .nil => 1
  | .ptr d => uptoBulk d + 1
  | .slice elems spare => uptoBulkAll elems + uptoBulkAll spare + 1
  | .agg parts => uptoBulkAll parts + 1
  | .iface _ d => uptoBulk d + 1
  | .map entries => uptoBulkEntries entries + 1
  | .held _ => 1
def uptoBulkAll {H : Type} : List (DataW H) → Nat
  | [] => 0
  | d :: r => uptoBulk d + uptoBulkAll r
def uptoBulkEntries {H : Type} : List (Lit × DataW H) → Nat
  | [] => 0
  | x :: r => uptoBulkEntry x + uptoBulkEntries r
def uptoBulkEntry {H : Type} : Lit × DataW H → Nat
  | (.string bytes, d) => bytes.length + uptoBulk d + 1
  | (_, d) => uptoBulk d + 1
 end
def uptoSmall : (H : Type) → List (DataW H) → Bool := fun _ ds => decide (uptoBulkAll ds ≤ 1048576)
def OpenSpec.upto (s : _root_.Go.ChangeSpec) : _root_.Go.OpenSpec := { _root_.Go.OpenSpec.ofChange s with cond := some uptoSmall }

/-- 'laws.FnFonts', WHERE WHAT IT READS IS OF BULK AT MOST 1048576: true; the input reads as it did. -/
def fnFontsUptoRow : OpenClaim := { program := "ytacphcpjppkniaa", sum := "f3575e32d589584e19da5ba2b7d120e5bb2a40e6a6a7992b7b5e24b4fb34a2aa", func := "loop.example/g01054/laws.FnFonts", spec := "fnFonts", inPlace := ["internal/bytealg.abigen_runtime_cmpstring"], unfollowed := true, recurses := true, apart := false, narrowed := true }
def FnFontsUptoSaid : Prop := fnFontsUptoRow.holds Try.pinned (OpenSpec.upto fnFontsSpec)

/-- 'laws.FnExactIsSort', WHERE WHAT IT READS IS OF BULK AT MOST 1048576: true; the input reads as it did. -/
def fnExactIsSortUptoRow : OpenClaim := { program := "ytacphcpjppkniaa", sum := "f3575e32d589584e19da5ba2b7d120e5bb2a40e6a6a7992b7b5e24b4fb34a2aa", func := "loop.example/g01054/laws.FnExactIsSort", spec := "fnExactIsSort", apart := false, narrowed := true }
def FnExactIsSortUptoSaid : Prop := fnExactIsSortUptoRow.holds Try.pinned (OpenSpec.upto fnExactIsSortSpec)

/-- 'laws.FnExactIsFont', WHERE WHAT IT READS IS OF BULK AT MOST 1048576: true; the input reads as it did. -/
def fnExactIsFontUptoRow : OpenClaim := { program := "ytacphcpjppkniaa", sum := "f3575e32d589584e19da5ba2b7d120e5bb2a40e6a6a7992b7b5e24b4fb34a2aa", func := "loop.example/g01054/laws.FnExactIsFont", spec := "fnExactIsFont", apart := false, narrowed := true }
def FnExactIsFontUptoSaid : Prop := fnExactIsFontUptoRow.holds Try.pinned (OpenSpec.upto fnExactIsFontSpec)

/-- 'laws.FnExactSetOfCode', WHERE WHAT IT READS IS OF BULK AT MOST 1048576: true; the input reads as it did. -/
def fnExactSetOfCodeUptoRow : OpenClaim := { program := "ytacphcpjppkniaa", sum := "f3575e32d589584e19da5ba2b7d120e5bb2a40e6a6a7992b7b5e24b4fb34a2aa", func := "loop.example/g01054/laws.FnExactSetOfCode", spec := "fnExactSetOfCode", inPlace := ["internal/bytealg.abigen_runtime_cmpstring"], unfollowed := true, recurses := true, apart := false, narrowed := true }
def FnExactSetOfCodeUptoSaid : Prop := fnExactSetOfCodeUptoRow.holds Try.pinned (OpenSpec.upto fnExactSetOfCodeSpec)

/-- 'laws.FnExactSortsOfWord', WHERE WHAT IT READS IS OF BULK AT MOST 1048576: true; the input reads as it did. -/
def fnExactSortsOfWordUptoRow : OpenClaim := { program := "ytacphcpjppkniaa", sum := "f3575e32d589584e19da5ba2b7d120e5bb2a40e6a6a7992b7b5e24b4fb34a2aa", func := "loop.example/g01054/laws.FnExactSortsOfWord", spec := "fnExactSortsOfWord", apart := false, narrowed := true }
def FnExactSortsOfWordUptoSaid : Prop := fnExactSortsOfWordUptoRow.holds Try.pinned (OpenSpec.upto fnExactSortsOfWordSpec)

/-- 'laws.FnExactWidthOfWord', WHERE WHAT IT READS IS OF BULK AT MOST 1048576: true; the input reads as it did. -/
def fnExactWidthOfWordUptoRow : OpenClaim := { program := "ytacphcpjppkniaa", sum := "f3575e32d589584e19da5ba2b7d120e5bb2a40e6a6a7992b7b5e24b4fb34a2aa", func := "loop.example/g01054/laws.FnExactWidthOfWord", spec := "fnExactWidthOfWord", apart := false, narrowed := true }
def FnExactWidthOfWordUptoSaid : Prop := fnExactWidthOfWordUptoRow.holds Try.pinned (OpenSpec.upto fnExactWidthOfWordSpec)

/-- 'laws.FnExactNarrowestWay', WHERE WHAT IT READS IS OF BULK AT MOST 1048576: true; the input reads as it did. -/
def fnExactNarrowestWayUptoRow : OpenClaim := { program := "ytacphcpjppkniaa", sum := "f3575e32d589584e19da5ba2b7d120e5bb2a40e6a6a7992b7b5e24b4fb34a2aa", func := "loop.example/g01054/laws.FnExactNarrowestWay", spec := "fnExactNarrowestWay", apart := false, narrowed := true }
def FnExactNarrowestWayUptoSaid : Prop := fnExactNarrowestWayUptoRow.holds Try.pinned (OpenSpec.upto fnExactNarrowestWaySpec)

/-- 'laws.FnExactLigaturesIn', WHERE WHAT IT READS IS OF BULK AT MOST 1048576: true; the input reads as it did. -/
def fnExactLigaturesInUptoRow : OpenClaim := { program := "ytacphcpjppkniaa", sum := "f3575e32d589584e19da5ba2b7d120e5bb2a40e6a6a7992b7b5e24b4fb34a2aa", func := "loop.example/g01054/laws.FnExactLigaturesIn", spec := "fnExactLigaturesIn", apart := false, narrowed := true }
def FnExactLigaturesInUptoSaid : Prop := fnExactLigaturesInUptoRow.holds Try.pinned (OpenSpec.upto fnExactLigaturesInSpec)

/-- 'laws.FnExactMissingLetters', WHERE WHAT IT READS IS OF BULK AT MOST 1048576: true; the input reads as it did. -/
def fnExactMissingLettersUptoRow : OpenClaim := { program := "ytacphcpjppkniaa", sum := "f3575e32d589584e19da5ba2b7d120e5bb2a40e6a6a7992b7b5e24b4fb34a2aa", func := "loop.example/g01054/laws.FnExactMissingLetters", spec := "fnExactMissingLetters", apart := false, narrowed := true }
def FnExactMissingLettersUptoSaid : Prop := fnExactMissingLettersUptoRow.holds Try.pinned (OpenSpec.upto fnExactMissingLettersSpec)

/-- 'laws.FnExactWithSort', WHERE WHAT IT READS IS OF BULK AT MOST 1048576: true; the input reads as it did. -/
def fnExactWithSortUptoRow : OpenClaim := { program := "ytacphcpjppkniaa", sum := "f3575e32d589584e19da5ba2b7d120e5bb2a40e6a6a7992b7b5e24b4fb34a2aa", func := "loop.example/g01054/laws.FnExactWithSort", spec := "fnExactWithSort", inPlace := ["internal/bytealg.abigen_runtime_cmpstring"], unfollowed := true, recurses := true, apart := false, narrowed := true }
def FnExactWithSortUptoSaid : Prop := fnExactWithSortUptoRow.holds Try.pinned (OpenSpec.upto fnExactWithSortSpec)

/-- 'laws.FnExactWithoutSort', WHERE WHAT IT READS IS OF BULK AT MOST 1048576: true; the input reads as it did. -/
def fnExactWithoutSortUptoRow : OpenClaim := { program := "ytacphcpjppkniaa", sum := "f3575e32d589584e19da5ba2b7d120e5bb2a40e6a6a7992b7b5e24b4fb34a2aa", func := "loop.example/g01054/laws.FnExactWithoutSort", spec := "fnExactWithoutSort", inPlace := ["internal/bytealg.abigen_runtime_cmpstring"], unfollowed := true, recurses := true, apart := false, narrowed := true }
def FnExactWithoutSortUptoSaid : Prop := fnExactWithoutSortUptoRow.holds Try.pinned (OpenSpec.upto fnExactWithoutSortSpec)

end Rows
end Go.Proofs.Ytacphcpjppkniaa
