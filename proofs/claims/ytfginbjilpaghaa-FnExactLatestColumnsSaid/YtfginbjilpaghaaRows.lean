/-
  No cell of these rows narrows 'for every input' (looked for: loops, veiled, ifaces, maps, wideKeys, modest, calm, conditions, laid).
  DERIVED. THE GIVEN ROWS OF THIS SEAT. 11 by the template 'for every input the law returns true; each argument reads behind the call as it read before'; 0 by the template 'total and deterministic' (their statements: YtfginbjilpaghaaTotals.lean).
  GIVEN WITH THE SEED: the statements are not yours to turn. If you find one false, say at which input.
  Laid BY PROGRAM, IN A SANDBOX (cutbox-rows.mjs): the forced cells as the released guide's own fill.sh prints them over the translation eb3afc70f4149448… (all of the seat's roots in one cut). By AI agents, Wed Nov 11 2026. No macro, syntax, notation, axiom, sorry.
-/
import Derived.Test.YtfginbjilpaghaaChecked
import GoSem.Claim
import GoSem.ClaimJoined
import GoSem.ClaimMapViews
import Derived.JoinedTies
import Derived.KernelRfl
namespace Go.Proofs.Ytfginbjilpaghaa
/- THE CELL 'sum', in the pinned program and in every row, IS THE sha256 OF THE DUMP (.gsa) THAT YtfginbjilpaghaaProg.lean LOADS. Nothing in Lean hashes anything: it is a label: what it is worth is what the hold of that sum in a sandbox is worth. -/
noncomputable def Try.pinned : Pinned := { name := "ytfginbjilpaghaa", sum := "eb3afc70f414944850f9382b6d49af716425d71cddb0f5aaf02642fd2dea2076", checked := Try.checked }
namespace Rows
def none {H : Type} : Left H := { results := [], args := [] }

/-- 'laws.FnExactIsTable': WHATEVER THE INPUT: true; the input reads as it did. -/
def fnExactIsTableSpec : ChangeSpec := { name := "fnExactIsTable", fn := fun _ => fun
  | [d1, d2] => { results := [.lit (.bool true)], args := [d1, d2] }
  | _ => none }
def fnExactIsTableRow : OpenClaim := { program := "ytfginbjilpaghaa", sum := "eb3afc70f414944850f9382b6d49af716425d71cddb0f5aaf02642fd2dea2076", func := "loop.example/g01054/laws.FnExactIsTable", spec := "fnExactIsTable", apart := false }
def FnExactIsTableSaid : Prop := fnExactIsTableRow.holds Try.pinned (OpenSpec.ofChange fnExactIsTableSpec)

/-- ITS FALSE NEIGHBOUR: 'it returns false'. Refute it at one input. -/
def fnExactIsTableWrong : ChangeSpec := { name := "fnExactIsTable", fn := fun _ => fun
  | [d1, d2] => { results := [.lit (.bool false)], args := [d1, d2] }
  | _ => none }
def FnExactIsTableWrongFalsely : Prop := fnExactIsTableRow.holds Try.pinned (OpenSpec.ofChange fnExactIsTableWrong)

/-- 'laws.FnExactLeastStarts': WHATEVER THE INPUT: true; the input reads as it did. -/
def fnExactLeastStartsSpec : ChangeSpec := { name := "fnExactLeastStarts", fn := fun _ => fun
  | [d1, d2, d3] => { results := [.lit (.bool true)], args := [d1, d2, d3] }
  | _ => none }
def fnExactLeastStartsRow : OpenClaim := { program := "ytfginbjilpaghaa", sum := "eb3afc70f414944850f9382b6d49af716425d71cddb0f5aaf02642fd2dea2076", func := "loop.example/g01054/laws.FnExactLeastStarts", spec := "fnExactLeastStarts", unfollowed := true, recurses := true, apart := false }
def FnExactLeastStartsSaid : Prop := fnExactLeastStartsRow.holds Try.pinned (OpenSpec.ofChange fnExactLeastStartsSpec)

/-- ITS FALSE NEIGHBOUR: 'it returns false'. Refute it at one input. -/
def fnExactLeastStartsWrong : ChangeSpec := { name := "fnExactLeastStarts", fn := fun _ => fun
  | [d1, d2, d3] => { results := [.lit (.bool false)], args := [d1, d2, d3] }
  | _ => none }
def FnExactLeastStartsWrongFalsely : Prop := fnExactLeastStartsRow.holds Try.pinned (OpenSpec.ofChange fnExactLeastStartsWrong)

/-- 'laws.FnExactTableWidth': WHATEVER THE INPUT: true; the input reads as it did. -/
def fnExactTableWidthSpec : ChangeSpec := { name := "fnExactTableWidth", fn := fun _ => fun
  | [d1, d2, d3] => { results := [.lit (.bool true)], args := [d1, d2, d3] }
  | _ => none }
def fnExactTableWidthRow : OpenClaim := { program := "ytfginbjilpaghaa", sum := "eb3afc70f414944850f9382b6d49af716425d71cddb0f5aaf02642fd2dea2076", func := "loop.example/g01054/laws.FnExactTableWidth", spec := "fnExactTableWidth", unfollowed := true, recurses := true, apart := false }
def FnExactTableWidthSaid : Prop := fnExactTableWidthRow.holds Try.pinned (OpenSpec.ofChange fnExactTableWidthSpec)

/-- ITS FALSE NEIGHBOUR: 'it returns false'. Refute it at one input. -/
def fnExactTableWidthWrong : ChangeSpec := { name := "fnExactTableWidth", fn := fun _ => fun
  | [d1, d2, d3] => { results := [.lit (.bool false)], args := [d1, d2, d3] }
  | _ => none }
def FnExactTableWidthWrongFalsely : Prop := fnExactTableWidthRow.holds Try.pinned (OpenSpec.ofChange fnExactTableWidthWrong)

/-- 'laws.FnExactColumnWidths': WHATEVER THE INPUT: true; the input reads as it did. -/
def fnExactColumnWidthsSpec : ChangeSpec := { name := "fnExactColumnWidths", fn := fun _ => fun
  | [d1, d2, d3] => { results := [.lit (.bool true)], args := [d1, d2, d3] }
  | _ => none }
def fnExactColumnWidthsRow : OpenClaim := { program := "ytfginbjilpaghaa", sum := "eb3afc70f414944850f9382b6d49af716425d71cddb0f5aaf02642fd2dea2076", func := "loop.example/g01054/laws.FnExactColumnWidths", spec := "fnExactColumnWidths", unfollowed := true, recurses := true, apart := false }
def FnExactColumnWidthsSaid : Prop := fnExactColumnWidthsRow.holds Try.pinned (OpenSpec.ofChange fnExactColumnWidthsSpec)

/-- ITS FALSE NEIGHBOUR: 'it returns false'. Refute it at one input. -/
def fnExactColumnWidthsWrong : ChangeSpec := { name := "fnExactColumnWidths", fn := fun _ => fun
  | [d1, d2, d3] => { results := [.lit (.bool false)], args := [d1, d2, d3] }
  | _ => none }
def FnExactColumnWidthsWrongFalsely : Prop := fnExactColumnWidthsRow.holds Try.pinned (OpenSpec.ofChange fnExactColumnWidthsWrong)

/-- 'laws.FnExactLatestColumns': WHATEVER THE INPUT: true; the input reads as it did. -/
def fnExactLatestColumnsSpec : ChangeSpec := { name := "fnExactLatestColumns", fn := fun _ => fun
  | [d1, d2, d3, d4] => { results := [.lit (.bool true)], args := [d1, d2, d3, d4] }
  | _ => none }
def fnExactLatestColumnsRow : OpenClaim := { program := "ytfginbjilpaghaa", sum := "eb3afc70f414944850f9382b6d49af716425d71cddb0f5aaf02642fd2dea2076", func := "loop.example/g01054/laws.FnExactLatestColumns", spec := "fnExactLatestColumns", unfollowed := true, recurses := true, apart := false }
def FnExactLatestColumnsSaid : Prop := fnExactLatestColumnsRow.holds Try.pinned (OpenSpec.ofChange fnExactLatestColumnsSpec)

/-- ITS FALSE NEIGHBOUR: 'it returns false'. Refute it at one input. -/
def fnExactLatestColumnsWrong : ChangeSpec := { name := "fnExactLatestColumns", fn := fun _ => fun
  | [d1, d2, d3, d4] => { results := [.lit (.bool false)], args := [d1, d2, d3, d4] }
  | _ => none }
def FnExactLatestColumnsWrongFalsely : Prop := fnExactLatestColumnsRow.holds Try.pinned (OpenSpec.ofChange fnExactLatestColumnsWrong)

/-- 'laws.FnExactRoomOfEntry': WHATEVER THE INPUT: true; the input reads as it did. -/
def fnExactRoomOfEntrySpec : ChangeSpec := { name := "fnExactRoomOfEntry", fn := fun _ => fun
  | [d1, d2, d3, d4] => { results := [.lit (.bool true)], args := [d1, d2, d3, d4] }
  | _ => none }
def fnExactRoomOfEntryRow : OpenClaim := { program := "ytfginbjilpaghaa", sum := "eb3afc70f414944850f9382b6d49af716425d71cddb0f5aaf02642fd2dea2076", func := "loop.example/g01054/laws.FnExactRoomOfEntry", spec := "fnExactRoomOfEntry", unfollowed := true, recurses := true, apart := false }
def FnExactRoomOfEntrySaid : Prop := fnExactRoomOfEntryRow.holds Try.pinned (OpenSpec.ofChange fnExactRoomOfEntrySpec)

/-- ITS FALSE NEIGHBOUR: 'it returns false'. Refute it at one input. -/
def fnExactRoomOfEntryWrong : ChangeSpec := { name := "fnExactRoomOfEntry", fn := fun _ => fun
  | [d1, d2, d3, d4] => { results := [.lit (.bool false)], args := [d1, d2, d3, d4] }
  | _ => none }
def FnExactRoomOfEntryWrongFalsely : Prop := fnExactRoomOfEntryRow.holds Try.pinned (OpenSpec.ofChange fnExactRoomOfEntryWrong)

/-- 'laws.FnExactTightEntries': WHATEVER THE INPUT: true; the input reads as it did. -/
def fnExactTightEntriesSpec : ChangeSpec := { name := "fnExactTightEntries", fn := fun _ => fun
  | [d1, d2, d3] => { results := [.lit (.bool true)], args := [d1, d2, d3] }
  | _ => none }
def fnExactTightEntriesRow : OpenClaim := { program := "ytfginbjilpaghaa", sum := "eb3afc70f414944850f9382b6d49af716425d71cddb0f5aaf02642fd2dea2076", func := "loop.example/g01054/laws.FnExactTightEntries", spec := "fnExactTightEntries", unfollowed := true, recurses := true, apart := false }
def FnExactTightEntriesSaid : Prop := fnExactTightEntriesRow.holds Try.pinned (OpenSpec.ofChange fnExactTightEntriesSpec)

/-- ITS FALSE NEIGHBOUR: 'it returns false'. Refute it at one input. -/
def fnExactTightEntriesWrong : ChangeSpec := { name := "fnExactTightEntries", fn := fun _ => fun
  | [d1, d2, d3] => { results := [.lit (.bool false)], args := [d1, d2, d3] }
  | _ => none }
def FnExactTightEntriesWrongFalsely : Prop := fnExactTightEntriesRow.holds Try.pinned (OpenSpec.ofChange fnExactTightEntriesWrong)

/-- 'laws.FnExactSpreadTable': WHATEVER THE INPUT: true; the input reads as it did. -/
def fnExactSpreadTableSpec : ChangeSpec := { name := "fnExactSpreadTable", fn := fun _ => fun
  | [d1, d2, d3, d4] => { results := [.lit (.bool true)], args := [d1, d2, d3, d4] }
  | _ => none }
def fnExactSpreadTableRow : OpenClaim := { program := "ytfginbjilpaghaa", sum := "eb3afc70f414944850f9382b6d49af716425d71cddb0f5aaf02642fd2dea2076", func := "loop.example/g01054/laws.FnExactSpreadTable", spec := "fnExactSpreadTable", unfollowed := true, recurses := true, apart := false }
def FnExactSpreadTableSaid : Prop := fnExactSpreadTableRow.holds Try.pinned (OpenSpec.ofChange fnExactSpreadTableSpec)

/-- ITS FALSE NEIGHBOUR: 'it returns false'. Refute it at one input. -/
def fnExactSpreadTableWrong : ChangeSpec := { name := "fnExactSpreadTable", fn := fun _ => fun
  | [d1, d2, d3, d4] => { results := [.lit (.bool false)], args := [d1, d2, d3, d4] }
  | _ => none }
def FnExactSpreadTableWrongFalsely : Prop := fnExactSpreadTableRow.holds Try.pinned (OpenSpec.ofChange fnExactSpreadTableWrong)

/-- 'laws.FnExactAddEntry': WHATEVER THE INPUT: true; the input reads as it did. -/
def fnExactAddEntrySpec : ChangeSpec := { name := "fnExactAddEntry", fn := fun _ => fun
  | [d1, d2, d3] => { results := [.lit (.bool true)], args := [d1, d2, d3] }
  | _ => none }
def fnExactAddEntryRow : OpenClaim := { program := "ytfginbjilpaghaa", sum := "eb3afc70f414944850f9382b6d49af716425d71cddb0f5aaf02642fd2dea2076", func := "loop.example/g01054/laws.FnExactAddEntry", spec := "fnExactAddEntry", apart := false }
def FnExactAddEntrySaid : Prop := fnExactAddEntryRow.holds Try.pinned (OpenSpec.ofChange fnExactAddEntrySpec)

/-- ITS FALSE NEIGHBOUR: 'it returns false'. Refute it at one input. -/
def fnExactAddEntryWrong : ChangeSpec := { name := "fnExactAddEntry", fn := fun _ => fun
  | [d1, d2, d3] => { results := [.lit (.bool false)], args := [d1, d2, d3] }
  | _ => none }
def FnExactAddEntryWrongFalsely : Prop := fnExactAddEntryRow.holds Try.pinned (OpenSpec.ofChange fnExactAddEntryWrong)

/-- 'laws.FnExactWidthWithout': WHATEVER THE INPUT: true; the input reads as it did. -/
def fnExactWidthWithoutSpec : ChangeSpec := { name := "fnExactWidthWithout", fn := fun _ => fun
  | [d1, d2, d3, d4] => { results := [.lit (.bool true)], args := [d1, d2, d3, d4] }
  | _ => none }
def fnExactWidthWithoutRow : OpenClaim := { program := "ytfginbjilpaghaa", sum := "eb3afc70f414944850f9382b6d49af716425d71cddb0f5aaf02642fd2dea2076", func := "loop.example/g01054/laws.FnExactWidthWithout", spec := "fnExactWidthWithout", unfollowed := true, recurses := true, apart := false }
def FnExactWidthWithoutSaid : Prop := fnExactWidthWithoutRow.holds Try.pinned (OpenSpec.ofChange fnExactWidthWithoutSpec)

/-- ITS FALSE NEIGHBOUR: 'it returns false'. Refute it at one input. -/
def fnExactWidthWithoutWrong : ChangeSpec := { name := "fnExactWidthWithout", fn := fun _ => fun
  | [d1, d2, d3, d4] => { results := [.lit (.bool false)], args := [d1, d2, d3, d4] }
  | _ => none }
def FnExactWidthWithoutWrongFalsely : Prop := fnExactWidthWithoutRow.holds Try.pinned (OpenSpec.ofChange fnExactWidthWithoutWrong)

/-- 'laws.FnExactEntriesOver': WHATEVER THE INPUT: true; the input reads as it did. -/
def fnExactEntriesOverSpec : ChangeSpec := { name := "fnExactEntriesOver", fn := fun _ => fun
  | [d1, d2, d3] => { results := [.lit (.bool true)], args := [d1, d2, d3] }
  | _ => none }
def fnExactEntriesOverRow : OpenClaim := { program := "ytfginbjilpaghaa", sum := "eb3afc70f414944850f9382b6d49af716425d71cddb0f5aaf02642fd2dea2076", func := "loop.example/g01054/laws.FnExactEntriesOver", spec := "fnExactEntriesOver", apart := false }
def FnExactEntriesOverSaid : Prop := fnExactEntriesOverRow.holds Try.pinned (OpenSpec.ofChange fnExactEntriesOverSpec)

/-- ITS FALSE NEIGHBOUR: 'it returns false'. Refute it at one input. -/
def fnExactEntriesOverWrong : ChangeSpec := { name := "fnExactEntriesOver", fn := fun _ => fun
  | [d1, d2, d3] => { results := [.lit (.bool false)], args := [d1, d2, d3] }
  | _ => none }
def FnExactEntriesOverWrongFalsely : Prop := fnExactEntriesOverRow.holds Try.pinned (OpenSpec.ofChange fnExactEntriesOverWrong)

/- THE SECOND FORM. 'bulk': how many values and letters a reading holds, each counted each time it is reached (what is shared counts as often as it is met; a slice's spare places count too). A statement '..UptoSaid' is the law's where the arguments, and the package variables that the reading takes, are together of bulk at most 1048576: NARROWER than '..Said'. Prove '..Said' where nothing that the law and all that it calls make is longer than what came in: it says more and counts as full. Else prove '..UptoSaid'. A law counts once. -/
mutual
def uptoBulk {H : Type} : DataW H → Nat
  | .lit (.string bytes) => bytes.length + 1
  | .lit _ => 1
  | .nil => 1
  | .ptr d => uptoBulk d + 1
  | .slice elems spare => uptoBulkAll elems + uptoBulkAll spare + 1
  | .agg parts => uptoBulkAll parts + 1
  | .iface _ d => uptoBulk d + 1
  | .map entries => uptoBulkEntries entries + 1
  | .held _ => 1
def uptoBulkAll {H : Type} : List (DataW H) → Nat
  | [] => 0
  | d :: r => uptoBulk d + uptoBulkAll r
def uptoBulkEntries {H : Type} : List (Lit × DataW H) → Nat
  | [] => 0
  | x :: r => uptoBulkEntry x + uptoBulkEntries r
def uptoBulkEntry {H : Type} : Lit × DataW H → Nat
  | (.string bytes, d) => bytes.length + uptoBulk d + 1
  | (_, d) => uptoBulk d + 1
 end
def uptoSmall : (H : Type) → List (DataW H) → Bool := fun _ ds => decide (uptoBulkAll ds ≤ 1048576)
def OpenSpec.upto (s : _root_.Go.ChangeSpec) : _root_.Go.OpenSpec := { _root_.Go.OpenSpec.ofChange s with cond := some uptoSmall }

/-- 'laws.FnExactIsTable', WHERE WHAT IT READS IS OF BULK AT MOST 1048576: true; the input reads as it did. -/
def fnExactIsTableUptoRow : OpenClaim := { program := "ytfginbjilpaghaa", sum := "eb3afc70f414944850f9382b6d49af716425d71cddb0f5aaf02642fd2dea2076", func := "loop.example/g01054/laws.FnExactIsTable", spec := "fnExactIsTable", apart := false, narrowed := true }
def FnExactIsTableUptoSaid : Prop := fnExactIsTableUptoRow.holds Try.pinned (OpenSpec.upto fnExactIsTableSpec)

/-- 'laws.FnExactLeastStarts', WHERE WHAT IT READS IS OF BULK AT MOST 1048576: true; the input reads as it did. -/
def fnExactLeastStartsUptoRow : OpenClaim := { program := "ytfginbjilpaghaa", sum := "eb3afc70f414944850f9382b6d49af716425d71cddb0f5aaf02642fd2dea2076", func := "loop.example/g01054/laws.FnExactLeastStarts", spec := "fnExactLeastStarts", unfollowed := true, recurses := true, apart := false, narrowed := true }
def FnExactLeastStartsUptoSaid : Prop := fnExactLeastStartsUptoRow.holds Try.pinned (OpenSpec.upto fnExactLeastStartsSpec)

/-- 'laws.FnExactTableWidth', WHERE WHAT IT READS IS OF BULK AT MOST 1048576: true; the input reads as it did. -/
def fnExactTableWidthUptoRow : OpenClaim := { program := "ytfginbjilpaghaa", sum := "eb3afc70f414944850f9382b6d49af716425d71cddb0f5aaf02642fd2dea2076", func := "loop.example/g01054/laws.FnExactTableWidth", spec := "fnExactTableWidth", unfollowed := true, recurses := true, apart := false, narrowed := true }
def FnExactTableWidthUptoSaid : Prop := fnExactTableWidthUptoRow.holds Try.pinned (OpenSpec.upto fnExactTableWidthSpec)

/-- 'laws.FnExactColumnWidths', WHERE WHAT IT READS IS OF BULK AT MOST 1048576: true; the input reads as it did. -/
def fnExactColumnWidthsUptoRow : OpenClaim := { program := "ytfginbjilpaghaa", sum := "eb3afc70f414944850f9382b6d49af716425d71cddb0f5aaf02642fd2dea2076", func := "loop.example/g01054/laws.FnExactColumnWidths", spec := "fnExactColumnWidths", unfollowed := true, recurses := true, apart := false, narrowed := true }
def FnExactColumnWidthsUptoSaid : Prop := fnExactColumnWidthsUptoRow.holds Try.pinned (OpenSpec.upto fnExactColumnWidthsSpec)

/-- 'laws.FnExactLatestColumns', WHERE WHAT IT READS IS OF BULK AT MOST 1048576: true; the input reads as it did. -/
def fnExactLatestColumnsUptoRow : OpenClaim := { program := "ytfginbjilpaghaa", sum := "eb3afc70f414944850f9382b6d49af716425d71cddb0f5aaf02642fd2dea2076", func := "loop.example/g01054/laws.FnExactLatestColumns", spec := "fnExactLatestColumns", unfollowed := true, recurses := true, apart := false, narrowed := true }
def FnExactLatestColumnsUptoSaid : Prop := fnExactLatestColumnsUptoRow.holds Try.pinned (OpenSpec.upto fnExactLatestColumnsSpec)

/-- 'laws.FnExactRoomOfEntry', WHERE WHAT IT READS IS OF BULK AT MOST 1048576: true; the input reads as it did. -/
def fnExactRoomOfEntryUptoRow : OpenClaim := { program := "ytfginbjilpaghaa", sum := "eb3afc70f414944850f9382b6d49af716425d71cddb0f5aaf02642fd2dea2076", func := "loop.example/g01054/laws.FnExactRoomOfEntry", spec := "fnExactRoomOfEntry", unfollowed := true, recurses := true, apart := false, narrowed := true }
def FnExactRoomOfEntryUptoSaid : Prop := fnExactRoomOfEntryUptoRow.holds Try.pinned (OpenSpec.upto fnExactRoomOfEntrySpec)

/-- 'laws.FnExactTightEntries', WHERE WHAT IT READS IS OF BULK AT MOST 1048576: true; the input reads as it did. -/
def fnExactTightEntriesUptoRow : OpenClaim := { program := "ytfginbjilpaghaa", sum := "eb3afc70f414944850f9382b6d49af716425d71cddb0f5aaf02642fd2dea2076", func := "loop.example/g01054/laws.FnExactTightEntries", spec := "fnExactTightEntries", unfollowed := true, recurses := true, apart := false, narrowed := true }
def FnExactTightEntriesUptoSaid : Prop := fnExactTightEntriesUptoRow.holds Try.pinned (OpenSpec.upto fnExactTightEntriesSpec)

/-- 'laws.FnExactSpreadTable', WHERE WHAT IT READS IS OF BULK AT MOST 1048576: true; the input reads as it did. -/
def fnExactSpreadTableUptoRow : OpenClaim := { program := "ytfginbjilpaghaa", sum := "eb3afc70f414944850f9382b6d49af716425d71cddb0f5aaf02642fd2dea2076", func := "loop.example/g01054/laws.FnExactSpreadTable", spec := "fnExactSpreadTable", unfollowed := true, recurses := true, apart := false, narrowed := true }
def FnExactSpreadTableUptoSaid : Prop := fnExactSpreadTableUptoRow.holds Try.pinned (OpenSpec.upto fnExactSpreadTableSpec)

/-- 'laws.FnExactAddEntry', WHERE WHAT IT READS IS OF BULK AT MOST 1048576: true; the input reads as it did. -/
def fnExactAddEntryUptoRow : OpenClaim := { program := "ytfginbjilpaghaa", sum := "eb3afc70f414944850f9382b6d49af716425d71cddb0f5aaf02642fd2dea2076", func := "loop.example/g01054/laws.FnExactAddEntry", spec := "fnExactAddEntry", apart := false, narrowed := true }
def FnExactAddEntryUptoSaid : Prop := fnExactAddEntryUptoRow.holds Try.pinned (OpenSpec.upto fnExactAddEntrySpec)

/-- 'laws.FnExactWidthWithout', WHERE WHAT IT READS IS OF BULK AT MOST 1048576: true; the input reads as it did. -/
def fnExactWidthWithoutUptoRow : OpenClaim := { program := "ytfginbjilpaghaa", sum := "eb3afc70f414944850f9382b6d49af716425d71cddb0f5aaf02642fd2dea2076", func := "loop.example/g01054/laws.FnExactWidthWithout", spec := "fnExactWidthWithout", unfollowed := true, recurses := true, apart := false, narrowed := true }
def FnExactWidthWithoutUptoSaid : Prop := fnExactWidthWithoutUptoRow.holds Try.pinned (OpenSpec.upto fnExactWidthWithoutSpec)

/-- 'laws.FnExactEntriesOver', WHERE WHAT IT READS IS OF BULK AT MOST 1048576: true; the input reads as it did. -/
def fnExactEntriesOverUptoRow : OpenClaim := { program := "ytfginbjilpaghaa", sum := "eb3afc70f414944850f9382b6d49af716425d71cddb0f5aaf02642fd2dea2076", func := "loop.example/g01054/laws.FnExactEntriesOver", spec := "fnExactEntriesOver", apart := false, narrowed := true }
def FnExactEntriesOverUptoSaid : Prop := fnExactEntriesOverUptoRow.holds Try.pinned (OpenSpec.upto fnExactEntriesOverSpec)

end Rows
end Go.Proofs.Ytfginbjilpaghaa
