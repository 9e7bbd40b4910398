/-
  No cell of these rows narrows 'for every input' (looked for: loops, veiled, ifaces, maps, wideKeys, modest, calm, conditions, laid).
  DERIVED. THE GIVEN ROWS OF THIS SEAT. 11 by the template 'for every input the law returns true; each argument reads behind the call as it read before'; 0 by the template 'total and deterministic' (their statements: YtljakcfdjcjdbaaTotals.lean).
  GIVEN WITH THE SEED: the statements are not yours to turn. If you find one false, say at which input.
  Laid BY PROGRAM, IN A SANDBOX (cutbox-rows.mjs): the forced cells as the released guide's own fill.sh prints them over the translation 49eb073e5a0413e6… (all of the seat's roots in one cut). By AI agents, Wed Nov 11 2026. No macro, syntax, notation, axiom, sorry.
-/
import Derived.Test.YtljakcfdjcjdbaaChecked
import GoSem.Claim
import GoSem.ClaimJoined
import GoSem.ClaimMapViews
import Derived.JoinedTies
import Derived.KernelRfl
namespace Go.Proofs.Ytljakcfdjcjdbaa
/- THE CELL 'sum', in the pinned program and in every row, IS THE sha256 OF THE DUMP (.gsa) THAT YtljakcfdjcjdbaaProg.lean LOADS. Nothing in Lean hashes anything: it is a label: what it is worth is what the hold of that sum in a sandbox is worth. -/
noncomputable def Try.pinned : Pinned := { name := "ytljakcfdjcjdbaa", sum := "49eb073e5a0413e60639982c060a5640559bae4764fd97e401a7dc3ed83cdd9f", checked := Try.checked }
namespace Rows
def none {H : Type} : Left H := { results := [], args := [] }

/-- 'laws.FnExactIsStock': WHATEVER THE INPUT: true; the input reads as it did. -/
def fnExactIsStockSpec : ChangeSpec := { name := "fnExactIsStock", fn := fun _ => fun
  | [d] => { results := [.lit (.bool true)], args := [d] }
  | _ => none }
def fnExactIsStockRow : OpenClaim := { program := "ytljakcfdjcjdbaa", sum := "49eb073e5a0413e60639982c060a5640559bae4764fd97e401a7dc3ed83cdd9f", func := "loop.example/g01054/laws.FnExactIsStock", spec := "fnExactIsStock", apart := false }
def FnExactIsStockSaid : Prop := fnExactIsStockRow.holds Try.pinned (OpenSpec.ofChange fnExactIsStockSpec)

/-- ITS FALSE NEIGHBOUR: 'it returns false'. Refute it at one input. -/
def fnExactIsStockWrong : ChangeSpec := { name := "fnExactIsStock", fn := fun _ => fun
  | [d] => { results := [.lit (.bool false)], args := [d] }
  | _ => none }
def FnExactIsStockWrongFalsely : Prop := fnExactIsStockRow.holds Try.pinned (OpenSpec.ofChange fnExactIsStockWrong)

/-- 'laws.FnExactStockLength': WHATEVER THE INPUT: true; the input reads as it did. -/
def fnExactStockLengthSpec : ChangeSpec := { name := "fnExactStockLength", fn := fun _ => fun
  | [d] => { results := [.lit (.bool true)], args := [d] }
  | _ => none }
def fnExactStockLengthRow : OpenClaim := { program := "ytljakcfdjcjdbaa", sum := "49eb073e5a0413e60639982c060a5640559bae4764fd97e401a7dc3ed83cdd9f", func := "loop.example/g01054/laws.FnExactStockLength", spec := "fnExactStockLength", apart := false }
def FnExactStockLengthSaid : Prop := fnExactStockLengthRow.holds Try.pinned (OpenSpec.ofChange fnExactStockLengthSpec)

/-- ITS FALSE NEIGHBOUR: 'it returns false'. Refute it at one input. -/
def fnExactStockLengthWrong : ChangeSpec := { name := "fnExactStockLength", fn := fun _ => fun
  | [d] => { results := [.lit (.bool false)], args := [d] }
  | _ => none }
def FnExactStockLengthWrongFalsely : Prop := fnExactStockLengthRow.holds Try.pinned (OpenSpec.ofChange fnExactStockLengthWrong)

/-- 'laws.FnExactRuleOf': WHATEVER THE INPUT: true; the input reads as it did. -/
def fnExactRuleOfSpec : ChangeSpec := { name := "fnExactRuleOf", fn := fun _ => fun
  | [d1, d2] => { results := [.lit (.bool true)], args := [d1, d2] }
  | _ => none }
def fnExactRuleOfRow : OpenClaim := { program := "ytljakcfdjcjdbaa", sum := "49eb073e5a0413e60639982c060a5640559bae4764fd97e401a7dc3ed83cdd9f", func := "loop.example/g01054/laws.FnExactRuleOf", spec := "fnExactRuleOf", unfollowed := true, recurses := true, apart := false }
def FnExactRuleOfSaid : Prop := fnExactRuleOfRow.holds Try.pinned (OpenSpec.ofChange fnExactRuleOfSpec)

/-- ITS FALSE NEIGHBOUR: 'it returns false'. Refute it at one input. -/
def fnExactRuleOfWrong : ChangeSpec := { name := "fnExactRuleOf", fn := fun _ => fun
  | [d1, d2] => { results := [.lit (.bool false)], args := [d1, d2] }
  | _ => none }
def FnExactRuleOfWrongFalsely : Prop := fnExactRuleOfRow.holds Try.pinned (OpenSpec.ofChange fnExactRuleOfWrong)

/-- 'laws.FnExactPiecesOf': WHATEVER THE INPUT: true; the input reads as it did. -/
def fnExactPiecesOfSpec : ChangeSpec := { name := "fnExactPiecesOf", fn := fun _ => fun
  | [d1, d2] => { results := [.lit (.bool true)], args := [d1, d2] }
  | _ => none }
def fnExactPiecesOfRow : OpenClaim := { program := "ytljakcfdjcjdbaa", sum := "49eb073e5a0413e60639982c060a5640559bae4764fd97e401a7dc3ed83cdd9f", func := "loop.example/g01054/laws.FnExactPiecesOf", spec := "fnExactPiecesOf", apart := false }
def FnExactPiecesOfSaid : Prop := fnExactPiecesOfRow.holds Try.pinned (OpenSpec.ofChange fnExactPiecesOfSpec)

/-- ITS FALSE NEIGHBOUR: 'it returns false'. Refute it at one input. -/
def fnExactPiecesOfWrong : ChangeSpec := { name := "fnExactPiecesOf", fn := fun _ => fun
  | [d1, d2] => { results := [.lit (.bool false)], args := [d1, d2] }
  | _ => none }
def FnExactPiecesOfWrongFalsely : Prop := fnExactPiecesOfRow.holds Try.pinned (OpenSpec.ofChange fnExactPiecesOfWrong)

/-- 'laws.FnExactRestOfStock': WHATEVER THE INPUT: true; the input reads as it did. -/
def fnExactRestOfStockSpec : ChangeSpec := { name := "fnExactRestOfStock", fn := fun _ => fun
  | [d1, d2] => { results := [.lit (.bool true)], args := [d1, d2] }
  | _ => none }
def fnExactRestOfStockRow : OpenClaim := { program := "ytljakcfdjcjdbaa", sum := "49eb073e5a0413e60639982c060a5640559bae4764fd97e401a7dc3ed83cdd9f", func := "loop.example/g01054/laws.FnExactRestOfStock", spec := "fnExactRestOfStock", apart := false }
def FnExactRestOfStockSaid : Prop := fnExactRestOfStockRow.holds Try.pinned (OpenSpec.ofChange fnExactRestOfStockSpec)

/-- ITS FALSE NEIGHBOUR: 'it returns false'. Refute it at one input. -/
def fnExactRestOfStockWrong : ChangeSpec := { name := "fnExactRestOfStock", fn := fun _ => fun
  | [d1, d2] => { results := [.lit (.bool false)], args := [d1, d2] }
  | _ => none }
def FnExactRestOfStockWrongFalsely : Prop := fnExactRestOfStockRow.holds Try.pinned (OpenSpec.ofChange fnExactRestOfStockWrong)

/-- 'laws.FnExactMissingFor': WHATEVER THE INPUT: true; the input reads as it did. -/
def fnExactMissingForSpec : ChangeSpec := { name := "fnExactMissingFor", fn := fun _ => fun
  | [d1, d2] => { results := [.lit (.bool true)], args := [d1, d2] }
  | _ => none }
def fnExactMissingForRow : OpenClaim := { program := "ytljakcfdjcjdbaa", sum := "49eb073e5a0413e60639982c060a5640559bae4764fd97e401a7dc3ed83cdd9f", func := "loop.example/g01054/laws.FnExactMissingFor", spec := "fnExactMissingFor", unfollowed := true, recurses := true, apart := false }
def FnExactMissingForSaid : Prop := fnExactMissingForRow.holds Try.pinned (OpenSpec.ofChange fnExactMissingForSpec)

/-- ITS FALSE NEIGHBOUR: 'it returns false'. Refute it at one input. -/
def fnExactMissingForWrong : ChangeSpec := { name := "fnExactMissingFor", fn := fun _ => fun
  | [d1, d2] => { results := [.lit (.bool false)], args := [d1, d2] }
  | _ => none }
def FnExactMissingForWrongFalsely : Prop := fnExactMissingForRow.holds Try.pinned (OpenSpec.ofChange fnExactMissingForWrong)

/-- 'laws.FnExactLengthsUpTo': WHATEVER THE INPUT: true; the input reads as it did. -/
def fnExactLengthsUpToSpec : ChangeSpec := { name := "fnExactLengthsUpTo", fn := fun _ => fun
  | [d1, d2] => { results := [.lit (.bool true)], args := [d1, d2] }
  | _ => none }
def fnExactLengthsUpToRow : OpenClaim := { program := "ytljakcfdjcjdbaa", sum := "49eb073e5a0413e60639982c060a5640559bae4764fd97e401a7dc3ed83cdd9f", func := "loop.example/g01054/laws.FnExactLengthsUpTo", spec := "fnExactLengthsUpTo", unfollowed := true, recurses := true, apart := false }
def FnExactLengthsUpToSaid : Prop := fnExactLengthsUpToRow.holds Try.pinned (OpenSpec.ofChange fnExactLengthsUpToSpec)

/-- ITS FALSE NEIGHBOUR: 'it returns false'. Refute it at one input. -/
def fnExactLengthsUpToWrong : ChangeSpec := { name := "fnExactLengthsUpTo", fn := fun _ => fun
  | [d1, d2] => { results := [.lit (.bool false)], args := [d1, d2] }
  | _ => none }
def FnExactLengthsUpToWrongFalsely : Prop := fnExactLengthsUpToRow.holds Try.pinned (OpenSpec.ofChange fnExactLengthsUpToWrong)

/-- 'laws.FnExactRulesOf': WHATEVER THE INPUT: true; the input reads as it did. -/
def fnExactRulesOfSpec : ChangeSpec := { name := "fnExactRulesOf", fn := fun _ => fun
  | [d1, d2] => { results := [.lit (.bool true)], args := [d1, d2] }
  | _ => none }
def fnExactRulesOfRow : OpenClaim := { program := "ytljakcfdjcjdbaa", sum := "49eb073e5a0413e60639982c060a5640559bae4764fd97e401a7dc3ed83cdd9f", func := "loop.example/g01054/laws.FnExactRulesOf", spec := "fnExactRulesOf", unfollowed := true, recurses := true, apart := false }
def FnExactRulesOfSaid : Prop := fnExactRulesOfRow.holds Try.pinned (OpenSpec.ofChange fnExactRulesOfSpec)

/-- ITS FALSE NEIGHBOUR: 'it returns false'. Refute it at one input. -/
def fnExactRulesOfWrong : ChangeSpec := { name := "fnExactRulesOf", fn := fun _ => fun
  | [d1, d2] => { results := [.lit (.bool false)], args := [d1, d2] }
  | _ => none }
def FnExactRulesOfWrongFalsely : Prop := fnExactRulesOfRow.holds Try.pinned (OpenSpec.ofChange fnExactRulesOfWrong)

/-- 'laws.FnExactFrameOf': WHATEVER THE INPUT: true; the input reads as it did. -/
def fnExactFrameOfSpec : ChangeSpec := { name := "fnExactFrameOf", fn := fun _ => fun
  | [d1, d2, d3, d4] => { results := [.lit (.bool true)], args := [d1, d2, d3, d4] }
  | _ => none }
def fnExactFrameOfRow : OpenClaim := { program := "ytljakcfdjcjdbaa", sum := "49eb073e5a0413e60639982c060a5640559bae4764fd97e401a7dc3ed83cdd9f", func := "loop.example/g01054/laws.FnExactFrameOf", spec := "fnExactFrameOf", unfollowed := true, recurses := true, apart := false }
def FnExactFrameOfSaid : Prop := fnExactFrameOfRow.holds Try.pinned (OpenSpec.ofChange fnExactFrameOfSpec)

/-- ITS FALSE NEIGHBOUR: 'it returns false'. Refute it at one input. -/
def fnExactFrameOfWrong : ChangeSpec := { name := "fnExactFrameOf", fn := fun _ => fun
  | [d1, d2, d3, d4] => { results := [.lit (.bool false)], args := [d1, d2, d3, d4] }
  | _ => none }
def FnExactFrameOfWrongFalsely : Prop := fnExactFrameOfRow.holds Try.pinned (OpenSpec.ofChange fnExactFrameOfWrong)

/-- 'laws.FnExactCutSlip': WHATEVER THE INPUT: true; the input reads as it did. -/
def fnExactCutSlipSpec : ChangeSpec := { name := "fnExactCutSlip", fn := fun _ => fun
  | [d1, d2, d3] => { results := [.lit (.bool true)], args := [d1, d2, d3] }
  | _ => none }
def fnExactCutSlipRow : OpenClaim := { program := "ytljakcfdjcjdbaa", sum := "49eb073e5a0413e60639982c060a5640559bae4764fd97e401a7dc3ed83cdd9f", func := "loop.example/g01054/laws.FnExactCutSlip", spec := "fnExactCutSlip", unfollowed := true, recurses := true, apart := false }
def FnExactCutSlipSaid : Prop := fnExactCutSlipRow.holds Try.pinned (OpenSpec.ofChange fnExactCutSlipSpec)

/-- ITS FALSE NEIGHBOUR: 'it returns false'. Refute it at one input. -/
def fnExactCutSlipWrong : ChangeSpec := { name := "fnExactCutSlip", fn := fun _ => fun
  | [d1, d2, d3] => { results := [.lit (.bool false)], args := [d1, d2, d3] }
  | _ => none }
def FnExactCutSlipWrongFalsely : Prop := fnExactCutSlipRow.holds Try.pinned (OpenSpec.ofChange fnExactCutSlipWrong)

/-- 'laws.FnExactJoinStocks': WHATEVER THE INPUT: true; the input reads as it did. -/
def fnExactJoinStocksSpec : ChangeSpec := { name := "fnExactJoinStocks", fn := fun _ => fun
  | [d1, d2] => { results := [.lit (.bool true)], args := [d1, d2] }
  | _ => none }
def fnExactJoinStocksRow : OpenClaim := { program := "ytljakcfdjcjdbaa", sum := "49eb073e5a0413e60639982c060a5640559bae4764fd97e401a7dc3ed83cdd9f", func := "loop.example/g01054/laws.FnExactJoinStocks", spec := "fnExactJoinStocks", unfollowed := true, recurses := true, apart := false }
def FnExactJoinStocksSaid : Prop := fnExactJoinStocksRow.holds Try.pinned (OpenSpec.ofChange fnExactJoinStocksSpec)

/-- ITS FALSE NEIGHBOUR: 'it returns false'. Refute it at one input. -/
def fnExactJoinStocksWrong : ChangeSpec := { name := "fnExactJoinStocks", fn := fun _ => fun
  | [d1, d2] => { results := [.lit (.bool false)], args := [d1, d2] }
  | _ => none }
def FnExactJoinStocksWrongFalsely : Prop := fnExactJoinStocksRow.holds Try.pinned (OpenSpec.ofChange fnExactJoinStocksWrong)

/- THE SECOND FORM. 'bulk': how many values and letters a reading holds, each counted each time it is reached (what is shared counts as often as it is met; a slice's spare places count too). A statement '..UptoSaid' is the law's where the arguments, and the package variables that the reading takes, are together of bulk at most 1048576: NARROWER than '..Said'. Prove '..Said' where nothing that the law and all that it calls make is longer than what came in: it says more and counts as full. Else prove '..UptoSaid'. A law counts once. -/
mutual
def uptoBulk {H : Type} : DataW H → Nat
  | .lit (.string bytes) => bytes.length + 1
  | .lit _ => 1
  | .nil => 1
  | .ptr d => uptoBulk d + 1
  | .slice elems spare => uptoBulkAll elems + uptoBulkAll spare + 1
  | .agg parts => uptoBulkAll parts + 1
  | .iface _ d => uptoBulk d + 1
  | .map entries => uptoBulkEntries entries + 1
  | .held _ => 1
def uptoBulkAll {H : Type} : List (DataW H) → Nat
  | [] => 0
  | d :: r => uptoBulk d + uptoBulkAll r
def uptoBulkEntries {H : Type} : List (Lit × DataW H) → Nat
  | [] => 0
  | x :: r => uptoBulkEntry x + uptoBulkEntries r
def uptoBulkEntry {H : Type} : Lit × DataW H → Nat
  | (.string bytes, d) => bytes.length + uptoBulk d + 1
  | (_, d) => uptoBulk d + 1
 end
def uptoSmall : (H : Type) → List (DataW H) → Bool := fun _ ds => decide (uptoBulkAll ds ≤ 1048576)
def OpenSpec.upto (s : _root_.Go.ChangeSpec) : _root_.Go.OpenSpec := { _root_.Go.OpenSpec.ofChange s with cond := some uptoSmall }

/-- 'laws.FnExactIsStock', WHERE WHAT IT READS IS OF BULK AT MOST 1048576: true; the input reads as it did. -/
def fnExactIsStockUptoRow : OpenClaim := { program := "ytljakcfdjcjdbaa", sum := "49eb073e5a0413e60639982c060a5640559bae4764fd97e401a7dc3ed83cdd9f", func := "loop.example/g01054/laws.FnExactIsStock", spec := "fnExactIsStock", apart := false, narrowed := true }
def FnExactIsStockUptoSaid : Prop := fnExactIsStockUptoRow.holds Try.pinned (OpenSpec.upto fnExactIsStockSpec)

/-- 'laws.FnExactStockLength', WHERE WHAT IT READS IS OF BULK AT MOST 1048576: true; the input reads as it did. -/
def fnExactStockLengthUptoRow : OpenClaim := { program := "ytljakcfdjcjdbaa", sum := "49eb073e5a0413e60639982c060a5640559bae4764fd97e401a7dc3ed83cdd9f", func := "loop.example/g01054/laws.FnExactStockLength", spec := "fnExactStockLength", apart := false, narrowed := true }
def FnExactStockLengthUptoSaid : Prop := fnExactStockLengthUptoRow.holds Try.pinned (OpenSpec.upto fnExactStockLengthSpec)

/-- 'laws.FnExactRuleOf', WHERE WHAT IT READS IS OF BULK AT MOST 1048576: true; the input reads as it did. -/
def fnExactRuleOfUptoRow : OpenClaim := { program := "ytljakcfdjcjdbaa", sum := "49eb073e5a0413e60639982c060a5640559bae4764fd97e401a7dc3ed83cdd9f", func := "loop.example/g01054/laws.FnExactRuleOf", spec := "fnExactRuleOf", unfollowed := true, recurses := true, apart := false, narrowed := true }
def FnExactRuleOfUptoSaid : Prop := fnExactRuleOfUptoRow.holds Try.pinned (OpenSpec.upto fnExactRuleOfSpec)

/-- 'laws.FnExactPiecesOf', WHERE WHAT IT READS IS OF BULK AT MOST 1048576: true; the input reads as it did. -/
def fnExactPiecesOfUptoRow : OpenClaim := { program := "ytljakcfdjcjdbaa", sum := "49eb073e5a0413e60639982c060a5640559bae4764fd97e401a7dc3ed83cdd9f", func := "loop.example/g01054/laws.FnExactPiecesOf", spec := "fnExactPiecesOf", apart := false, narrowed := true }
def FnExactPiecesOfUptoSaid : Prop := fnExactPiecesOfUptoRow.holds Try.pinned (OpenSpec.upto fnExactPiecesOfSpec)

/-- 'laws.FnExactRestOfStock', WHERE WHAT IT READS IS OF BULK AT MOST 1048576: true; the input reads as it did. -/
def fnExactRestOfStockUptoRow : OpenClaim := { program := "ytljakcfdjcjdbaa", sum := "49eb073e5a0413e60639982c060a5640559bae4764fd97e401a7dc3ed83cdd9f", func := "loop.example/g01054/laws.FnExactRestOfStock", spec := "fnExactRestOfStock", apart := false, narrowed := true }
def FnExactRestOfStockUptoSaid : Prop := fnExactRestOfStockUptoRow.holds Try.pinned (OpenSpec.upto fnExactRestOfStockSpec)

/-- 'laws.FnExactMissingFor', WHERE WHAT IT READS IS OF BULK AT MOST 1048576: true; the input reads as it did. -/
def fnExactMissingForUptoRow : OpenClaim := { program := "ytljakcfdjcjdbaa", sum := "49eb073e5a0413e60639982c060a5640559bae4764fd97e401a7dc3ed83cdd9f", func := "loop.example/g01054/laws.FnExactMissingFor", spec := "fnExactMissingFor", unfollowed := true, recurses := true, apart := false, narrowed := true }
def FnExactMissingForUptoSaid : Prop := fnExactMissingForUptoRow.holds Try.pinned (OpenSpec.upto fnExactMissingForSpec)

/-- 'laws.FnExactLengthsUpTo', WHERE WHAT IT READS IS OF BULK AT MOST 1048576: true; the input reads as it did. -/
def fnExactLengthsUpToUptoRow : OpenClaim := { program := "ytljakcfdjcjdbaa", sum := "49eb073e5a0413e60639982c060a5640559bae4764fd97e401a7dc3ed83cdd9f", func := "loop.example/g01054/laws.FnExactLengthsUpTo", spec := "fnExactLengthsUpTo", unfollowed := true, recurses := true, apart := false, narrowed := true }
def FnExactLengthsUpToUptoSaid : Prop := fnExactLengthsUpToUptoRow.holds Try.pinned (OpenSpec.upto fnExactLengthsUpToSpec)

/-- 'laws.FnExactRulesOf', WHERE WHAT IT READS IS OF BULK AT MOST 1048576: true; the input reads as it did. -/
def fnExactRulesOfUptoRow : OpenClaim := { program := "ytljakcfdjcjdbaa", sum := "49eb073e5a0413e60639982c060a5640559bae4764fd97e401a7dc3ed83cdd9f", func := "loop.example/g01054/laws.FnExactRulesOf", spec := "fnExactRulesOf", unfollowed := true, recurses := true, apart := false, narrowed := true }
def FnExactRulesOfUptoSaid : Prop := fnExactRulesOfUptoRow.holds Try.pinned (OpenSpec.upto fnExactRulesOfSpec)

/-- 'laws.FnExactFrameOf', WHERE WHAT IT READS IS OF BULK AT MOST 1048576: true; the input reads as it did. -/
def fnExactFrameOfUptoRow : OpenClaim := { program := "ytljakcfdjcjdbaa", sum := "49eb073e5a0413e60639982c060a5640559bae4764fd97e401a7dc3ed83cdd9f", func := "loop.example/g01054/laws.FnExactFrameOf", spec := "fnExactFrameOf", unfollowed := true, recurses := true, apart := false, narrowed := true }
def FnExactFrameOfUptoSaid : Prop := fnExactFrameOfUptoRow.holds Try.pinned (OpenSpec.upto fnExactFrameOfSpec)

/-- 'laws.FnExactCutSlip', WHERE WHAT IT READS IS OF BULK AT MOST 1048576: true; the input reads as it did. -/
def fnExactCutSlipUptoRow : OpenClaim := { program := "ytljakcfdjcjdbaa", sum := "49eb073e5a0413e60639982c060a5640559bae4764fd97e401a7dc3ed83cdd9f", func := "loop.example/g01054/laws.FnExactCutSlip", spec := "fnExactCutSlip", unfollowed := true, recurses := true, apart := false, narrowed := true }
def FnExactCutSlipUptoSaid : Prop := fnExactCutSlipUptoRow.holds Try.pinned (OpenSpec.upto fnExactCutSlipSpec)

/-- 'laws.FnExactJoinStocks', WHERE WHAT IT READS IS OF BULK AT MOST 1048576: true; the input reads as it did. -/
def fnExactJoinStocksUptoRow : OpenClaim := { program := "ytljakcfdjcjdbaa", sum := "49eb073e5a0413e60639982c060a5640559bae4764fd97e401a7dc3ed83cdd9f", func := "loop.example/g01054/laws.FnExactJoinStocks", spec := "fnExactJoinStocks", unfollowed := true, recurses := true, apart := false, narrowed := true }
def FnExactJoinStocksUptoSaid : Prop := fnExactJoinStocksUptoRow.holds Try.pinned (OpenSpec.upto fnExactJoinStocksSpec)

end Rows
end Go.Proofs.Ytljakcfdjcjdbaa
