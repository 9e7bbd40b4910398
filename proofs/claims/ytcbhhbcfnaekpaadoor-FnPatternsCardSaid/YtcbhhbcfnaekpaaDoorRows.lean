/-
  NARROWER THAN 'FOR EVERY INPUT', by the rows' own cells (each row's printed sentence says how): FnHyphens: laid · FnPatterns: laid · FnExactHyphenPlaces: laid · FnExactPartsOfWord: laid · FnExactMayBreakAt: laid · FnExactHyphenText: laid · FnExactLastPlaceWithin: laid · FnExactNewException: laid · FnExactWordsOfExceptions: laid.
  DERIVED. THE GIVEN ROWS OF THIS SEAT. 9 by the template 'for every input the law returns true; each argument reads behind the call as it read before'; 0 by the template 'total and deterministic' (their statements: YtcbhhbcfnaekpaaDoorTotals.lean).
  GIVEN WITH THE SEED: the statements are not yours to turn. If you find one false, say at which input.
  Laid BY PROGRAM, IN A SANDBOX (cutbox-rows.mjs): the forced cells as the released guide's own fill.sh prints them over the translation 57a8446637441b94… (all of the seat's roots in one cut). By AI agents, Wed Nov 11 2026. No macro, syntax, notation, axiom, sorry.
-/
import Derived.Test.YtcbhhbcfnaekpaaDoorChecked
import GoSem.PinnedTables
import GoSem.Claim
import GoSem.ClaimJoined
import GoSem.ClaimMapViews
import Derived.JoinedTies
import Derived.KernelRfl
namespace Go.Proofs.YtcbhhbcfnaekpaaDoor
/- THE CELL 'sum', in the pinned program and in every row, IS THE sha256 OF THE DUMP (.gsa) THAT YtcbhhbcfnaekpaaDoorProg.lean LOADS. Nothing in Lean hashes anything: it is a label: what it is worth is what the hold of that sum in a sandbox is worth. -/
noncomputable def Tryd.pinned : Pinned := { name := "ytcbhhbcfnaekpaadoor", sum := "57a8446637441b94688ccf5d28dc0c0ad3b729d601ab7cdabd018d783a57d03c", checked := Tryd.checked }
namespace Rows
def none {H : Type} : Left H := { results := [], args := [] }

/- WHAT THE LISTED PACKAGE-LEVEL VARIABLES READ AS WHEN THE CALL BEGINS. Each datum BY PROGRAM (the guide's laid-datum.mjs) off the statement by which the dump's own 'gosem.cut.vars' lays the variable. In a bare row this is a premise. The card (YtcbhhbcfnaekpaaDoorCards.lean) ties it to the program's text. -/
def laid_unicode_utf8_acceptRanges {H : Type} : DataW H := .agg [.agg [.lit (.int .u8 128), .lit (.int .u8 191)], .agg [.lit (.int .u8 160), .lit (.int .u8 191)], .agg [.lit (.int .u8 128), .lit (.int .u8 159)], .agg [.lit (.int .u8 144), .lit (.int .u8 191)], .agg [.lit (.int .u8 128), .lit (.int .u8 143)], .agg [.lit (.int .u8 0), .lit (.int .u8 0)], .agg [.lit (.int .u8 0), .lit (.int .u8 0)], .agg [.lit (.int .u8 0), .lit (.int .u8 0)], .agg [.lit (.int .u8 0), .lit (.int .u8 0)], .agg [.lit (.int .u8 0), .lit (.int .u8 0)], .agg [.lit (.int .u8 0), .lit (.int .u8 0)], .agg [.lit (.int .u8 0), .lit (.int .u8 0)], .agg [.lit (.int .u8 0), .lit (.int .u8 0)], .agg [.lit (.int .u8 0), .lit (.int .u8 0)], .agg [.lit (.int .u8 0), .lit (.int .u8 0)], .agg [.lit (.int .u8 0), .lit (.int .u8 0)]]
/-- One of Go's own tables, pinned by name: the form's constant. -/
def laid_unicode_utf8_first : DataW Unit := Go.Pinned.utf8First

/-- 'laws.FnHyphens': WHATEVER THE INPUT: true; the input reads as it did. -/
def fnHyphensSpec : ChangeSpec := { name := "fnHyphens", fn := fun _ => fun
  | [d1, d2] => { results := [.lit (.bool true)], args := [d1, d2] }
  | _ => none }
def fnHyphensRow : OpenClaim := { program := "ytcbhhbcfnaekpaadoor", sum := "57a8446637441b94688ccf5d28dc0c0ad3b729d601ab7cdabd018d783a57d03c", func := "loop.example/g01054/laws.FnHyphens", spec := "fnHyphens", inPlace := ["internal/bytealg.CountString", "internal/bytealg.IndexByteString", "internal/bytealg.IndexString", "internal/abi.NoEscape", "internal/bytealg.MakeNoZero"], unfollowed := true, recurses := true, named := ["internal/bytealg.MaxLen", "unicode/utf8.first", "unicode/utf8.acceptRanges"], apart := false, laid := [("unicode/utf8.acceptRanges", laid_unicode_utf8_acceptRanges), ("unicode/utf8.first", laid_unicode_utf8_first)] }
def FnHyphensSaid : Prop := fnHyphensRow.holds Tryd.pinned (OpenSpec.ofChange fnHyphensSpec)

/-- ITS FALSE NEIGHBOUR: 'it returns false'. Refute it at one input. -/
def fnHyphensWrong : ChangeSpec := { name := "fnHyphens", fn := fun _ => fun
  | [d1, d2] => { results := [.lit (.bool false)], args := [d1, d2] }
  | _ => none }
def FnHyphensWrongFalsely : Prop := fnHyphensRow.holds Tryd.pinned (OpenSpec.ofChange fnHyphensWrong)

/-- 'laws.FnPatterns': WHATEVER THE INPUT: true; the input reads as it did. -/
def fnPatternsSpec : ChangeSpec := { name := "fnPatterns", fn := fun _ => fun
  | [d1, d2] => { results := [.lit (.bool true)], args := [d1, d2] }
  | _ => none }
def fnPatternsRow : OpenClaim := { program := "ytcbhhbcfnaekpaadoor", sum := "57a8446637441b94688ccf5d28dc0c0ad3b729d601ab7cdabd018d783a57d03c", func := "loop.example/g01054/laws.FnPatterns", spec := "fnPatterns", inPlace := ["internal/bytealg.CountString", "internal/bytealg.IndexByteString", "internal/bytealg.IndexString", "internal/abi.NoEscape", "internal/bytealg.MakeNoZero"], unfollowed := true, recurses := true, named := ["internal/bytealg.MaxLen", "unicode/utf8.first", "unicode/utf8.acceptRanges"], apart := false, laid := [("unicode/utf8.acceptRanges", laid_unicode_utf8_acceptRanges), ("unicode/utf8.first", laid_unicode_utf8_first)] }
def FnPatternsSaid : Prop := fnPatternsRow.holds Tryd.pinned (OpenSpec.ofChange fnPatternsSpec)

/-- ITS FALSE NEIGHBOUR: 'it returns false'. Refute it at one input. -/
def fnPatternsWrong : ChangeSpec := { name := "fnPatterns", fn := fun _ => fun
  | [d1, d2] => { results := [.lit (.bool false)], args := [d1, d2] }
  | _ => none }
def FnPatternsWrongFalsely : Prop := fnPatternsRow.holds Tryd.pinned (OpenSpec.ofChange fnPatternsWrong)

/-- 'laws.FnExactHyphenPlaces': WHATEVER THE INPUT: true; the input reads as it did. -/
def fnExactHyphenPlacesSpec : ChangeSpec := { name := "fnExactHyphenPlaces", fn := fun _ => fun
  | [d1, d2, d3] => { results := [.lit (.bool true)], args := [d1, d2, d3] }
  | _ => none }
def fnExactHyphenPlacesRow : OpenClaim := { program := "ytcbhhbcfnaekpaadoor", sum := "57a8446637441b94688ccf5d28dc0c0ad3b729d601ab7cdabd018d783a57d03c", func := "loop.example/g01054/laws.FnExactHyphenPlaces", spec := "fnExactHyphenPlaces", inPlace := ["internal/bytealg.CountString", "internal/bytealg.IndexByteString", "internal/bytealg.IndexString", "internal/abi.NoEscape", "internal/bytealg.MakeNoZero"], unfollowed := true, recurses := true, named := ["internal/bytealg.MaxLen", "unicode/utf8.first", "unicode/utf8.acceptRanges"], apart := false, laid := [("unicode/utf8.acceptRanges", laid_unicode_utf8_acceptRanges), ("unicode/utf8.first", laid_unicode_utf8_first)] }
def FnExactHyphenPlacesSaid : Prop := fnExactHyphenPlacesRow.holds Tryd.pinned (OpenSpec.ofChange fnExactHyphenPlacesSpec)

/-- ITS FALSE NEIGHBOUR: 'it returns false'. Refute it at one input. -/
def fnExactHyphenPlacesWrong : ChangeSpec := { name := "fnExactHyphenPlaces", fn := fun _ => fun
  | [d1, d2, d3] => { results := [.lit (.bool false)], args := [d1, d2, d3] }
  | _ => none }
def FnExactHyphenPlacesWrongFalsely : Prop := fnExactHyphenPlacesRow.holds Tryd.pinned (OpenSpec.ofChange fnExactHyphenPlacesWrong)

/-- 'laws.FnExactPartsOfWord': WHATEVER THE INPUT: true; the input reads as it did. -/
def fnExactPartsOfWordSpec : ChangeSpec := { name := "fnExactPartsOfWord", fn := fun _ => fun
  | [d1, d2, d3] => { results := [.lit (.bool true)], args := [d1, d2, d3] }
  | _ => none }
def fnExactPartsOfWordRow : OpenClaim := { program := "ytcbhhbcfnaekpaadoor", sum := "57a8446637441b94688ccf5d28dc0c0ad3b729d601ab7cdabd018d783a57d03c", func := "loop.example/g01054/laws.FnExactPartsOfWord", spec := "fnExactPartsOfWord", inPlace := ["internal/bytealg.CountString", "internal/bytealg.IndexByteString", "internal/bytealg.IndexString", "internal/abi.NoEscape", "internal/bytealg.MakeNoZero"], unfollowed := true, recurses := true, named := ["internal/bytealg.MaxLen", "unicode/utf8.first", "unicode/utf8.acceptRanges"], apart := false, laid := [("unicode/utf8.acceptRanges", laid_unicode_utf8_acceptRanges), ("unicode/utf8.first", laid_unicode_utf8_first)] }
def FnExactPartsOfWordSaid : Prop := fnExactPartsOfWordRow.holds Tryd.pinned (OpenSpec.ofChange fnExactPartsOfWordSpec)

/-- ITS FALSE NEIGHBOUR: 'it returns false'. Refute it at one input. -/
def fnExactPartsOfWordWrong : ChangeSpec := { name := "fnExactPartsOfWord", fn := fun _ => fun
  | [d1, d2, d3] => { results := [.lit (.bool false)], args := [d1, d2, d3] }
  | _ => none }
def FnExactPartsOfWordWrongFalsely : Prop := fnExactPartsOfWordRow.holds Tryd.pinned (OpenSpec.ofChange fnExactPartsOfWordWrong)

/-- 'laws.FnExactMayBreakAt': WHATEVER THE INPUT: true; the input reads as it did. -/
def fnExactMayBreakAtSpec : ChangeSpec := { name := "fnExactMayBreakAt", fn := fun _ => fun
  | [d1, d2, d3, d4] => { results := [.lit (.bool true)], args := [d1, d2, d3, d4] }
  | _ => none }
def fnExactMayBreakAtRow : OpenClaim := { program := "ytcbhhbcfnaekpaadoor", sum := "57a8446637441b94688ccf5d28dc0c0ad3b729d601ab7cdabd018d783a57d03c", func := "loop.example/g01054/laws.FnExactMayBreakAt", spec := "fnExactMayBreakAt", inPlace := ["internal/bytealg.CountString", "internal/bytealg.IndexByteString", "internal/bytealg.IndexString", "internal/abi.NoEscape", "internal/bytealg.MakeNoZero"], unfollowed := true, recurses := true, named := ["internal/bytealg.MaxLen", "unicode/utf8.first", "unicode/utf8.acceptRanges"], apart := false, laid := [("unicode/utf8.acceptRanges", laid_unicode_utf8_acceptRanges), ("unicode/utf8.first", laid_unicode_utf8_first)] }
def FnExactMayBreakAtSaid : Prop := fnExactMayBreakAtRow.holds Tryd.pinned (OpenSpec.ofChange fnExactMayBreakAtSpec)

/-- ITS FALSE NEIGHBOUR: 'it returns false'. Refute it at one input. -/
def fnExactMayBreakAtWrong : ChangeSpec := { name := "fnExactMayBreakAt", fn := fun _ => fun
  | [d1, d2, d3, d4] => { results := [.lit (.bool false)], args := [d1, d2, d3, d4] }
  | _ => none }
def FnExactMayBreakAtWrongFalsely : Prop := fnExactMayBreakAtRow.holds Tryd.pinned (OpenSpec.ofChange fnExactMayBreakAtWrong)

/-- 'laws.FnExactHyphenText': WHATEVER THE INPUT: true; the input reads as it did. -/
def fnExactHyphenTextSpec : ChangeSpec := { name := "fnExactHyphenText", fn := fun _ => fun
  | [d1, d2, d3] => { results := [.lit (.bool true)], args := [d1, d2, d3] }
  | _ => none }
def fnExactHyphenTextRow : OpenClaim := { program := "ytcbhhbcfnaekpaadoor", sum := "57a8446637441b94688ccf5d28dc0c0ad3b729d601ab7cdabd018d783a57d03c", func := "loop.example/g01054/laws.FnExactHyphenText", spec := "fnExactHyphenText", inPlace := ["internal/bytealg.CountString", "internal/bytealg.IndexByteString", "internal/bytealg.IndexString", "internal/abi.NoEscape", "internal/bytealg.MakeNoZero"], unfollowed := true, recurses := true, named := ["internal/bytealg.MaxLen", "unicode/utf8.first", "unicode/utf8.acceptRanges"], apart := false, laid := [("unicode/utf8.acceptRanges", laid_unicode_utf8_acceptRanges), ("unicode/utf8.first", laid_unicode_utf8_first)] }
def FnExactHyphenTextSaid : Prop := fnExactHyphenTextRow.holds Tryd.pinned (OpenSpec.ofChange fnExactHyphenTextSpec)

/-- ITS FALSE NEIGHBOUR: 'it returns false'. Refute it at one input. -/
def fnExactHyphenTextWrong : ChangeSpec := { name := "fnExactHyphenText", fn := fun _ => fun
  | [d1, d2, d3] => { results := [.lit (.bool false)], args := [d1, d2, d3] }
  | _ => none }
def FnExactHyphenTextWrongFalsely : Prop := fnExactHyphenTextRow.holds Tryd.pinned (OpenSpec.ofChange fnExactHyphenTextWrong)

/-- 'laws.FnExactLastPlaceWithin': WHATEVER THE INPUT: true; the input reads as it did. -/
def fnExactLastPlaceWithinSpec : ChangeSpec := { name := "fnExactLastPlaceWithin", fn := fun _ => fun
  | [d1, d2, d3, d4] => { results := [.lit (.bool true)], args := [d1, d2, d3, d4] }
  | _ => none }
def fnExactLastPlaceWithinRow : OpenClaim := { program := "ytcbhhbcfnaekpaadoor", sum := "57a8446637441b94688ccf5d28dc0c0ad3b729d601ab7cdabd018d783a57d03c", func := "loop.example/g01054/laws.FnExactLastPlaceWithin", spec := "fnExactLastPlaceWithin", inPlace := ["internal/bytealg.CountString", "internal/bytealg.IndexByteString", "internal/bytealg.IndexString", "internal/abi.NoEscape", "internal/bytealg.MakeNoZero"], unfollowed := true, recurses := true, named := ["internal/bytealg.MaxLen", "unicode/utf8.first", "unicode/utf8.acceptRanges"], apart := false, laid := [("unicode/utf8.acceptRanges", laid_unicode_utf8_acceptRanges), ("unicode/utf8.first", laid_unicode_utf8_first)] }
def FnExactLastPlaceWithinSaid : Prop := fnExactLastPlaceWithinRow.holds Tryd.pinned (OpenSpec.ofChange fnExactLastPlaceWithinSpec)

/-- ITS FALSE NEIGHBOUR: 'it returns false'. Refute it at one input. -/
def fnExactLastPlaceWithinWrong : ChangeSpec := { name := "fnExactLastPlaceWithin", fn := fun _ => fun
  | [d1, d2, d3, d4] => { results := [.lit (.bool false)], args := [d1, d2, d3, d4] }
  | _ => none }
def FnExactLastPlaceWithinWrongFalsely : Prop := fnExactLastPlaceWithinRow.holds Tryd.pinned (OpenSpec.ofChange fnExactLastPlaceWithinWrong)

/-- 'laws.FnExactNewException': WHATEVER THE INPUT: true; the input reads as it did. -/
def fnExactNewExceptionSpec : ChangeSpec := { name := "fnExactNewException", fn := fun _ => fun
  | [d1, d2] => { results := [.lit (.bool true)], args := [d1, d2] }
  | _ => none }
def fnExactNewExceptionRow : OpenClaim := { program := "ytcbhhbcfnaekpaadoor", sum := "57a8446637441b94688ccf5d28dc0c0ad3b729d601ab7cdabd018d783a57d03c", func := "loop.example/g01054/laws.FnExactNewException", spec := "fnExactNewException", inPlace := ["internal/bytealg.CountString", "internal/bytealg.IndexByteString", "internal/bytealg.IndexString", "internal/abi.NoEscape", "internal/bytealg.MakeNoZero"], named := ["internal/bytealg.MaxLen", "unicode/utf8.first", "unicode/utf8.acceptRanges"], apart := false, laid := [("unicode/utf8.acceptRanges", laid_unicode_utf8_acceptRanges), ("unicode/utf8.first", laid_unicode_utf8_first)] }
def FnExactNewExceptionSaid : Prop := fnExactNewExceptionRow.holds Tryd.pinned (OpenSpec.ofChange fnExactNewExceptionSpec)

/-- ITS FALSE NEIGHBOUR: 'it returns false'. Refute it at one input. -/
def fnExactNewExceptionWrong : ChangeSpec := { name := "fnExactNewException", fn := fun _ => fun
  | [d1, d2] => { results := [.lit (.bool false)], args := [d1, d2] }
  | _ => none }
def FnExactNewExceptionWrongFalsely : Prop := fnExactNewExceptionRow.holds Tryd.pinned (OpenSpec.ofChange fnExactNewExceptionWrong)

/-- 'laws.FnExactWordsOfExceptions': WHATEVER THE INPUT: true; the input reads as it did. -/
def fnExactWordsOfExceptionsSpec : ChangeSpec := { name := "fnExactWordsOfExceptions", fn := fun _ => fun
  | [d] => { results := [.lit (.bool true)], args := [d] }
  | _ => none }
def fnExactWordsOfExceptionsRow : OpenClaim := { program := "ytcbhhbcfnaekpaadoor", sum := "57a8446637441b94688ccf5d28dc0c0ad3b729d601ab7cdabd018d783a57d03c", func := "loop.example/g01054/laws.FnExactWordsOfExceptions", spec := "fnExactWordsOfExceptions", inPlace := ["internal/bytealg.CountString", "internal/bytealg.IndexByteString", "internal/bytealg.IndexString", "internal/abi.NoEscape", "internal/bytealg.MakeNoZero"], named := ["internal/bytealg.MaxLen", "unicode/utf8.first", "unicode/utf8.acceptRanges"], apart := false, laid := [("unicode/utf8.acceptRanges", laid_unicode_utf8_acceptRanges), ("unicode/utf8.first", laid_unicode_utf8_first)] }
def FnExactWordsOfExceptionsSaid : Prop := fnExactWordsOfExceptionsRow.holds Tryd.pinned (OpenSpec.ofChange fnExactWordsOfExceptionsSpec)

/-- ITS FALSE NEIGHBOUR: 'it returns false'. Refute it at one input. -/
def fnExactWordsOfExceptionsWrong : ChangeSpec := { name := "fnExactWordsOfExceptions", fn := fun _ => fun
  | [d] => { results := [.lit (.bool false)], args := [d] }
  | _ => none }
def FnExactWordsOfExceptionsWrongFalsely : Prop := fnExactWordsOfExceptionsRow.holds Tryd.pinned (OpenSpec.ofChange fnExactWordsOfExceptionsWrong)

/- THE SECOND FORM. 'bulk': how many values and letters a reading holds, each counted each time it is reached (what is shared counts as often as it is met; a slice's spare places count too). A statement '..UptoSaid' is the law's where the arguments, and the package variables that the reading takes, are together of bulk at most 1048576: NARROWER than '..Said'. Prove '..Said' where nothing that the law and all that it calls make is longer than what came in: it says more and counts as full. Else prove '..UptoSaid'. A law counts once. -/
mutual
def uptoBulk {H : Type} : DataW H → Nat
  | .lit (.string bytes) => bytes.length + 1
  | .lit _ => 1
  | .nil => 1
  | .ptr d => uptoBulk d + 1
  | .slice elems spare => uptoBulkAll elems + uptoBulkAll spare + 1
  | .agg parts => uptoBulkAll parts + 1
  | .iface _ d => uptoBulk d + 1
  | .map entries => uptoBulkEntries entries + 1
  | .held _ => 1
def uptoBulkAll {H : Type} : List (DataW H) → Nat
  | [] => 0
  | d :: r => uptoBulk d + uptoBulkAll r
def uptoBulkEntries {H : Type} : List (Lit × DataW H) → Nat
  | [] => 0
  | x :: r => uptoBulkEntry x + uptoBulkEntries r
def uptoBulkEntry {H : Type} : Lit × DataW H → Nat
  | (.string bytes, d) => bytes.length + uptoBulk d + 1
  | (_, d) => uptoBulk d + 1
 end
def uptoSmall : (H : Type) → List (DataW H) → Bool := fun _ ds => decide (uptoBulkAll ds ≤ 1048576)
def OpenSpec.upto (s : _root_.Go.ChangeSpec) : _root_.Go.OpenSpec := { _root_.Go.OpenSpec.ofChange s with cond := some uptoSmall }

/-- 'laws.FnHyphens', WHERE WHAT IT READS IS OF BULK AT MOST 1048576: true; the input reads as it did. -/
def fnHyphensUptoRow : OpenClaim := { program := "ytcbhhbcfnaekpaadoor", sum := "57a8446637441b94688ccf5d28dc0c0ad3b729d601ab7cdabd018d783a57d03c", func := "loop.example/g01054/laws.FnHyphens", spec := "fnHyphens", inPlace := ["internal/bytealg.CountString", "internal/bytealg.IndexByteString", "internal/bytealg.IndexString", "internal/abi.NoEscape", "internal/bytealg.MakeNoZero"], unfollowed := true, recurses := true, named := ["internal/bytealg.MaxLen", "unicode/utf8.first", "unicode/utf8.acceptRanges"], apart := false, laid := [("unicode/utf8.acceptRanges", laid_unicode_utf8_acceptRanges), ("unicode/utf8.first", laid_unicode_utf8_first)], narrowed := true }
def FnHyphensUptoSaid : Prop := fnHyphensUptoRow.holds Tryd.pinned (OpenSpec.upto fnHyphensSpec)

/-- 'laws.FnPatterns', WHERE WHAT IT READS IS OF BULK AT MOST 1048576: true; the input reads as it did. -/
def fnPatternsUptoRow : OpenClaim := { program := "ytcbhhbcfnaekpaadoor", sum := "57a8446637441b94688ccf5d28dc0c0ad3b729d601ab7cdabd018d783a57d03c", func := "loop.example/g01054/laws.FnPatterns", spec := "fnPatterns", inPlace := ["internal/bytealg.CountString", "internal/bytealg.IndexByteString", "internal/bytealg.IndexString", "internal/abi.NoEscape", "internal/bytealg.MakeNoZero"], unfollowed := true, recurses := true, named := ["internal/bytealg.MaxLen", "unicode/utf8.first", "unicode/utf8.acceptRanges"], apart := false, laid := [("unicode/utf8.acceptRanges", laid_unicode_utf8_acceptRanges), ("unicode/utf8.first", laid_unicode_utf8_first)], narrowed := true }
def FnPatternsUptoSaid : Prop := fnPatternsUptoRow.holds Tryd.pinned (OpenSpec.upto fnPatternsSpec)

/-- 'laws.FnExactHyphenPlaces', WHERE WHAT IT READS IS OF BULK AT MOST 1048576: true; the input reads as it did. -/
def fnExactHyphenPlacesUptoRow : OpenClaim := { program := "ytcbhhbcfnaekpaadoor", sum := "57a8446637441b94688ccf5d28dc0c0ad3b729d601ab7cdabd018d783a57d03c", func := "loop.example/g01054/laws.FnExactHyphenPlaces", spec := "fnExactHyphenPlaces", inPlace := ["internal/bytealg.CountString", "internal/bytealg.IndexByteString", "internal/bytealg.IndexString", "internal/abi.NoEscape", "internal/bytealg.MakeNoZero"], unfollowed := true, recurses := true, named := ["internal/bytealg.MaxLen", "unicode/utf8.first", "unicode/utf8.acceptRanges"], apart := false, laid := [("unicode/utf8.acceptRanges", laid_unicode_utf8_acceptRanges), ("unicode/utf8.first", laid_unicode_utf8_first)], narrowed := true }
def FnExactHyphenPlacesUptoSaid : Prop := fnExactHyphenPlacesUptoRow.holds Tryd.pinned (OpenSpec.upto fnExactHyphenPlacesSpec)

/-- 'laws.FnExactPartsOfWord', WHERE WHAT IT READS IS OF BULK AT MOST 1048576: true; the input reads as it did. -/
def fnExactPartsOfWordUptoRow : OpenClaim := { program := "ytcbhhbcfnaekpaadoor", sum := "57a8446637441b94688ccf5d28dc0c0ad3b729d601ab7cdabd018d783a57d03c", func := "loop.example/g01054/laws.FnExactPartsOfWord", spec := "fnExactPartsOfWord", inPlace := ["internal/bytealg.CountString", "internal/bytealg.IndexByteString", "internal/bytealg.IndexString", "internal/abi.NoEscape", "internal/bytealg.MakeNoZero"], unfollowed := true, recurses := true, named := ["internal/bytealg.MaxLen", "unicode/utf8.first", "unicode/utf8.acceptRanges"], apart := false, laid := [("unicode/utf8.acceptRanges", laid_unicode_utf8_acceptRanges), ("unicode/utf8.first", laid_unicode_utf8_first)], narrowed := true }
def FnExactPartsOfWordUptoSaid : Prop := fnExactPartsOfWordUptoRow.holds Tryd.pinned (OpenSpec.upto fnExactPartsOfWordSpec)

/-- 'laws.FnExactMayBreakAt', WHERE WHAT IT READS IS OF BULK AT MOST 1048576: true; the input reads as it did. -/
def fnExactMayBreakAtUptoRow : OpenClaim := { program := "ytcbhhbcfnaekpaadoor", sum := "57a8446637441b94688ccf5d28dc0c0ad3b729d601ab7cdabd018d783a57d03c", func := "loop.example/g01054/laws.FnExactMayBreakAt", spec := "fnExactMayBreakAt", inPlace := ["internal/bytealg.CountString", "internal/bytealg.IndexByteString", "internal/bytealg.IndexString", "internal/abi.NoEscape", "internal/bytealg.MakeNoZero"], unfollowed := true, recurses := true, named := ["internal/bytealg.MaxLen", "unicode/utf8.first", "unicode/utf8.acceptRanges"], apart := false, laid := [("unicode/utf8.acceptRanges", laid_unicode_utf8_acceptRanges), ("unicode/utf8.first", laid_unicode_utf8_first)], narrowed := true }
def FnExactMayBreakAtUptoSaid : Prop := fnExactMayBreakAtUptoRow.holds Tryd.pinned (OpenSpec.upto fnExactMayBreakAtSpec)

/-- 'laws.FnExactHyphenText', WHERE WHAT IT READS IS OF BULK AT MOST 1048576: true; the input reads as it did. -/
def fnExactHyphenTextUptoRow : OpenClaim := { program := "ytcbhhbcfnaekpaadoor", sum := "57a8446637441b94688ccf5d28dc0c0ad3b729d601ab7cdabd018d783a57d03c", func := "loop.example/g01054/laws.FnExactHyphenText", spec := "fnExactHyphenText", inPlace := ["internal/bytealg.CountString", "internal/bytealg.IndexByteString", "internal/bytealg.IndexString", "internal/abi.NoEscape", "internal/bytealg.MakeNoZero"], unfollowed := true, recurses := true, named := ["internal/bytealg.MaxLen", "unicode/utf8.first", "unicode/utf8.acceptRanges"], apart := false, laid := [("unicode/utf8.acceptRanges", laid_unicode_utf8_acceptRanges), ("unicode/utf8.first", laid_unicode_utf8_first)], narrowed := true }
def FnExactHyphenTextUptoSaid : Prop := fnExactHyphenTextUptoRow.holds Tryd.pinned (OpenSpec.upto fnExactHyphenTextSpec)

/-- 'laws.FnExactLastPlaceWithin', WHERE WHAT IT READS IS OF BULK AT MOST 1048576: true; the input reads as it did. -/
def fnExactLastPlaceWithinUptoRow : OpenClaim := { program := "ytcbhhbcfnaekpaadoor", sum := "57a8446637441b94688ccf5d28dc0c0ad3b729d601ab7cdabd018d783a57d03c", func := "loop.example/g01054/laws.FnExactLastPlaceWithin", spec := "fnExactLastPlaceWithin", inPlace := ["internal/bytealg.CountString", "internal/bytealg.IndexByteString", "internal/bytealg.IndexString", "internal/abi.NoEscape", "internal/bytealg.MakeNoZero"], unfollowed := true, recurses := true, named := ["internal/bytealg.MaxLen", "unicode/utf8.first", "unicode/utf8.acceptRanges"], apart := false, laid := [("unicode/utf8.acceptRanges", laid_unicode_utf8_acceptRanges), ("unicode/utf8.first", laid_unicode_utf8_first)], narrowed := true }
def FnExactLastPlaceWithinUptoSaid : Prop := fnExactLastPlaceWithinUptoRow.holds Tryd.pinned (OpenSpec.upto fnExactLastPlaceWithinSpec)

/-- 'laws.FnExactNewException', WHERE WHAT IT READS IS OF BULK AT MOST 1048576: true; the input reads as it did. -/
def fnExactNewExceptionUptoRow : OpenClaim := { program := "ytcbhhbcfnaekpaadoor", sum := "57a8446637441b94688ccf5d28dc0c0ad3b729d601ab7cdabd018d783a57d03c", func := "loop.example/g01054/laws.FnExactNewException", spec := "fnExactNewException", inPlace := ["internal/bytealg.CountString", "internal/bytealg.IndexByteString", "internal/bytealg.IndexString", "internal/abi.NoEscape", "internal/bytealg.MakeNoZero"], named := ["internal/bytealg.MaxLen", "unicode/utf8.first", "unicode/utf8.acceptRanges"], apart := false, laid := [("unicode/utf8.acceptRanges", laid_unicode_utf8_acceptRanges), ("unicode/utf8.first", laid_unicode_utf8_first)], narrowed := true }
def FnExactNewExceptionUptoSaid : Prop := fnExactNewExceptionUptoRow.holds Tryd.pinned (OpenSpec.upto fnExactNewExceptionSpec)

/-- 'laws.FnExactWordsOfExceptions', WHERE WHAT IT READS IS OF BULK AT MOST 1048576: true; the input reads as it did. -/
def fnExactWordsOfExceptionsUptoRow : OpenClaim := { program := "ytcbhhbcfnaekpaadoor", sum := "57a8446637441b94688ccf5d28dc0c0ad3b729d601ab7cdabd018d783a57d03c", func := "loop.example/g01054/laws.FnExactWordsOfExceptions", spec := "fnExactWordsOfExceptions", inPlace := ["internal/bytealg.CountString", "internal/bytealg.IndexByteString", "internal/bytealg.IndexString", "internal/abi.NoEscape", "internal/bytealg.MakeNoZero"], named := ["internal/bytealg.MaxLen", "unicode/utf8.first", "unicode/utf8.acceptRanges"], apart := false, laid := [("unicode/utf8.acceptRanges", laid_unicode_utf8_acceptRanges), ("unicode/utf8.first", laid_unicode_utf8_first)], narrowed := true }
def FnExactWordsOfExceptionsUptoSaid : Prop := fnExactWordsOfExceptionsUptoRow.holds Tryd.pinned (OpenSpec.upto fnExactWordsOfExceptionsSpec)

end Rows
end Go.Proofs.YtcbhhbcfnaekpaaDoor
