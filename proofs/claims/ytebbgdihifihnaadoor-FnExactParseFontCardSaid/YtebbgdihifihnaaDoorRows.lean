/-
  NARROWER THAN 'FOR EVERY INPUT', by the rows' own cells (each row's printed sentence says how): FnExactIsBlend: laid · FnExactDoesFit: laid · FnExactTakeMelt: laid · FnExactTinToAdd: laid · FnExactAntimonyToAdd: laid · FnExactLeadToAdd: laid · FnExactLeastOfOther: laid · FnExactMeltText: laid · FnExactParseMelt: laid · FnExactParseFont: laid.
  DERIVED. THE GIVEN ROWS OF THIS SEAT. 10 by the template 'for every input the law returns true; each argument reads behind the call as it read before'; 0 by the template 'total and deterministic' (their statements: YtebbgdihifihnaaDoorTotals.lean).
  GIVEN WITH THE SEED: the statements are not yours to turn. If you find one false, say at which input.
  Laid BY PROGRAM, IN A SANDBOX (cutbox-rows.mjs): the forced cells as the released guide's own fill.sh prints them over the translation 11be27abed3e24b2… (all of the seat's roots in one cut). By AI agents, Wed Nov 11 2026. No macro, syntax, notation, axiom, sorry.
-/
import Derived.Test.YtebbgdihifihnaaDoorChecked
import GoSem.PinnedTables
import GoSem.Claim
import GoSem.ClaimJoined
import GoSem.ClaimMapViews
import Derived.JoinedTies
import Derived.KernelRfl
namespace Go.Proofs.YtebbgdihifihnaaDoor
/- THE CELL 'sum', in the pinned program and in every row, IS THE sha256 OF THE DUMP (.gsa) THAT YtebbgdihifihnaaDoorProg.lean LOADS. Nothing in Lean hashes anything: it is a label: what it is worth is what the hold of that sum in a sandbox is worth. -/
noncomputable def Tryd.pinned : Pinned := { name := "ytebbgdihifihnaadoor", sum := "11be27abed3e24b2620454baa2d82698b68855782beff0c39157813bc2ce16ce", checked := Tryd.checked }
namespace Rows
def none {H : Type} : Left H := { results := [], args := [] }

/- WHAT THE LISTED PACKAGE-LEVEL VARIABLES READ AS WHEN THE CALL BEGINS. Each datum BY PROGRAM (the guide's laid-datum.mjs) off the statement by which the dump's own 'gosem.cut.vars' lays the variable. In a bare row this is a premise. The card (YtebbgdihifihnaaDoorCards.lean) ties it to the program's text. -/
def laid_loop_example_g01054_impl_blended {H : Type} : DataW H := .agg [.lit (.int .i64 1), .lit (.int .i64 2)]
def laid_math_bits_deBruijn32tab {H : Type} : DataW H := .agg [.lit (.int .u8 0), .lit (.int .u8 1), .lit (.int .u8 28), .lit (.int .u8 2), .lit (.int .u8 29), .lit (.int .u8 14), .lit (.int .u8 24), .lit (.int .u8 3), .lit (.int .u8 30), .lit (.int .u8 22), .lit (.int .u8 20), .lit (.int .u8 15), .lit (.int .u8 25), .lit (.int .u8 17), .lit (.int .u8 4), .lit (.int .u8 8), .lit (.int .u8 31), .lit (.int .u8 27), .lit (.int .u8 13), .lit (.int .u8 23), .lit (.int .u8 21), .lit (.int .u8 19), .lit (.int .u8 16), .lit (.int .u8 7), .lit (.int .u8 26), .lit (.int .u8 12), .lit (.int .u8 18), .lit (.int .u8 6), .lit (.int .u8 11), .lit (.int .u8 5), .lit (.int .u8 10), .lit (.int .u8 9)]
def laid_math_bits_deBruijn64tab {H : Type} : DataW H := .agg [.lit (.int .u8 0), .lit (.int .u8 1), .lit (.int .u8 56), .lit (.int .u8 2), .lit (.int .u8 57), .lit (.int .u8 49), .lit (.int .u8 28), .lit (.int .u8 3), .lit (.int .u8 61), .lit (.int .u8 58), .lit (.int .u8 42), .lit (.int .u8 50), .lit (.int .u8 38), .lit (.int .u8 29), .lit (.int .u8 17), .lit (.int .u8 4), .lit (.int .u8 62), .lit (.int .u8 47), .lit (.int .u8 59), .lit (.int .u8 36), .lit (.int .u8 45), .lit (.int .u8 43), .lit (.int .u8 51), .lit (.int .u8 22), .lit (.int .u8 53), .lit (.int .u8 39), .lit (.int .u8 33), .lit (.int .u8 30), .lit (.int .u8 24), .lit (.int .u8 18), .lit (.int .u8 12), .lit (.int .u8 5), .lit (.int .u8 63), .lit (.int .u8 55), .lit (.int .u8 48), .lit (.int .u8 27), .lit (.int .u8 60), .lit (.int .u8 41), .lit (.int .u8 37), .lit (.int .u8 16), .lit (.int .u8 46), .lit (.int .u8 35), .lit (.int .u8 44), .lit (.int .u8 21), .lit (.int .u8 52), .lit (.int .u8 32), .lit (.int .u8 23), .lit (.int .u8 11), .lit (.int .u8 54), .lit (.int .u8 26), .lit (.int .u8 40), .lit (.int .u8 15), .lit (.int .u8 34), .lit (.int .u8 20), .lit (.int .u8 31), .lit (.int .u8 10), .lit (.int .u8 25), .lit (.int .u8 14), .lit (.int .u8 19), .lit (.int .u8 9), .lit (.int .u8 13), .lit (.int .u8 8), .lit (.int .u8 7), .lit (.int .u8 6)]
def laid_internal_strconv_uint64pow10 {H : Type} : DataW H := .agg [.lit (.int .u64 1), .lit (.int .u64 10), .lit (.int .u64 100), .lit (.int .u64 1000), .lit (.int .u64 10000), .lit (.int .u64 100000), .lit (.int .u64 1000000), .lit (.int .u64 10000000), .lit (.int .u64 100000000), .lit (.int .u64 1000000000), .lit (.int .u64 10000000000), .lit (.int .u64 100000000000), .lit (.int .u64 1000000000000), .lit (.int .u64 10000000000000), .lit (.int .u64 100000000000000), .lit (.int .u64 1000000000000000), .lit (.int .u64 10000000000000000), .lit (.int .u64 100000000000000000), .lit (.int .u64 1000000000000000000), .lit (.int .u64 10000000000000000000)]
def laid_unicode_utf8_acceptRanges {H : Type} : DataW H := .agg [.agg [.lit (.int .u8 128), .lit (.int .u8 191)], .agg [.lit (.int .u8 160), .lit (.int .u8 191)], .agg [.lit (.int .u8 128), .lit (.int .u8 159)], .agg [.lit (.int .u8 144), .lit (.int .u8 191)], .agg [.lit (.int .u8 128), .lit (.int .u8 143)], .agg [.lit (.int .u8 0), .lit (.int .u8 0)], .agg [.lit (.int .u8 0), .lit (.int .u8 0)], .agg [.lit (.int .u8 0), .lit (.int .u8 0)], .agg [.lit (.int .u8 0), .lit (.int .u8 0)], .agg [.lit (.int .u8 0), .lit (.int .u8 0)], .agg [.lit (.int .u8 0), .lit (.int .u8 0)], .agg [.lit (.int .u8 0), .lit (.int .u8 0)], .agg [.lit (.int .u8 0), .lit (.int .u8 0)], .agg [.lit (.int .u8 0), .lit (.int .u8 0)], .agg [.lit (.int .u8 0), .lit (.int .u8 0)], .agg [.lit (.int .u8 0), .lit (.int .u8 0)]]
def laid_strconv_ErrRange {H : Type} : DataW H := .iface "*errors.errorString" (.ptr (.agg [.lit (.string [118, 97, 108, 117, 101, 32, 111, 117, 116, 32, 111, 102, 32, 114, 97, 110, 103, 101])]))
def laid_strconv_ErrSyntax {H : Type} : DataW H := .iface "*errors.errorString" (.ptr (.agg [.lit (.string [105, 110, 118, 97, 108, 105, 100, 32, 115, 121, 110, 116, 97, 120])]))
/-- One of Go's own tables, pinned by name: the form's constant. -/
def laid_unicode_utf8_first : DataW Unit := Go.Pinned.utf8First

/-- 'laws.FnExactIsBlend': WHATEVER THE INPUT: true; the input reads as it did. -/
def fnExactIsBlendSpec : ChangeSpec := { name := "fnExactIsBlend", vars := ["loop.example/g01054/impl.blended"], fn := fun _ => fun
  | [d, g1] => { results := [.lit (.bool true)], args := [d], vars := [g1] }
  | _ => none }
def fnExactIsBlendRow : OpenClaim := { program := "ytebbgdihifihnaadoor", sum := "11be27abed3e24b2620454baa2d82698b68855782beff0c39157813bc2ce16ce", func := "loop.example/g01054/laws.FnExactIsBlend", spec := "fnExactIsBlend", named := ["loop.example/g01054/impl.blended"], apart := false, laid := [("loop.example/g01054/impl.blended", laid_loop_example_g01054_impl_blended)] }
def FnExactIsBlendSaid : Prop := fnExactIsBlendRow.holds Tryd.pinned (OpenSpec.ofChange fnExactIsBlendSpec)

/-- ITS FALSE NEIGHBOUR: 'it returns false'. Refute it at one input. -/
def fnExactIsBlendWrong : ChangeSpec := { name := "fnExactIsBlend", vars := ["loop.example/g01054/impl.blended"], fn := fun _ => fun
  | [d, g1] => { results := [.lit (.bool false)], args := [d], vars := [g1] }
  | _ => none }
def FnExactIsBlendWrongFalsely : Prop := fnExactIsBlendRow.holds Tryd.pinned (OpenSpec.ofChange fnExactIsBlendWrong)

/-- 'laws.FnExactDoesFit': WHATEVER THE INPUT: true; the input reads as it did. -/
def fnExactDoesFitSpec : ChangeSpec := { name := "fnExactDoesFit", vars := ["loop.example/g01054/impl.blended"], fn := fun _ => fun
  | [d1, d2, g1] => { results := [.lit (.bool true)], args := [d1, d2], vars := [g1] }
  | _ => none }
def fnExactDoesFitRow : OpenClaim := { program := "ytebbgdihifihnaadoor", sum := "11be27abed3e24b2620454baa2d82698b68855782beff0c39157813bc2ce16ce", func := "loop.example/g01054/laws.FnExactDoesFit", spec := "fnExactDoesFit", named := ["loop.example/g01054/impl.blended"], apart := false, laid := [("loop.example/g01054/impl.blended", laid_loop_example_g01054_impl_blended)] }
def FnExactDoesFitSaid : Prop := fnExactDoesFitRow.holds Tryd.pinned (OpenSpec.ofChange fnExactDoesFitSpec)

/-- ITS FALSE NEIGHBOUR: 'it returns false'. Refute it at one input. -/
def fnExactDoesFitWrong : ChangeSpec := { name := "fnExactDoesFit", vars := ["loop.example/g01054/impl.blended"], fn := fun _ => fun
  | [d1, d2, g1] => { results := [.lit (.bool false)], args := [d1, d2], vars := [g1] }
  | _ => none }
def FnExactDoesFitWrongFalsely : Prop := fnExactDoesFitRow.holds Tryd.pinned (OpenSpec.ofChange fnExactDoesFitWrong)

/-- 'laws.FnExactTakeMelt': WHATEVER THE INPUT: true; the input reads as it did. -/
def fnExactTakeMeltSpec : ChangeSpec := { name := "fnExactTakeMelt", vars := ["loop.example/g01054/impl.blended"], fn := fun _ => fun
  | [d1, d2, g1] => { results := [.lit (.bool true)], args := [d1, d2], vars := [g1] }
  | _ => none }
def fnExactTakeMeltRow : OpenClaim := { program := "ytebbgdihifihnaadoor", sum := "11be27abed3e24b2620454baa2d82698b68855782beff0c39157813bc2ce16ce", func := "loop.example/g01054/laws.FnExactTakeMelt", spec := "fnExactTakeMelt", named := ["loop.example/g01054/impl.blended"], apart := false, laid := [("loop.example/g01054/impl.blended", laid_loop_example_g01054_impl_blended)] }
def FnExactTakeMeltSaid : Prop := fnExactTakeMeltRow.holds Tryd.pinned (OpenSpec.ofChange fnExactTakeMeltSpec)

/-- ITS FALSE NEIGHBOUR: 'it returns false'. Refute it at one input. -/
def fnExactTakeMeltWrong : ChangeSpec := { name := "fnExactTakeMelt", vars := ["loop.example/g01054/impl.blended"], fn := fun _ => fun
  | [d1, d2, g1] => { results := [.lit (.bool false)], args := [d1, d2], vars := [g1] }
  | _ => none }
def FnExactTakeMeltWrongFalsely : Prop := fnExactTakeMeltRow.holds Tryd.pinned (OpenSpec.ofChange fnExactTakeMeltWrong)

/-- 'laws.FnExactTinToAdd': WHATEVER THE INPUT: true; the input reads as it did. -/
def fnExactTinToAddSpec : ChangeSpec := { name := "fnExactTinToAdd", vars := ["loop.example/g01054/impl.blended"], fn := fun _ => fun
  | [d1, d2, g1] => { results := [.lit (.bool true)], args := [d1, d2], vars := [g1] }
  | _ => none }
def fnExactTinToAddRow : OpenClaim := { program := "ytebbgdihifihnaadoor", sum := "11be27abed3e24b2620454baa2d82698b68855782beff0c39157813bc2ce16ce", func := "loop.example/g01054/laws.FnExactTinToAdd", spec := "fnExactTinToAdd", named := ["loop.example/g01054/impl.blended"], apart := false, laid := [("loop.example/g01054/impl.blended", laid_loop_example_g01054_impl_blended)] }
def FnExactTinToAddSaid : Prop := fnExactTinToAddRow.holds Tryd.pinned (OpenSpec.ofChange fnExactTinToAddSpec)

/-- ITS FALSE NEIGHBOUR: 'it returns false'. Refute it at one input. -/
def fnExactTinToAddWrong : ChangeSpec := { name := "fnExactTinToAdd", vars := ["loop.example/g01054/impl.blended"], fn := fun _ => fun
  | [d1, d2, g1] => { results := [.lit (.bool false)], args := [d1, d2], vars := [g1] }
  | _ => none }
def FnExactTinToAddWrongFalsely : Prop := fnExactTinToAddRow.holds Tryd.pinned (OpenSpec.ofChange fnExactTinToAddWrong)

/-- 'laws.FnExactAntimonyToAdd': WHATEVER THE INPUT: true; the input reads as it did. -/
def fnExactAntimonyToAddSpec : ChangeSpec := { name := "fnExactAntimonyToAdd", vars := ["loop.example/g01054/impl.blended"], fn := fun _ => fun
  | [d1, d2, g1] => { results := [.lit (.bool true)], args := [d1, d2], vars := [g1] }
  | _ => none }
def fnExactAntimonyToAddRow : OpenClaim := { program := "ytebbgdihifihnaadoor", sum := "11be27abed3e24b2620454baa2d82698b68855782beff0c39157813bc2ce16ce", func := "loop.example/g01054/laws.FnExactAntimonyToAdd", spec := "fnExactAntimonyToAdd", named := ["loop.example/g01054/impl.blended"], apart := false, laid := [("loop.example/g01054/impl.blended", laid_loop_example_g01054_impl_blended)] }
def FnExactAntimonyToAddSaid : Prop := fnExactAntimonyToAddRow.holds Tryd.pinned (OpenSpec.ofChange fnExactAntimonyToAddSpec)

/-- ITS FALSE NEIGHBOUR: 'it returns false'. Refute it at one input. -/
def fnExactAntimonyToAddWrong : ChangeSpec := { name := "fnExactAntimonyToAdd", vars := ["loop.example/g01054/impl.blended"], fn := fun _ => fun
  | [d1, d2, g1] => { results := [.lit (.bool false)], args := [d1, d2], vars := [g1] }
  | _ => none }
def FnExactAntimonyToAddWrongFalsely : Prop := fnExactAntimonyToAddRow.holds Tryd.pinned (OpenSpec.ofChange fnExactAntimonyToAddWrong)

/-- 'laws.FnExactLeadToAdd': WHATEVER THE INPUT: true; the input reads as it did. -/
def fnExactLeadToAddSpec : ChangeSpec := { name := "fnExactLeadToAdd", vars := ["loop.example/g01054/impl.blended"], fn := fun _ => fun
  | [d1, d2, g1] => { results := [.lit (.bool true)], args := [d1, d2], vars := [g1] }
  | _ => none }
def fnExactLeadToAddRow : OpenClaim := { program := "ytebbgdihifihnaadoor", sum := "11be27abed3e24b2620454baa2d82698b68855782beff0c39157813bc2ce16ce", func := "loop.example/g01054/laws.FnExactLeadToAdd", spec := "fnExactLeadToAdd", named := ["loop.example/g01054/impl.blended"], apart := false, laid := [("loop.example/g01054/impl.blended", laid_loop_example_g01054_impl_blended)] }
def FnExactLeadToAddSaid : Prop := fnExactLeadToAddRow.holds Tryd.pinned (OpenSpec.ofChange fnExactLeadToAddSpec)

/-- ITS FALSE NEIGHBOUR: 'it returns false'. Refute it at one input. -/
def fnExactLeadToAddWrong : ChangeSpec := { name := "fnExactLeadToAdd", vars := ["loop.example/g01054/impl.blended"], fn := fun _ => fun
  | [d1, d2, g1] => { results := [.lit (.bool false)], args := [d1, d2], vars := [g1] }
  | _ => none }
def FnExactLeadToAddWrongFalsely : Prop := fnExactLeadToAddRow.holds Tryd.pinned (OpenSpec.ofChange fnExactLeadToAddWrong)

/-- 'laws.FnExactLeastOfOther': WHATEVER THE INPUT: true; the input reads as it did. -/
def fnExactLeastOfOtherSpec : ChangeSpec := { name := "fnExactLeastOfOther", vars := ["loop.example/g01054/impl.blended"], fn := fun _ => fun
  | [d1, d2, d3, g1] => { results := [.lit (.bool true)], args := [d1, d2, d3], vars := [g1] }
  | _ => none }
def fnExactLeastOfOtherRow : OpenClaim := { program := "ytebbgdihifihnaadoor", sum := "11be27abed3e24b2620454baa2d82698b68855782beff0c39157813bc2ce16ce", func := "loop.example/g01054/laws.FnExactLeastOfOther", spec := "fnExactLeastOfOther", named := ["loop.example/g01054/impl.blended"], apart := false, laid := [("loop.example/g01054/impl.blended", laid_loop_example_g01054_impl_blended)] }
def FnExactLeastOfOtherSaid : Prop := fnExactLeastOfOtherRow.holds Tryd.pinned (OpenSpec.ofChange fnExactLeastOfOtherSpec)

/-- ITS FALSE NEIGHBOUR: 'it returns false'. Refute it at one input. -/
def fnExactLeastOfOtherWrong : ChangeSpec := { name := "fnExactLeastOfOther", vars := ["loop.example/g01054/impl.blended"], fn := fun _ => fun
  | [d1, d2, d3, g1] => { results := [.lit (.bool false)], args := [d1, d2, d3], vars := [g1] }
  | _ => none }
def FnExactLeastOfOtherWrongFalsely : Prop := fnExactLeastOfOtherRow.holds Tryd.pinned (OpenSpec.ofChange fnExactLeastOfOtherWrong)

/-- 'laws.FnExactMeltText': WHATEVER THE INPUT: true; the input reads as it did. -/
def fnExactMeltTextSpec : ChangeSpec := { name := "fnExactMeltText", fn := fun _ => fun
  | [d] => { results := [.lit (.bool true)], args := [d] }
  | _ => none }
def fnExactMeltTextRow : OpenClaim := { program := "ytebbgdihifihnaadoor", sum := "11be27abed3e24b2620454baa2d82698b68855782beff0c39157813bc2ce16ce", func := "loop.example/g01054/laws.FnExactMeltText", spec := "fnExactMeltText", inPlace := ["internal/abi.NoEscape", "internal/bytealg.MakeNoZero"], recurses := true, named := ["internal/strconv.uint64pow10", "math/bits.deBruijn32tab", "math/bits.deBruijn64tab"], apart := false, laid := [("math/bits.deBruijn32tab", laid_math_bits_deBruijn32tab), ("math/bits.deBruijn64tab", laid_math_bits_deBruijn64tab), ("internal/strconv.uint64pow10", laid_internal_strconv_uint64pow10)] }
def FnExactMeltTextSaid : Prop := fnExactMeltTextRow.holds Tryd.pinned (OpenSpec.ofChange fnExactMeltTextSpec)

/-- ITS FALSE NEIGHBOUR: 'it returns false'. Refute it at one input. -/
def fnExactMeltTextWrong : ChangeSpec := { name := "fnExactMeltText", fn := fun _ => fun
  | [d] => { results := [.lit (.bool false)], args := [d] }
  | _ => none }
def FnExactMeltTextWrongFalsely : Prop := fnExactMeltTextRow.holds Tryd.pinned (OpenSpec.ofChange fnExactMeltTextWrong)

/-- 'laws.FnExactParseMelt': WHATEVER THE INPUT: true; the input reads as it did. -/
def fnExactParseMeltSpec : ChangeSpec := { name := "fnExactParseMelt", fn := fun _ => fun
  | [d] => { results := [.lit (.bool true)], args := [d] }
  | _ => none }
def fnExactParseMeltRow : OpenClaim := { program := "ytebbgdihifihnaadoor", sum := "11be27abed3e24b2620454baa2d82698b68855782beff0c39157813bc2ce16ce", func := "loop.example/g01054/laws.FnExactParseMelt", spec := "fnExactParseMelt", inPlace := ["internal/bytealg.CountString", "internal/bytealg.IndexByteString", "internal/bytealg.IndexString"], named := ["unicode/utf8.first", "unicode/utf8.acceptRanges", "internal/bytealg.MaxLen", "strconv.ErrSyntax", "strconv.ErrRange", "internal/strconv.uint64pow10", "math/bits.deBruijn32tab", "math/bits.deBruijn64tab"], apart := false, laid := [("math/bits.deBruijn32tab", laid_math_bits_deBruijn32tab), ("math/bits.deBruijn64tab", laid_math_bits_deBruijn64tab), ("internal/strconv.uint64pow10", laid_internal_strconv_uint64pow10), ("unicode/utf8.acceptRanges", laid_unicode_utf8_acceptRanges), ("strconv.ErrRange", laid_strconv_ErrRange), ("strconv.ErrSyntax", laid_strconv_ErrSyntax), ("unicode/utf8.first", laid_unicode_utf8_first)] }
def FnExactParseMeltSaid : Prop := fnExactParseMeltRow.holds Tryd.pinned (OpenSpec.ofChange fnExactParseMeltSpec)

/-- ITS FALSE NEIGHBOUR: 'it returns false'. Refute it at one input. -/
def fnExactParseMeltWrong : ChangeSpec := { name := "fnExactParseMelt", fn := fun _ => fun
  | [d] => { results := [.lit (.bool false)], args := [d] }
  | _ => none }
def FnExactParseMeltWrongFalsely : Prop := fnExactParseMeltRow.holds Tryd.pinned (OpenSpec.ofChange fnExactParseMeltWrong)

/-- 'laws.FnExactParseFont': WHATEVER THE INPUT: true; the input reads as it did. -/
def fnExactParseFontSpec : ChangeSpec := { name := "fnExactParseFont", fn := fun _ => fun
  | [d] => { results := [.lit (.bool true)], args := [d] }
  | _ => none }
def fnExactParseFontRow : OpenClaim := { program := "ytebbgdihifihnaadoor", sum := "11be27abed3e24b2620454baa2d82698b68855782beff0c39157813bc2ce16ce", func := "loop.example/g01054/laws.FnExactParseFont", spec := "fnExactParseFont", inPlace := ["internal/bytealg.IndexByteString", "internal/bytealg.IndexString"], recurses := true, named := ["internal/bytealg.MaxLen", "strconv.ErrSyntax", "strconv.ErrRange", "internal/strconv.uint64pow10", "math/bits.deBruijn32tab", "math/bits.deBruijn64tab"], apart := false, laid := [("math/bits.deBruijn32tab", laid_math_bits_deBruijn32tab), ("math/bits.deBruijn64tab", laid_math_bits_deBruijn64tab), ("internal/strconv.uint64pow10", laid_internal_strconv_uint64pow10), ("strconv.ErrRange", laid_strconv_ErrRange), ("strconv.ErrSyntax", laid_strconv_ErrSyntax)] }
def FnExactParseFontSaid : Prop := fnExactParseFontRow.holds Tryd.pinned (OpenSpec.ofChange fnExactParseFontSpec)

/-- ITS FALSE NEIGHBOUR: 'it returns false'. Refute it at one input. -/
def fnExactParseFontWrong : ChangeSpec := { name := "fnExactParseFont", fn := fun _ => fun
  | [d] => { results := [.lit (.bool false)], args := [d] }
  | _ => none }
def FnExactParseFontWrongFalsely : Prop := fnExactParseFontRow.holds Tryd.pinned (OpenSpec.ofChange fnExactParseFontWrong)

/- THE SECOND FORM. 'bulk': how many values and letters a reading holds, each counted each time it is reached (what is shared counts as often as it is met; a slice's spare places count too). A statement '..UptoSaid' is the law's where the arguments, and the package variables that the reading takes, are together of bulk at most 1048576: NARROWER than '..Said'. Prove '..Said' where nothing that the law and all that it calls make is longer than what came in: it says more and counts as full. Else prove '..UptoSaid'. A law counts once. -/
mutual
def uptoBulk {H : Type} : DataW H → Nat
  | .lit (.string bytes) => bytes.length + 1
  | .lit _ => 1
  | .nil => 1
  | .ptr d => uptoBulk d + 1
  | .slice elems spare => uptoBulkAll elems + uptoBulkAll spare + 1
  | .agg parts => uptoBulkAll parts + 1
  | .iface _ d => uptoBulk d + 1
  | .map entries => uptoBulkEntries entries + 1
  | .held _ => 1
def uptoBulkAll {H : Type} : List (DataW H) → Nat
  | [] => 0
  | d :: r => uptoBulk d + uptoBulkAll r
def uptoBulkEntries {H : Type} : List (Lit × DataW H) → Nat
  | [] => 0
  | x :: r => uptoBulkEntry x + uptoBulkEntries r
def uptoBulkEntry {H : Type} : Lit × DataW H → Nat
  | (.string bytes, d) => bytes.length + uptoBulk d + 1
  | (_, d) => uptoBulk d + 1
 end
def uptoSmall : (H : Type) → List (DataW H) → Bool := fun _ ds => decide (uptoBulkAll ds ≤ 1048576)
def OpenSpec.upto (s : _root_.Go.ChangeSpec) : _root_.Go.OpenSpec := { _root_.Go.OpenSpec.ofChange s with cond := some uptoSmall }

/-- 'laws.FnExactIsBlend', WHERE WHAT IT READS IS OF BULK AT MOST 1048576: true; the input reads as it did. -/
def fnExactIsBlendUptoRow : OpenClaim := { program := "ytebbgdihifihnaadoor", sum := "11be27abed3e24b2620454baa2d82698b68855782beff0c39157813bc2ce16ce", func := "loop.example/g01054/laws.FnExactIsBlend", spec := "fnExactIsBlend", named := ["loop.example/g01054/impl.blended"], apart := false, laid := [("loop.example/g01054/impl.blended", laid_loop_example_g01054_impl_blended)], narrowed := true }
def FnExactIsBlendUptoSaid : Prop := fnExactIsBlendUptoRow.holds Tryd.pinned (OpenSpec.upto fnExactIsBlendSpec)

/-- 'laws.FnExactDoesFit', WHERE WHAT IT READS IS OF BULK AT MOST 1048576: true; the input reads as it did. -/
def fnExactDoesFitUptoRow : OpenClaim := { program := "ytebbgdihifihnaadoor", sum := "11be27abed3e24b2620454baa2d82698b68855782beff0c39157813bc2ce16ce", func := "loop.example/g01054/laws.FnExactDoesFit", spec := "fnExactDoesFit", named := ["loop.example/g01054/impl.blended"], apart := false, laid := [("loop.example/g01054/impl.blended", laid_loop_example_g01054_impl_blended)], narrowed := true }
def FnExactDoesFitUptoSaid : Prop := fnExactDoesFitUptoRow.holds Tryd.pinned (OpenSpec.upto fnExactDoesFitSpec)

/-- 'laws.FnExactTakeMelt', WHERE WHAT IT READS IS OF BULK AT MOST 1048576: true; the input reads as it did. -/
def fnExactTakeMeltUptoRow : OpenClaim := { program := "ytebbgdihifihnaadoor", sum := "11be27abed3e24b2620454baa2d82698b68855782beff0c39157813bc2ce16ce", func := "loop.example/g01054/laws.FnExactTakeMelt", spec := "fnExactTakeMelt", named := ["loop.example/g01054/impl.blended"], apart := false, laid := [("loop.example/g01054/impl.blended", laid_loop_example_g01054_impl_blended)], narrowed := true }
def FnExactTakeMeltUptoSaid : Prop := fnExactTakeMeltUptoRow.holds Tryd.pinned (OpenSpec.upto fnExactTakeMeltSpec)

/-- 'laws.FnExactTinToAdd', WHERE WHAT IT READS IS OF BULK AT MOST 1048576: true; the input reads as it did. -/
def fnExactTinToAddUptoRow : OpenClaim := { program := "ytebbgdihifihnaadoor", sum := "11be27abed3e24b2620454baa2d82698b68855782beff0c39157813bc2ce16ce", func := "loop.example/g01054/laws.FnExactTinToAdd", spec := "fnExactTinToAdd", named := ["loop.example/g01054/impl.blended"], apart := false, laid := [("loop.example/g01054/impl.blended", laid_loop_example_g01054_impl_blended)], narrowed := true }
def FnExactTinToAddUptoSaid : Prop := fnExactTinToAddUptoRow.holds Tryd.pinned (OpenSpec.upto fnExactTinToAddSpec)

/-- 'laws.FnExactAntimonyToAdd', WHERE WHAT IT READS IS OF BULK AT MOST 1048576: true; the input reads as it did. -/
def fnExactAntimonyToAddUptoRow : OpenClaim := { program := "ytebbgdihifihnaadoor", sum := "11be27abed3e24b2620454baa2d82698b68855782beff0c39157813bc2ce16ce", func := "loop.example/g01054/laws.FnExactAntimonyToAdd", spec := "fnExactAntimonyToAdd", named := ["loop.example/g01054/impl.blended"], apart := false, laid := [("loop.example/g01054/impl.blended", laid_loop_example_g01054_impl_blended)], narrowed := true }
def FnExactAntimonyToAddUptoSaid : Prop := fnExactAntimonyToAddUptoRow.holds Tryd.pinned (OpenSpec.upto fnExactAntimonyToAddSpec)

/-- 'laws.FnExactLeadToAdd', WHERE WHAT IT READS IS OF BULK AT MOST 1048576: true; the input reads as it did. -/
def fnExactLeadToAddUptoRow : OpenClaim := { program := "ytebbgdihifihnaadoor", sum := "11be27abed3e24b2620454baa2d82698b68855782beff0c39157813bc2ce16ce", func := "loop.example/g01054/laws.FnExactLeadToAdd", spec := "fnExactLeadToAdd", named := ["loop.example/g01054/impl.blended"], apart := false, laid := [("loop.example/g01054/impl.blended", laid_loop_example_g01054_impl_blended)], narrowed := true }
def FnExactLeadToAddUptoSaid : Prop := fnExactLeadToAddUptoRow.holds Tryd.pinned (OpenSpec.upto fnExactLeadToAddSpec)

/-- 'laws.FnExactLeastOfOther', WHERE WHAT IT READS IS OF BULK AT MOST 1048576: true; the input reads as it did. -/
def fnExactLeastOfOtherUptoRow : OpenClaim := { program := "ytebbgdihifihnaadoor", sum := "11be27abed3e24b2620454baa2d82698b68855782beff0c39157813bc2ce16ce", func := "loop.example/g01054/laws.FnExactLeastOfOther", spec := "fnExactLeastOfOther", named := ["loop.example/g01054/impl.blended"], apart := false, laid := [("loop.example/g01054/impl.blended", laid_loop_example_g01054_impl_blended)], narrowed := true }
def FnExactLeastOfOtherUptoSaid : Prop := fnExactLeastOfOtherUptoRow.holds Tryd.pinned (OpenSpec.upto fnExactLeastOfOtherSpec)

/-- 'laws.FnExactMeltText', WHERE WHAT IT READS IS OF BULK AT MOST 1048576: true; the input reads as it did. -/
def fnExactMeltTextUptoRow : OpenClaim := { program := "ytebbgdihifihnaadoor", sum := "11be27abed3e24b2620454baa2d82698b68855782beff0c39157813bc2ce16ce", func := "loop.example/g01054/laws.FnExactMeltText", spec := "fnExactMeltText", inPlace := ["internal/abi.NoEscape", "internal/bytealg.MakeNoZero"], recurses := true, named := ["internal/strconv.uint64pow10", "math/bits.deBruijn32tab", "math/bits.deBruijn64tab"], apart := false, laid := [("math/bits.deBruijn32tab", laid_math_bits_deBruijn32tab), ("math/bits.deBruijn64tab", laid_math_bits_deBruijn64tab), ("internal/strconv.uint64pow10", laid_internal_strconv_uint64pow10)], narrowed := true }
def FnExactMeltTextUptoSaid : Prop := fnExactMeltTextUptoRow.holds Tryd.pinned (OpenSpec.upto fnExactMeltTextSpec)

/-- 'laws.FnExactParseMelt', WHERE WHAT IT READS IS OF BULK AT MOST 1048576: true; the input reads as it did. -/
def fnExactParseMeltUptoRow : OpenClaim := { program := "ytebbgdihifihnaadoor", sum := "11be27abed3e24b2620454baa2d82698b68855782beff0c39157813bc2ce16ce", func := "loop.example/g01054/laws.FnExactParseMelt", spec := "fnExactParseMelt", inPlace := ["internal/bytealg.CountString", "internal/bytealg.IndexByteString", "internal/bytealg.IndexString"], named := ["unicode/utf8.first", "unicode/utf8.acceptRanges", "internal/bytealg.MaxLen", "strconv.ErrSyntax", "strconv.ErrRange", "internal/strconv.uint64pow10", "math/bits.deBruijn32tab", "math/bits.deBruijn64tab"], apart := false, laid := [("math/bits.deBruijn32tab", laid_math_bits_deBruijn32tab), ("math/bits.deBruijn64tab", laid_math_bits_deBruijn64tab), ("internal/strconv.uint64pow10", laid_internal_strconv_uint64pow10), ("unicode/utf8.acceptRanges", laid_unicode_utf8_acceptRanges), ("strconv.ErrRange", laid_strconv_ErrRange), ("strconv.ErrSyntax", laid_strconv_ErrSyntax), ("unicode/utf8.first", laid_unicode_utf8_first)], narrowed := true }
def FnExactParseMeltUptoSaid : Prop := fnExactParseMeltUptoRow.holds Tryd.pinned (OpenSpec.upto fnExactParseMeltSpec)

/-- 'laws.FnExactParseFont', WHERE WHAT IT READS IS OF BULK AT MOST 1048576: true; the input reads as it did. -/
def fnExactParseFontUptoRow : OpenClaim := { program := "ytebbgdihifihnaadoor", sum := "11be27abed3e24b2620454baa2d82698b68855782beff0c39157813bc2ce16ce", func := "loop.example/g01054/laws.FnExactParseFont", spec := "fnExactParseFont", inPlace := ["internal/bytealg.IndexByteString", "internal/bytealg.IndexString"], recurses := true, named := ["internal/bytealg.MaxLen", "strconv.ErrSyntax", "strconv.ErrRange", "internal/strconv.uint64pow10", "math/bits.deBruijn32tab", "math/bits.deBruijn64tab"], apart := false, laid := [("math/bits.deBruijn32tab", laid_math_bits_deBruijn32tab), ("math/bits.deBruijn64tab", laid_math_bits_deBruijn64tab), ("internal/strconv.uint64pow10", laid_internal_strconv_uint64pow10), ("strconv.ErrRange", laid_strconv_ErrRange), ("strconv.ErrSyntax", laid_strconv_ErrSyntax)], narrowed := true }
def FnExactParseFontUptoSaid : Prop := fnExactParseFontUptoRow.holds Tryd.pinned (OpenSpec.upto fnExactParseFontSpec)

end Rows
end Go.Proofs.YtebbgdihifihnaaDoor
