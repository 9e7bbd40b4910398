/-
  The contract of slices.symMergeCmpFunc: all three ways; with it those of slices.SortStableFunc and impl.greatestFirst.
-/
import Derived.Test.YtdlobjjfakffaaaJh
import Derived.Test.YtdlobjjfakffaaaJm
namespace Go.Proofs.Ytdlobjjfakffaaa
open Go.RowKit
set_option linter.unusedVariables false
theorem sym_all : ∀ n, SymTo n
  | 0 => fun b N c a m hi f w hfu hr hN hhi hmg => by have := hmg.am; have := hmg.mb; omega
  | n + 1 => fun b N c a m hi f w hfu hr hN hhi hmg => by
    by_cases h1 : m = a + 1
    · exact symMerge_first b N c a m hi f w hr hN hhi hmg h1
    · by_cases h2 : hi = m + 1
      · exact symMerge_last b N c a m hi f w hr hN hhi hmg h1 h2
      · exact symMerge_main b N c a m hi f w hr hN hhi hmg h1 h2 n hfu (sym_all n)
theorem greatest_any (R : List Int) (A : Option Addr) (c : Nat) (w : World) (hA : IntsIn w A R) (hs : R.length ≤ 32) :
    Calls Try.prog 13 #[.slice A R.length c] w fun e w' => GrTo w w' e R := greatestFirst_any sym_all R A c w hA hs
end Go.Proofs.Ytdlobjjfakffaaa
