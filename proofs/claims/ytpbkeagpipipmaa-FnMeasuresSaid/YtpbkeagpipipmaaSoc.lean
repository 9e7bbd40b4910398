/-
  The contracts of spec.SetOfCode and impl.SetOfCode.
-/
import Derived.Test.YtpbkeagpipipmaaCmp
import Derived.Test.YtpbkeagpipipmaaWide
namespace Go.Proofs.Ytpbkeagpipipmaa.S1
open Go.RowKit
set_option linter.unusedVariables false

/-- The sort with a Code, of a font. -/
noncomputable def socF (f : List (ByteArray × Int)) (s : ByteArray) : Option Nat := if fontB f && decide (0 ≤ findI f s 0) then some (findI f s 0).toNat else none
def socW (f : List (ByteArray × Int)) : Option Nat → Int | some i => widthAt f i | none => 0
theorem soc_no {f : List (ByteArray × Int)} {s : ByteArray} (h : fontB f = false ∨ findI f s 0 < 0) : socF f s = none := by
  unfold socF
  rw [if_neg]
  simp only [Bool.and_eq_true, decide_eq_true_eq, not_and]
  intro h1
  rcases h with h | h
  · rw [h] at h1; cases h1
  · omega
theorem soc_yes {f : List (ByteArray × Int)} {s : ByteArray} {i : Nat} (h : fontB f = true) (hi : findI f s 0 = (i : Int)) : socF f s = some i := by
  unfold socF
  rw [hi, h, if_pos (by simp)]
  simp

end Go.Proofs.Ytpbkeagpipipmaa.S1
