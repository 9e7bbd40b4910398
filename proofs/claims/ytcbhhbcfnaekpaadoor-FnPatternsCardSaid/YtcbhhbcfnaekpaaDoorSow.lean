/-
  The contracts of spec.SortsOfWord and impl.SortsOfWord: both answer the list of sorts with which a word is set, in memory of the call's own.
-/
import Derived.Test.YtcbhhbcfnaekpaaDoorSet
import Derived.Lib.SmallJoins
namespace Go.Proofs.YtcbhhbcfnaekpaaDoor
open Go.RowKit
set_option linter.unusedVariables false

noncomputable def sowF (f : List (ByteArray × Int)) (s : ByteArray) : Option (List Nat) := if fontB f && isWordF s then setW f s else none
theorem isWord_len {s : ByteArray} (h : isWordF s = true) : 1 ≤ s.size ∧ s.size ≤ 16 := by
  unfold isWordF tyLettersF at h
  simp only [Bool.and_eq_true, decide_eq_true_eq, len_list] at h
  omega

def strLen : Value → Nat | .string s => s.size | _ => 0
theorem rest_zero (s : ByteArray) : s = s.extract 0 s.size := ByteArray.ext (Array.ext' (by rw [rest_list]; rfl))
theorem rest_size (s : ByteArray) (p : Nat) : (s.extract p s.size).size = s.size - p := by rw [← len_list, rest_list, List.length_drop, len_list]
theorem rest_cut (s : ByteArray) (p c : Nat) : (s.extract p s.size).extract c (s.extract p s.size).size = s.extract (p + c) s.size :=
  ByteArray.ext (Array.ext' (by rw [rest_list, rest_list, rest_list, List.drop_drop]))
theorem empty_iff (r : ByteArray) : r.toList.isEmpty = decide (r.size = 0) := by
  rw [ByteArray.toList_eq, ← len_list, Bool.eq_iff_iff, List.isEmpty_iff, decide_eq_true_eq, List.length_eq_zero_iff]

end Go.Proofs.YtcbhhbcfnaekpaaDoor
