/-
  The contracts of the functions on one sort by value (spec.tySort, spec.IsSort, impl.areLetters, impl.isCode, impl.isWord, impl.IsSort, laws.szSort, laws.toSort): each returns what the plain function here says, at every argument, and changes nothing that was there.
-/
import Derived.Test.YtljakcfdjcjdbaaDoorLet
namespace Go.Proofs.YtljakcfdjcjdbaaDoor.T1
open Go.RowKit
set_option linter.unusedVariables false

def tySortF (c : ByteArray) (n : Int) : Bool := tyLettersF c.data.toList 3 && (decide (1 ≤ n) && decide (n ≤ 54))

def isCodeF (l : List UInt8) (m : Nat) : Bool := (decide (1 ≤ (l.length : Int)) && decide ((l.length : Int) ≤ m)) && lets l

theorem isCodeF_eq (l : List UInt8) (m : Nat) : isCodeF l m = tyLettersF l m := by
  unfold isCodeF tyLettersF
  rw [show decide ((1:Int) ≤ l.length) = decide (1 ≤ l.length) from decide_eq_decide.2 (by omega)]
  exact Bool.and_comm _ _

theorem len_list (s : ByteArray) : s.data.toList.length = s.size := by rw [Array.length_toList]; rfl

end Go.Proofs.YtljakcfdjcjdbaaDoor.T1
