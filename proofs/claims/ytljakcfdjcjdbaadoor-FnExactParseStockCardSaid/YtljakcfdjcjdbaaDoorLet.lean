/-
  The contracts of spec.tyLetters and spec.l1In: each returns what the plain function here says, at every argument, and leaves the world as it is.
-/
import Derived.Test.YtljakcfdjcjdbaaDoorProg
import Derived.WalkKit
import Derived.Lib.Hide
namespace Go.Proofs.YtljakcfdjcjdbaaDoor.T1
open Go.RowKit
set_option linter.unusedVariables false

def isLet (c : UInt8) : Bool := 97 ≤ c && c ≤ 122
def lets (l : List UInt8) : Bool := l.all isLet

theorem in_any (a b c : Int) (w : World) :
    Calls Tryd.prog 32 #[.int .i64 a, .int .i64 b, .int .i64 c] w fun e w' => e = .returned (.bool (decide (b ≤ a) && decide (a ≤ c))) ∧ w = w' := by
  by_cases h1 : b ≤ a <;> by_cases h2 : a ≤ c <;>
  · go_enter Tryd.func32, Tryd.ntmps32
    go_wp2
    go_ret
    exact ⟨by simp [h1, h2], rfl⟩

theorem take_snoc (s : ByteArray) (k : Nat) (h : k < s.size) : s.data.toList.take (k + 1) = s.data.toList.take k ++ [s[k]] := by
  rw [List.take_succ_eq_append_getElem (by simpa using h)]; rfl
theorem lets_snoc (l : List UInt8) (c : UInt8) : lets (l ++ [c]) = (lets l && isLet c) := by simp [lets]
theorem isLet_int (c : UInt8) : isLet c = (decide (97 ≤ (c.toNat : Int)) && decide ((c.toNat : Int) ≤ 122)) := by
  unfold isLet
  have e1 : (97 : UInt8) ≤ c ↔ 97 ≤ (c.toNat : Int) := by rw [UInt8.le_iff_toNat_le]; simp; omega
  have e2 : c ≤ (122 : UInt8) ↔ (c.toNat : Int) ≤ 122 := by rw [UInt8.le_iff_toNat_le]; simp; omega
  simp [e1, e2]
theorem lets_false_of (s : ByteArray) (k : Nat) (h : k < s.size) (hf : isLet s[k] = false) : lets s.data.toList = false := by
  unfold lets
  rw [List.all_eq_false]
  refine ⟨s[k], ?_, by simp [hf]⟩
  exact List.getElem_mem (l := s.data.toList) (by simpa using h)
theorem ret_bool {a b : Bool} (h : a = b) : Ending.returned (.bool a) = .returned (.bool b) := by rw [h]

def tyLettersF (l : List UInt8) (m : Int) : Bool := lets l && (decide (1 ≤ l.length) && decide ((l.length : Int) ≤ m))

end Go.Proofs.YtljakcfdjcjdbaaDoor.T1
