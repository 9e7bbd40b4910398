/-
  The contracts of spec.l1In, spec.l1All, spec.l1Least: each answers what the plain function here says, at every argument, and leaves the world as it is.
-/
import Derived.Test.YteagclokobkigaaBase
namespace Go.Proofs.Yteagclokobkigaa
open Go.RowKit
set_option linter.unusedVariables false

def inB (lo hi a : Int) : Bool := decide (lo ≤ a) && decide (a ≤ hi)
theorem l1In_any (a b c : Int) (w : World) :
    Calls Try.prog 56 #[.int .i64 a, .int .i64 b, .int .i64 c] w fun e w' => e = .returned (.bool (inB b c a)) ∧ w = w' := by
  by_cases h1 : b ≤ a <;> by_cases h2 : a ≤ c <;>
  · go_enter Try.func56, Try.ntmps56
    go_wp2
    go_ret
    exact ⟨by simp [inB, h1, h2], rfl⟩

def allB (lo hi : Int) (l : List Int) : Bool := l.all (inB lo hi)
theorem allB_snoc (lo hi : Int) (l : List Int) (a : Int) : allB lo hi (l ++ [a]) = (allB lo hi l && inB lo hi a) := by simp [allB]
theorem allB_no {lo hi : Int} {l : List Int} {k : Nat} (h : k < l.length) (hf : inB lo hi l[k] = false) : allB lo hi l = false := by
  unfold allB
  rw [List.all_eq_false]
  exact ⟨l[k], List.getElem_mem h, by simp [hf]⟩

theorem l1Least_any (a b : Int) (w : World) :
    Calls Try.prog 71 #[.int .i64 a, .int .i64 b] w fun e w' => e = .returned (.int .i64 (if a < b then a else b)) ∧ w = w' := by
  by_cases h : a < b
  · go_enter Try.func71, Try.ntmps71
    go_wp2
    go_ret
    exact ⟨rfl, rfl⟩
  · go_enter Try.func71, Try.ntmps71
    go_wp2
    go_ret
    exact ⟨rfl, rfl⟩
end Go.Proofs.Yteagclokobkigaa
