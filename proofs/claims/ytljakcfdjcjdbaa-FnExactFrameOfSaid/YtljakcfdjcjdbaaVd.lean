/-
  The contract of spec.wsFew: the table of the fewest spaces, and of spec.CanFill, NearestFill, MissingSums, ThinnestNeeded.
-/
import Derived.Test.YtljakcfdjcjdbaaVb
import Derived.BigRegion
namespace Go.Proofs.Ytljakcfdjcjdbaa
open Go.RowKit
set_option linter.unusedVariables false

noncomputable def tbF (ks : List Int) (x : Nat) : Nat → Value := fun j => .int .i64 (if j < x then fewV ks (j : Int) else 0)
/-- .. with v at x, where the widths are tried. -/
noncomputable def tbX (ks : List Int) (x : Nat) (v : Int) : Nat → Value := fun j => .int .i64 (if j < x then fewV ks (j : Int) else if j = x then v else 0)
theorem tbF_set (ks : List Int) (x : Nat) (v : Int) : (fun j => if j = x then Value.int .i64 v else tbF ks x j) = tbX ks x v := by
  funext j; unfold tbF tbX
  by_cases h : j = x
  · subst h; simp
  · rw [if_neg h]; split <;> simp
theorem tbX_set (ks : List Int) (x : Nat) (v v' : Int) : (fun j => if j = x then Value.int .i64 v' else tbX ks x v j) = tbX ks x v' := by
  funext j; unfold tbX
  by_cases h : j = x
  · subst h; simp
  · rw [if_neg h]; split <;> simp
theorem tbX_done {ks : List Int} {x : Nat} {v : Int} (h : v = fewV ks (x : Int)) : tbX ks x v = tbF ks (x + 1) := by
  funext j; unfold tbX tbF
  by_cases h1 : j < x
  · rw [if_pos h1, if_pos (by omega)]
  · by_cases h2 : j = x
    · subst h2; rw [if_neg h1, if_pos rfl, if_pos (by omega), h]
    · rw [if_neg h1, if_neg h2, if_neg (by omega)]
theorem tbF_one (ks : List Int) (j : Nat) : Value.int .i64 0 = tbF ks 1 j := by
  unfold tbF
  by_cases h : j < 1
  · obtain rfl : j = 0 := by omega
    rw [if_pos (by omega)]; simp [fewV_zero]
  · rw [if_neg h]
/-- What wsFew answers: a table of its own. -/
def FewTo (ks : List Int) (N : Nat) (w w' : World) (e : Ending) : Prop := e = .returned (.slice (some ⟨w.heap.size, 0, none⟩) (N + 1) (N + 1)) ∧ Below w.heap.size w w' ∧ Tb w' w.heap.size 3 (N + 1) (fun j => .int .i64 (fewV ks (j : Int)))

end Go.Proofs.Ytljakcfdjcjdbaa
