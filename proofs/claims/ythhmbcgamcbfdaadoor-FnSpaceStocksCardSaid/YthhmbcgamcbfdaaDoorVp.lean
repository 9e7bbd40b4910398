/-
  The contract of impl.fewestForWidths.
-/
import Derived.Test.YthhmbcgamcbfdaaDoorVb
import Derived.BigRegion
namespace Go.Proofs.YthhmbcgamcbfdaaDoor
open Go.RowKit
set_option linter.unusedVariables false

noncomputable def twF (ks : List Int) (x : Nat) : Nat → Value := fun j => .int .i64 (if j < x then fewW ks (j : Int) else 0)
noncomputable def twX (ks : List Int) (x : Nat) (v : Int) : Nat → Value := fun j => .int .i64 (if j < x then fewW ks (j : Int) else if j = x then v else 0)
theorem twF_set (ks : List Int) (x : Nat) (v : Int) : (fun j => if j = x then Value.int .i64 v else twF ks x j) = twX ks x v := by
  funext j; unfold twF twX
  by_cases h : j = x
  · subst h; simp
  · rw [if_neg h]; split <;> simp
theorem twX_set (ks : List Int) (x : Nat) (v v' : Int) : (fun j => if j = x then Value.int .i64 v' else twX ks x v j) = twX ks x v' := by
  funext j; unfold twX
  by_cases h : j = x
  · subst h; simp
  · rw [if_neg h]; split <;> simp
theorem twX_done {ks : List Int} {x : Nat} {v : Int} (h : v = fewW ks (x : Int)) : twX ks x v = twF ks (x + 1) := by
  funext j; unfold twX twF
  by_cases h1 : j < x
  · rw [if_pos h1, if_pos (by omega)]
  · by_cases h2 : j = x
    · subst h2; rw [if_neg h1, if_pos rfl, if_pos (by omega), h]
    · rw [if_neg h1, if_neg h2, if_neg (by omega)]
theorem twF_one (ks : List Int) (j : Nat) : Value.int .i64 0 = twF ks 1 j := by
  unfold twF
  by_cases h : j < 1
  · obtain rfl : j = 0 := by omega
    rw [if_pos (by omega)]; simp [fewW_zero]
  · rw [if_neg h]
def FewWTo (ks : List Int) (N : Nat) (w w' : World) (e : Ending) : Prop := e = .returned (.slice (some ⟨w.heap.size, 0, none⟩) (N + 1) (N + 1)) ∧ Below w.heap.size w w' ∧ Tb w' w.heap.size 3 (N + 1) (fun j => .int .i64 (fewW ks (j : Int)))

end Go.Proofs.YthhmbcgamcbfdaaDoor
