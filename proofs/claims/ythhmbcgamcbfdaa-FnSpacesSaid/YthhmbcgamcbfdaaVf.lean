/-
  The contract of spec.ThinnestNeeded.
-/
import Derived.Test.YthhmbcgamcbfdaaVe
namespace Go.Proofs.Ythhmbcgamcbfdaa
open Go.RowKit
set_option linter.unusedVariables false

theorem GoodK.split {l : List Int} (h : GoodK l) : ∃ (v : Nat) (r : List Int), l = (v : Int) :: r ∧ 1 ≤ v ∧ v ≤ 54 ∧ Pos r ∧ (∀ j (hj : j < r.length), r[j] ≤ 54) ∧ r.length ≤ 5 := by
  have h1 := h.one
  have h6 := h.six
  have hp := h.pos
  cases l with
  | nil => simp at h1
  | cons k r =>
    have hk := hp k (by simp)
    have h54 := h.le (j := 0) (by simp)
    have h54' : k ≤ 54 := h54
    refine ⟨k.toNat, r, by rw [show ((k.toNat : Nat) : Int) = k from by omega], by omega, by omega, hp.sub (fun j hj => List.mem_cons_of_mem _ hj), fun j hj => ?_, by simp at h6; omega⟩
    have := h.le (j := j + 1) (by simp; omega)
    simpa using this
theorem thin_cons {v : Nat} {r : List Int} {n : Int} {c : Nat} : ThinP ((v : Int) :: r) n c ↔ Can r (n - c * v) := Iff.rfl
/-- From a count on that is too great, none leaves a sum. -/
theorem thin_none {v : Nat} {r : List Int} {N cc : Nat} (hp : Pos r) (hc : N < cc * v) (hl : ∀ k, k < cc → ¬ ThinP ((v : Int) :: r) (N : Int) k) : ∀ k, ¬ ThinP ((v : Int) :: r) (N : Int) k := fun k hk => by
  rcases Nat.lt_or_ge k cc with h | h
  · exact hl k h hk
  · have h1 : (0 : Int) ≤ (N : Int) - k * v := can_nonneg hp hk
    have h2 : cc * v ≤ k * v := Nat.mul_le_mul_right v h
    have h3 : ((k * v : Nat) : Int) = (k : Int) * v := Int.natCast_mul k v
    omega

end Go.Proofs.Ythhmbcgamcbfdaa
