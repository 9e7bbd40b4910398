/-
  What the laws hand over, as rows of the call's own: copies of slices of strings, of sorts, of ints.
-/
import Derived.Test.YtnbnegkoanidmaaGreatDoorMsi
import Derived.Test.YtnbnegkoanidmaaGreatDoorHeld
namespace Go.Proofs.YtnbnegkoanidmaaGreatDoor.S1
open Go.RowKit
set_option linter.unusedVariables false

theorem strs_lenT (l : List ByteArray) : (strs l).length = l.length := by simp [strs]
theorem strs_own {w : World} {b : Nat} {e : TypeId} {l : List ByteArray} (h : Marked w b e l.length (strs l)) : Own w b e (strs l) := by
  obtain ⟨cur, h1, h2, h3⟩ := h
  have : cur = (strs l).toArray := by
    apply Array.ext'
    rw [← h3, List.take_of_length_le (by rw [strs_lenT]; simpa using Nat.le_of_eq h2)]
  subst this
  exact h1
/-- The block of a row that was made in world u lies below a later row's. -/
theorem row_lt {w : World} {b size n m : Nat} {e : TypeId} {xs : List Value} (h : w.ownsRow 0 e size (.slice (some ⟨b, 0, none⟩) m m) n xs) : b < w.heap.size := own_block_lt h rfl
theorem szF_range : ∀ (f : List (ByteArray × Int)) (l : Int), 0 ≤ l → szF f l ≤ l
  | [], l, _ => Int.le_refl l
  | x :: r, l, h => by
    unfold szF
    split
    · omega
    · have := szF_range r (l - x.1.size) (by omega)
      omega
theorem sz_range (f : List (ByteArray × Int)) (l : Int) (h : 0 ≤ l) : szSortSF f l ≤ l := by
  unfold szSortSF
  split
  · omega
  · have := szF_range f (l - f.length) (by omega)
    omega
end Go.Proofs.YtnbnegkoanidmaaGreatDoor.S1
