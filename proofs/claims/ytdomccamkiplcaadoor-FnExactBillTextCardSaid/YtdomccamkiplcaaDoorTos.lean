/-
  What the laws hand over, as rows of the call's own: copies of slices of strings, of sorts, of ints.
-/
import Derived.Test.YtdomccamkiplcaaDoorChk
import Derived.Test.YtdomccamkiplcaaDoorHeld
namespace Go.Proofs.YtdomccamkiplcaaDoor
open Go.RowKit
set_option linter.unusedVariables false

theorem strs_len (l : List ByteArray) : (strs l).length = l.length := by simp [strs]
theorem strs_own {w : World} {b : Nat} {e : TypeId} {l : List ByteArray} (h : Marked w b e l.length (strs l)) : Own w b e (strs l) := by
  obtain ⟨cur, h1, h2, h3⟩ := h
  have : cur = (strs l).toArray := by
    apply Array.ext'
    rw [← h3, List.take_of_length_le (by rw [strs_len]; simpa using Nat.le_of_eq h2)]
  subst this
  exact h1
theorem toSortOwn_any (f : List (ByteArray × Int)) (A : Option Addr) (c : Nat) (w : World) (hf : SortsIn w 0 A f) (hn : f.length ≤ 1048576) :
    Calls Tryd.prog 8 #[.slice A f.length c] w fun e w' => e = .returned (.slice (some ⟨w.heap.size, 0, none⟩) f.length f.length) ∧ Below w.heap.size w w' ∧ w'.ownsRow 0 47 2 (.slice (some ⟨w.heap.size, 0, none⟩) f.length f.length) f.length (flat f) :=
  (toSortS_any f A c 0 w hf hn).mono fun _ _ ⟨h1, h2, h3⟩ => ⟨h1, h2, h3.own (by unfold maxLen; omega)⟩
theorem toIntOwn_any (f : List Int) (A : Option Addr) (c : Nat) (w : World) (hf : IntsIn w A f) (hn : f.length ≤ 1048576) :
    Calls Tryd.prog 9 #[.slice A f.length c] w fun e w' => e = .returned (.slice (some ⟨w.heap.size, 0, none⟩) f.length f.length) ∧ Below w.heap.size w w' ∧ w'.ownsRow 0 3 1 (.slice (some ⟨w.heap.size, 0, none⟩) f.length f.length) f.length (intsZ f) :=
  (toIntS_any f A c w hf hn).mono fun _ _ ⟨h1, h2, h3⟩ => ⟨h1, h2, h3.owns_ints (Nat.zero_le _) (by unfold maxLen; omega)⟩
/-- The block of a row that was made in world u lies below a later row's. -/
theorem row_lt {w : World} {b size n m : Nat} {e : TypeId} {xs : List Value} (h : w.ownsRow 0 e size (.slice (some ⟨b, 0, none⟩) m m) n xs) : b < w.heap.size := own_block_lt h rfl
theorem szF_range : ∀ (f : List (ByteArray × Int)) (l : Int), 0 ≤ l → szF f l ≤ l
  | [], l, _ => Int.le_refl l
  | x :: r, l, h => by
    unfold szF
    split
    · omega
    · have := szF_range r (l - x.1.size) (by omega)
      omega
theorem sz_range (f : List (ByteArray × Int)) (l : Int) (h : 0 ≤ l) : szSortSF f l ≤ l := by
  unfold szSortSF
  split
  · omega
  · have := szF_range f (l - f.length) (by omega)
    omega
end Go.Proofs.YtdomccamkiplcaaDoor
