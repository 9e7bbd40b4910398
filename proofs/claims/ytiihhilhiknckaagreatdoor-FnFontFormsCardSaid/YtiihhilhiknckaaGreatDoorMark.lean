/-
  The contracts of laws.markText and laws.markSortS: a mark's text is a function of its number; marking a slice of sorts of the call's own writes into that slice alone.
-/
import Derived.Test.YtiihhilhiknckaaGreatDoorGlue
namespace Go.Proofs.YtiihhilhiknckaaGreatDoor
open Go.RowKit
set_option linter.unusedVariables false

def digB (j : Nat) : UInt8 := UInt8.ofNat (48 + j % 10)
theorem digB_int (j : Nat) : ((digB j).toNat : Int) = 48 + (j : Int) % 10 := by
  unfold digB
  rw [UInt8.toNat_ofNat', Nat.mod_eq_of_lt (by omega)]; omega
def digs : Nat → Nat → List UInt8 → List UInt8
  | 0, _, acc => acc
  | n + 1, k, acc => if k = 0 then acc else digs n (k / 10) (digB k :: acc)
theorem digs_step {n j : Nat} (acc : List UInt8) (h : j ≤ n) (hj : 0 < j) : ∃ m, j / 10 ≤ m ∧ digs n j acc = digs m (j / 10) (digB j :: acc) := by
  cases n with
  | zero => omega
  | succ n => exact ⟨n, by omega, by simp only [digs]; rw [if_neg (by omega)]⟩
theorem digs_end (n : Nat) (acc : List UInt8) : digs n 0 acc = acc := by cases n <;> simp [digs]
def markT (k : Nat) : ByteArray := ⟨((109 : UInt8) :: digs k k []).toArray⟩
theorem bytes_cons (a : UInt8) (b : List UInt8) : (⟨#[a]⟩ : ByteArray) ++ ⟨b.toArray⟩ = ⟨(a :: b).toArray⟩ := by
  apply ByteArray.ext
  apply Array.ext'
  simp
theorem ret_str {a b : ByteArray} (h : a = b) : Ending.returned (.string a) = .returned (.string b) := by rw [h]

/-- The cells of marked sorts from k on. -/
def markF : Nat → Nat → List (ByteArray × Int)
  | _, 0 => []
  | k, n + 1 => (markT k, (k : Int) + 1) :: markF (k + 2) n
theorem markF_succ : ∀ (n k : Nat), markF k (n + 1) = markF k n ++ [(markT (k + 2 * n), (k : Int) + 2 * (n : Int) + 1)]
  | 0, k => by simp [markF]
  | n + 1, k => by
    rw [markF, markF_succ n (k + 2)]
    simp only [markF, List.cons_append]
    rw [show k + 2 + 2 * n = k + 2 * (n + 1) from by omega, show ((k + 2 : Nat) : Int) + 2 * (n : Int) + 1 = (k : Int) + 2 * ((n + 1 : Nat) : Int) + 1 from by omega]
theorem markF_len (k n : Nat) : (markF k n).length = n := by induction n generalizing k with
  | zero => rfl
  | succ n ih => simp [markF, ih]

end Go.Proofs.YtiihhilhiknckaaGreatDoor
