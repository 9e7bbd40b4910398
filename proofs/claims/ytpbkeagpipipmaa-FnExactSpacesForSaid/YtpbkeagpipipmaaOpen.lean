/-
  An argument that is a slice of sorts, opened: it reads as a list of Codes and widths.
-/
import Derived.Test.YtpbkeagpipipmaaTo
import Derived.ProofKit
import Derived.OpenShut
import Derived.ShutString
import Derived.ChangeOld
import Derived.Lib.SmallJoins
import Derived.Deep.SlicePairs
namespace Go.Proofs.Ytpbkeagpipipmaa.S1
open Go.ChangeShapes Go.WideShapes Go.ChangeAt Go.RowKit Go.Joins
set_option linter.unusedVariables false

def strOf : Value → ByteArray | .string s => s | _ => .empty

theorem cells_sort : Try.prog.cellsOf 93 = 2 := by kernel_rfl
theorem cells_str : Try.prog.cellsOf 9 = 1 := by kernel_rfl
theorem cells_int : Try.prog.cellsOf 3 = 1 := by kernel_rfl

theorem spot_of_cell {w : World} {b off : Nat} {sp : _} {v : Value} (h : w.cell? ((⟨b, off, sp⟩ : Addr).add 0) = some v) : sp = none := by
  simpa [Addr.add] using World.cell?_spot h
theorem add_flat (b off k : Nat) : (⟨b, off, none⟩ : Addr).add k = ⟨b, off + k, none⟩ := by
  unfold Addr.add
  by_cases hk : k = 0 <;> simp [hk]

set_option maxRecDepth 100000 in
theorem open_sorts {H : Type} {enc : TypeId × Value → H} {W : World} {sp : Nat → Bool} {hd : Bool} {base : Nat} {v : Value} {d : DataW H} {p : List MemPlace}
    (hv : Value.okWide Try.prog W .any base 57 v) (h : DataW.Trod enc Try.prog W 0 sp hd 57 v d p) :
    ∃ (A : Option Addr) (f : List (ByteArray × Int)) (cap : Nat), v = .slice A f.length cap ∧ SortsIn W 0 A f ∧ CodesOk f ∧ f.length ≤ maxLen := by
  obtain ⟨A, len, cap, rfl⟩ := okWide_slice Try.underlying57 hv
  obtain ⟨fuel, hf⟩ := h
  rcases Deep.open_slice_pairs Try.underlying57 Try.underlying93 cells_sort rfl rfl cells_str cells_int hf with ⟨hcs, _⟩ | ⟨a, l, c, m, n, V0, V1, D0, D1, P0, P1, hcs, _, hl, hm, hmm, _, hi⟩
  · simp [Value.cells] at hcs
    obtain ⟨rfl, rfl, rfl⟩ := hcs
    exact ⟨none, [], 0, rfl, fun h => absurd h (by simp), fun k h => absurd h (by simp), by simp⟩
  · simp [Value.cells] at hcs
    obtain ⟨rfl, rfl, rfl⟩ := hcs
    have hlm : len ≤ m := by rw [hmm]; split <;> omega
    refine ⟨some a, (List.range len).map fun i => (strOf (V0 i), intOf (V1 i)), cap, by simp, ?_, ?_, by simp; omega⟩
    · intro hn
      obtain ⟨b, off, s⟩ := a
      have hpos : 0 < len := by simpa using hn
      obtain ⟨g0, _, _, _⟩ := hi 0 (by omega)
      rw [Nat.zero_mul] at g0
      obtain rfl := spot_of_cell g0
      refine ⟨b, off, rfl, Nat.zero_le _, ?_, fun k hk => ?_⟩
      · have := World.block_lt_of_cell? W _ g0
        rwa [add_flat] at this
      · obtain ⟨h0, h1, t0, t1⟩ := hi k (by simp at hk; omega)
        rw [add_flat] at h0 h1
        obtain ⟨s, e0, _, _⟩ := DataW.trod_string Try.underlying9 t0
        obtain ⟨z, e1, _, _⟩ := DataW.trod_int Try.underlying3 t1
        simp at e0 e1
        rw [h0, show off + k * 2 + 1 = off + (k * 2 + 1) from by omega, h1, List.getElem_map, List.getElem_range, e0, e1]
        exact ⟨rfl, rfl⟩
    · intro k hk
      obtain ⟨_, _, t0, _⟩ := hi k (by simp at hk; omega)
      obtain ⟨s, e0, _, hs⟩ := DataW.trod_string Try.underlying9 t0
      simp at e0
      rw [List.getElem_map, List.getElem_range, e0]
      exact hs
end Go.Proofs.Ytpbkeagpipipmaa.S1
