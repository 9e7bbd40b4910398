/-
  An argument that is a slice of strings, opened: it reads as a list of texts.
-/
import Derived.Test.YtcbhhbcfnaekpaaDoorOpen
import Derived.Test.YtcbhhbcfnaekpaaDoorWds
import Derived.SliceStrings
namespace Go.Proofs.YtcbhhbcfnaekpaaDoor
open Go.ChangeShapes Go.WideShapes Go.ChangeAt Go.RowKit Go.Joins
set_option linter.unusedVariables false

set_option maxRecDepth 100000 in
theorem open_strs {H : Type} {enc : TypeId × Value → H} {W : World} {sp : Nat → Bool} {hd : Bool} {base : Nat} {v : Value} {d : DataW H} {p : List MemPlace}
    (hv : Value.okWide Tryd.prog W .any base 23 v) (h : DataW.Trod enc Tryd.prog W 0 sp hd 23 v d p) :
    ∃ (A : Option Addr) (f : List ByteArray) (cap : Nat), v = .slice A f.length cap ∧ StrsIn W A f ∧ StrsOk f ∧ f.length ≤ maxLen := by
  obtain ⟨A, len, cap, rfl⟩ := okWide_slice Tryd.underlying23 hv
  obtain ⟨fuel, hf⟩ := h
  rcases open_strings Tryd.underlying23 Tryd.underlying9 cells_str hf with ⟨hcs, _⟩ | ⟨a, l, c, ss, hcs, _, hl, hm, hz, _, hcell, hws⟩
  · simp [Value.cells] at hcs
    obtain ⟨rfl, rfl, rfl⟩ := hcs
    exact ⟨none, [], 0, rfl, fun h => absurd h (by simp), fun k h => absurd h (by simp), by simp⟩
  · simp [Value.cells] at hcs
    obtain ⟨rfl, rfl, rfl⟩ := hcs
    have hlm : len ≤ ss.length := by rw [hz]; split <;> omega
    have hlen : (ss.take len).length = len := by rw [List.length_take]; omega
    refine ⟨some a, ss.take len, cap, by rw [hlen], ?_, ?_, by rw [hlen]; omega⟩
    · intro hn
      obtain ⟨b, off, s⟩ := a
      have g0 := hcell 0 (by omega)
      obtain rfl := spot_of_cell g0
      refine ⟨b, off, rfl, ?_, fun k hk => ?_⟩
      · have := World.block_lt_of_cell? W _ g0
        rwa [add_flat] at this
      · have hk' : k < ss.length := by omega
        have h0 := hcell k hk'
        rw [add_flat] at h0
        rw [h0, List.getElem_take, List.getD_eq_getElem?_getD, List.getElem?_eq_getElem hk']
        rfl
    · intro k hk
      rw [List.getElem_take]
      exact hws _ (List.getElem_mem _)
end Go.Proofs.YtcbhhbcfnaekpaaDoor
