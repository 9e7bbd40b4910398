/-
  An argument that is a slice of ints, opened: it reads as a list of ints.
-/
import Derived.Test.YtcbhhbcfnaekpaaDoorOpenS
namespace Go.Proofs.YtcbhhbcfnaekpaaDoor
open Go.ChangeShapes Go.WideShapes Go.ChangeAt Go.RowKit Go.Joins
set_option linter.unusedVariables false

set_option maxRecDepth 100000 in
theorem open_intz {H : Type} {enc : TypeId × Value → H} {W : World} {sp : Nat → Bool} {hd : Bool} {base : Nat} {v : Value} {d : DataW H} {p : List MemPlace}
    (hv : Value.okWide Tryd.prog W .any base 28 v) (h : DataW.Trod enc Tryd.prog W 0 sp hd 28 v d p) :
    ∃ (A : Option Addr) (f : List Int) (cap : Nat), v = .slice A f.length cap ∧ IntsIn W A f ∧ f.length ≤ maxLen := by
  obtain ⟨A, len, cap, rfl⟩ := okWide_slice Tryd.underlying28 hv
  obtain ⟨fuel, hf⟩ := h
  rcases open_ints Tryd.underlying28 Tryd.underlying3 cells_int hf with ⟨hcs, _⟩ | ⟨a, l, c, zs, hcs, _, hl, hm, hz, _, hcell, hws⟩
  · simp [Value.cells] at hcs
    obtain ⟨rfl, rfl, rfl⟩ := hcs
    exact ⟨none, [], 0, rfl, fun h => absurd h (by simp), by simp⟩
  · simp [Value.cells] at hcs
    obtain ⟨rfl, rfl, rfl⟩ := hcs
    have hlm : len ≤ zs.length := by rw [hz]; split <;> omega
    have hlen : (zs.take len).length = len := by rw [List.length_take]; omega
    refine ⟨some a, zs.take len, cap, by rw [hlen], ?_, by rw [hlen]; omega⟩
    intro hn
    obtain ⟨b, off, s⟩ := a
    have g0 := hcell 0 (by omega)
    obtain rfl := spot_of_cell g0
    refine ⟨b, off, rfl, ?_, fun k hk => ?_⟩
    · have := World.block_lt_of_cell? W _ g0
      rwa [add_flat] at this
    · have hk' : k < zs.length := by omega
      have h0 := hcell k hk'
      rw [add_flat] at h0
      rw [h0, List.getElem_take, List.getD_eq_getElem?_getD, List.getElem?_eq_getElem hk']
      rfl
theorem wf_range {z : Int} (h : (Lit.int .i64 z).wf = true) : -9223372036854775808 ≤ z ∧ z ≤ 9223372036854775807 := by
  simpa [Lit.wf, IntKind.min, IntKind.max, IntKind.signed, IntKind.bits] using h
end Go.Proofs.YtcbhhbcfnaekpaaDoor
