/-
  An argument that is a slice of bytes, opened: it reads as a list of bytes.
-/
import Derived.Test.YteagclokobkigaaOpenG
import Derived.Test.YteagclokobkigaaCu
import Derived.ChangeSlices
import Derived.OpenShut
namespace Go.Proofs.Yteagclokobkigaa
open Go.ChangeShapes Go.WideShapes Go.ChangeAt Go.RowKit Go.Joins
set_option linter.unusedVariables false

theorem cells_u8 : Try.prog.cellsOf 5 = 1 := by kernel_rfl
theorem byte_of {z : Int} (h : (Lit.int .u8 z).wf = true) : ((UInt8.ofNat z.toNat).toNat : Int) = z := by
  have h1 := bounds_u8 h
  simp
  omega
set_option maxRecDepth 100000 in
theorem open_bytes {H : Type} {enc : TypeId × Value → H} {W : World} {sp : Nat → Bool} {hd : Bool} {base : Nat} {v : Value} {d : DataW H} {p : List MemPlace}
    (hv : Value.okWide Try.prog W .any base 22 v) (h : DataW.Trod enc Try.prog W 0 sp hd 22 v d p) :
    ∃ (A : Option Addr) (f : List UInt8) (cap : Nat), v = .slice A f.length cap ∧ BytesIn W A f ∧ f.length ≤ maxLen := by
  obtain ⟨A, len, cap, rfl⟩ := okWide_slice Try.underlying22 hv
  obtain ⟨fuel, hf⟩ := h
  rcases open_ints Try.underlying22 Try.underlying5 cells_u8 hf with ⟨hcs, _⟩ | ⟨a, l, c, zs, hcs, _, hl, hm, hz, _, hcell, hws⟩
  · simp [Value.cells] at hcs
    obtain ⟨rfl, rfl, rfl⟩ := hcs
    exact ⟨none, [], 0, rfl, fun h => absurd h (by simp), by simp⟩
  · simp [Value.cells] at hcs
    obtain ⟨rfl, rfl, rfl⟩ := hcs
    have hlm : len ≤ zs.length := by rw [hz]; split <;> omega
    have hlen : ((zs.take len).map fun z => UInt8.ofNat z.toNat).length = len := by rw [List.length_map, List.length_take]; omega
    refine ⟨some a, (zs.take len).map fun z => UInt8.ofNat z.toNat, cap, by rw [hlen], ?_, by rw [hlen]; omega⟩
    intro hn
    rw [hlen] at hn
    obtain ⟨b, off, s⟩ := a
    have g0 := hcell 0 (by omega)
    obtain rfl := spot_of_cell g0
    refine ⟨b, off, rfl, ?_, fun k hk => ?_⟩
    · have := World.block_lt_of_cell? W _ g0
      rwa [add_flat] at this
    · rw [hlen] at hk
      have hk' : k < zs.length := by omega
      have h0 := hcell k hk'
      rw [add_flat] at h0
      rw [h0, List.getElem_map, List.getElem_take, byte_of (hws _ (List.getElem_mem hk')), List.getD_eq_getElem?_getD, List.getElem?_eq_getElem hk']
      rfl
end Go.Proofs.Yteagclokobkigaa
