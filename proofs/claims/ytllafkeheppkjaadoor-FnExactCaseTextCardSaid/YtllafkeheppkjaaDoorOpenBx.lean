/-
  An argument of the struct type Box, or a slice of them, opened: it reads as plain words.
-/
import Derived.Test.YtllafkeheppkjaaDoorOpenV
import Derived.Test.YtllafkeheppkjaaDoorBo
namespace Go.Proofs.YtllafkeheppkjaaDoor
open Go.ChangeShapes Go.WideShapes Go.ChangeAt Go.RowKit Go.Joins Go.Deep
set_option linter.unusedVariables false

noncomputable def fieldsOfBx : Array Field := match Tryd.prog.underlying 51 with | some (.struct fs) => fs | _ => #[]
theorem und_bx : Tryd.prog.underlying 51 = some (.struct fieldsOfBx) := by kernel_rfl
theorem size_bx : fieldsOfBx.size = 4 := by kernel_rfl
theorem ti_bx : tiFields Tryd.prog fieldsOfBx [true, false, false, false] = true := by kernel_rfl
theorem cells_bx : Tryd.prog.cellsOf 51 = fieldsOfBx.size := by kernel_rfl
def toBx (l : List Value) : Bx := ⟨strOf (l.getD 0 undef), intOf (l.getD 1 undef), intOf (l.getD 2 undef), intOf (l.getD 3 undef)⟩
theorem toBx_vals {l : List Value} (h : tiVals [true, false, false, false] l) : l = (toBx l).vals ∧ (toBx l).cod.size ≤ maxLen := by
  obtain ⟨v0, r0, rfl, ⟨s, rfl, hs⟩, v1, r1, rfl, ⟨a, rfl, _⟩, v2, r2, rfl, ⟨b, rfl, _⟩, v3, r3, rfl, ⟨c, rfl, _⟩, rfl⟩ := h
  exact ⟨rfl, hs⟩
section
variable {H : Type} {enc : TypeId × Value → H} {W : World} {sp : Nat → Bool} {hd : Bool} {base : Nat} {v : Value} {d : DataW H} {p : List MemPlace}
set_option maxRecDepth 100000 in
theorem open_bx (hv : Value.okWide Tryd.prog W .any base 51 v) (h : DataW.Trod enc Tryd.prog W 0 sp hd 51 v d p) : ∃ s : Bx, v = .agg #[.string s.cod, .int .i64 s.row, .int .i64 s.col, .int .i64 s.cnt] ∧ s.cod.size ≤ maxLen := by
  obtain ⟨cs, rfl, h1⟩ := open_ti_agg und_bx ti_bx cells_bx hv h
  obtain ⟨h2, h3⟩ := toBx_vals h1
  exact ⟨toBx cs, congrArg (fun x : List Value => Value.agg x.toArray) h2, h3⟩
set_option maxRecDepth 100000 in
theorem open_bxs (hv : Value.okWide Tryd.prog W .any base 22 v) (h : DataW.Trod enc Tryd.prog W 0 sp hd 22 v d p) : ∃ (A : Option Addr) (f : List Bx) (cap : Nat), v = .slice A f.length cap ∧ BxsIn W A f ∧ BxsOk f ∧ f.length ≤ maxLen := by
  obtain ⟨A, len, cap, Z, rfl, h1, h2, h3, h4⟩ := open_ti_rows Tryd.underlying22 und_bx ti_bx cells_bx (by decide) hv h
  refine ⟨A, (List.range len).map fun i => toBx (Z i), cap, by simp, ?_, ?_, by simpa using h1⟩
  · intro h0
    have h0' : 0 < len := by simpa using h0
    obtain ⟨b, off, rfl, hc⟩ := h4 h0'
    have hz0 := toBx_vals (h3 0 h0')
    refine ⟨b, off, rfl, (hc 0 h0' 0 (by rw [hz0.1]; exact Nat.zero_lt_succ _)).2, fun k hk => ?_⟩
    have hk' : k < len := by simpa using hk
    have hz := (toBx_vals (h3 k hk')).1
    have key : ∀ j u, (toBx (Z k)).vals[j]? = some u → W.cell? ⟨b, off + k * 4 + j, none⟩ = some u := by
      intro j u hu
      rw [← hz] at hu
      obtain ⟨hj, e⟩ := List.getElem?_eq_some_iff.1 hu
      have := (hc k hk' j hj).1
      rw [size_bx] at this
      rw [this, e]
    simp only [List.getElem_map, List.getElem_range]
    exact ⟨key 0 _ rfl, key 1 _ rfl, key 2 _ rfl, key 3 _ rfl⟩
  · intro k hk
    have hk' : k < len := by simpa using hk
    simp only [List.getElem_map, List.getElem_range]
    exact (toBx_vals (h3 k hk')).2
end
end Go.Proofs.YtllafkeheppkjaaDoor
