/-
  An argument of the struct type Slip, or a slice of them, opened: it reads as plain words. (The text is made by a program of mine.)
-/
import Derived.Test.YtljakcfdjcjdbaaOpenG
import Derived.Test.YtljakcfdjcjdbaaPa
namespace Go.Proofs.Ytljakcfdjcjdbaa
open Go.ChangeShapes Go.WideShapes Go.ChangeAt Go.RowKit Go.Joins Go.Deep
set_option linter.unusedVariables false

noncomputable def fieldsOfSl : Array Field := match Try.prog.underlying 59 with | some (.struct fs) => fs | _ => #[]
theorem und_sl : Try.prog.underlying 59 = some (.struct fieldsOfSl) := by kernel_rfl
theorem size_sl : fieldsOfSl.size = 2 := by kernel_rfl
theorem ints_sl : intFields Try.prog fieldsOfSl = true := by kernel_rfl
theorem cells_sl : Try.prog.cellsOf 59 = fieldsOfSl.size := by kernel_rfl
def toSl (l : List Int) : Sl := ⟨l.getD 0 0, l.getD 1 0⟩
theorem toSl_zs {l : List Int} (h : l.length = 2) : (toSl l).zs = l := by
  match l, h with
  | [c0, c1], _ => rfl
section
variable {H : Type} {enc : TypeId × Value → H} {W : World} {sp : Nat → Bool} {hd : Bool} {base : Nat} {v : Value} {d : DataW H} {p : List MemPlace}
set_option maxRecDepth 100000 in
theorem open_sl (hv : Value.okWide Try.prog W .any base 59 v) (h : DataW.Trod enc Try.prog W 0 sp hd 59 v d p) : ∃ s : Sl, v = .agg #[.int .i64 s.len, .int .i64 s.cnt] ∧ ∀ z ∈ s.zs, (Lit.int .i64 z).wf = true := by
  obtain ⟨zs, h1, rfl, h3⟩ := open_ints_agg und_sl ints_sl cells_sl hv h
  rw [size_sl] at h1
  refine ⟨toSl zs, ?_, by rw [toSl_zs h1]; exact h3⟩
  have e : intsZ (toSl zs).zs = intsZ zs := by rw [toSl_zs h1]
  rw [← e]
  rfl
end
section
variable {H : Type} {enc : TypeId × Value → H} {W : World} {sp : Nat → Bool} {hd : Bool} {base : Nat} {v : Value} {d : DataW H} {p : List MemPlace}
set_option maxRecDepth 100000 in
theorem open_sls (hv : Value.okWide Try.prog W .any base 22 v) (h : DataW.Trod enc Try.prog W 0 sp hd 22 v d p) : ∃ (A : Option Addr) (f : List Sl) (cap : Nat), v = .slice A f.length cap ∧ SlsIn W A f ∧ f.length ≤ maxLen := by
  obtain ⟨A, len, cap, Z, rfl, h1, h2, h3, h4⟩ := open_ints_rows Try.underlying22 und_sl ints_sl cells_sl (by rw [size_sl]; decide) hv h
  refine ⟨A, (List.range len).map fun i => toSl (Z i), cap, by simp, ?_, by simpa using h1⟩
  intro h0
  obtain ⟨b, off, rfl, hb, hc⟩ := h4 (by simpa using h0)
  refine ⟨b, off, rfl, hb, fun k hk => ?_⟩
  have hk' : k < len := by simpa using hk
  have hz := h2 k
  rw [size_sl] at hz hc
  simp only [List.getElem_map, List.getElem_range]
  have key : ∀ j (hj : j < (Z k).length), W.cell? ⟨b, off + k * 2 + j, none⟩ = some (.int .i64 (Z k)[j]) := fun j hj => hc k hk' j hj
  generalize Z k = zs at *
  match zs, hz with
  | [c0, c1], _ => exact ⟨key 0 (by simp), key 1 (by simp)⟩
end
end Go.Proofs.Ytljakcfdjcjdbaa
