/-
  An argument of the struct type Machine, or a slice of them, opened: it reads as plain words. (The text is made by a program of mine.)
-/
import Derived.Test.YtpocghcdfpcedaaOpenG
import Derived.Test.YtpocghcdfpcedaaKm
namespace Go.Proofs.Ytpocghcdfpcedaa
open Go.ChangeShapes Go.WideShapes Go.ChangeAt Go.RowKit Go.Joins Go.Deep
set_option linter.unusedVariables false

noncomputable def fieldsOfMc : Array Field := match Try.prog.underlying 30 with | some (.struct fs) => fs | _ => #[]
theorem und_mc : Try.prog.underlying 30 = some (.struct fieldsOfMc) := by kernel_rfl
theorem size_mc : fieldsOfMc.size = 3 := by kernel_rfl
theorem ints_mc : intFields Try.prog fieldsOfMc = true := by kernel_rfl
theorem cells_mc : Try.prog.cellsOf 30 = fieldsOfMc.size := by kernel_rfl
def toMc (l : List Int) : Mc := ⟨l.getD 0 0, l.getD 1 0, l.getD 2 0⟩
theorem toMc_zs {l : List Int} (h : l.length = 3) : (toMc l).zs = l := by
  match l, h with
  | [c0, c1, c2], _ => rfl
section
variable {H : Type} {enc : TypeId × Value → H} {W : World} {sp : Nat → Bool} {hd : Bool} {base : Nat} {v : Value} {d : DataW H} {p : List MemPlace}
set_option maxRecDepth 100000 in
theorem open_mc (hv : Value.okWide Try.prog W .any base 30 v) (h : DataW.Trod enc Try.prog W 0 sp hd 30 v d p) : ∃ s : Mc, v = .agg #[.int .i64 s.bod, .int .i64 s.hou, .int .i64 s.cha] ∧ ∀ z ∈ s.zs, (Lit.int .i64 z).wf = true := by
  obtain ⟨zs, h1, rfl, h3⟩ := open_ints_agg und_mc ints_mc cells_mc hv h
  rw [size_mc] at h1
  refine ⟨toMc zs, ?_, by rw [toMc_zs h1]; exact h3⟩
  have e : intsZ (toMc zs).zs = intsZ zs := by rw [toMc_zs h1]
  rw [← e]
  rfl
end
section
variable {H : Type} {enc : TypeId × Value → H} {W : World} {sp : Nat → Bool} {hd : Bool} {base : Nat} {v : Value} {d : DataW H} {p : List MemPlace}
end
end Go.Proofs.Ytpocghcdfpcedaa
