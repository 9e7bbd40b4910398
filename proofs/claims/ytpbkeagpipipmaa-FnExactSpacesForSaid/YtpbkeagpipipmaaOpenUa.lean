/-
  An argument of the struct type Rule, or a slice of them, opened: it reads as plain words. (The text is made by a program of mine.)
-/
import Derived.Test.YtpbkeagpipipmaaOpenG
import Derived.Test.YtpbkeagpipipmaaUa
namespace Go.Proofs.Ytpbkeagpipipmaa
open Go.ChangeShapes Go.WideShapes Go.ChangeAt Go.RowKit Go.Joins Go.Deep
set_option linter.unusedVariables false

noncomputable def fieldsOfRu : Array Field := match Try.prog.underlying 49 with | some (.struct fs) => fs | _ => #[]
theorem und_ru : Try.prog.underlying 49 = some (.struct fieldsOfRu) := by kernel_rfl
theorem size_ru : fieldsOfRu.size = 3 := by kernel_rfl
theorem ints_ru : intFields Try.prog fieldsOfRu = true := by kernel_rfl
theorem cells_ru : Try.prog.cellsOf 49 = fieldsOfRu.size := by kernel_rfl
def toRu (l : List Int) : Ru := ⟨l.getD 0 0, l.getD 1 0, l.getD 2 0⟩
theorem toRu_zs {l : List Int} (h : l.length = 3) : (toRu l).zs = l := by
  match l, h with
  | [c0, c1, c2], _ => rfl
section
variable {H : Type} {enc : TypeId × Value → H} {W : World} {sp : Nat → Bool} {hd : Bool} {base : Nat} {v : Value} {d : DataW H} {p : List MemPlace}
set_option maxRecDepth 100000 in
theorem open_ru (hv : Value.okWide Try.prog W .any base 49 v) (h : DataW.Trod enc Try.prog W 0 sp hd 49 v d p) : ∃ s : Ru, v = .agg #[.int .i64 s.lst, .int .i64 s.nrm, .int .i64 s.mst] ∧ ∀ z ∈ s.zs, (Lit.int .i64 z).wf = true := by
  obtain ⟨zs, h1, rfl, h3⟩ := open_ints_agg und_ru ints_ru cells_ru hv h
  rw [size_ru] at h1
  refine ⟨toRu zs, ?_, by rw [toRu_zs h1]; exact h3⟩
  have e : intsZ (toRu zs).zs = intsZ zs := by rw [toRu_zs h1]
  rw [← e]
  rfl
end
section
variable {H : Type} {enc : TypeId × Value → H} {W : World} {sp : Nat → Bool} {hd : Bool} {base : Nat} {v : Value} {d : DataW H} {p : List MemPlace}
end
end Go.Proofs.Ytpbkeagpipipmaa
