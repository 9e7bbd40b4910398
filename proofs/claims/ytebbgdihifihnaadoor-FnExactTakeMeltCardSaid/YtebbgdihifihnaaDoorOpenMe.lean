/-
  An argument of the struct type Melt, or a slice of them, opened: it reads as plain words. (The text is made by a program of mine.)
-/
import Derived.Test.YtebbgdihifihnaaDoorOpenG
import Derived.Test.YtebbgdihifihnaaDoorMe
namespace Go.Proofs.YtebbgdihifihnaaDoor
open Go.ChangeShapes Go.WideShapes Go.ChangeAt Go.RowKit Go.Joins Go.Deep
set_option linter.unusedVariables false

noncomputable def fieldsOfMe : Array Field := match Tryd.prog.underlying 29 with | some (.struct fs) => fs | _ => #[]
theorem und_me : Tryd.prog.underlying 29 = some (.struct fieldsOfMe) := by kernel_rfl
theorem size_me : fieldsOfMe.size = 3 := by kernel_rfl
theorem ints_me : intFields Tryd.prog fieldsOfMe = true := by kernel_rfl
theorem cells_me : Tryd.prog.cellsOf 29 = fieldsOfMe.size := by kernel_rfl
def toMe (l : List Int) : Me := ⟨l.getD 0 0, l.getD 1 0, l.getD 2 0⟩
theorem toMe_zs {l : List Int} (h : l.length = 3) : (toMe l).zs = l := by
  match l, h with
  | [c0, c1, c2], _ => rfl
section
variable {H : Type} {enc : TypeId × Value → H} {W : World} {sp : Nat → Bool} {hd : Bool} {base : Nat} {v : Value} {d : DataW H} {p : List MemPlace}
set_option maxRecDepth 100000 in
theorem open_me (hv : Value.okWide Tryd.prog W .any base 29 v) (h : DataW.Trod enc Tryd.prog W 0 sp hd 29 v d p) : ∃ s : Me, v = .agg #[.int .i64 s.lea, .int .i64 s.tin, .int .i64 s.ant] ∧ ∀ z ∈ s.zs, (Lit.int .i64 z).wf = true := by
  obtain ⟨zs, h1, rfl, h3⟩ := open_ints_agg und_me ints_me cells_me hv h
  rw [size_me] at h1
  refine ⟨toMe zs, ?_, by rw [toMe_zs h1]; exact h3⟩
  have e : intsZ (toMe zs).zs = intsZ zs := by rw [toMe_zs h1]
  rw [← e]
  rfl
end
section
variable {H : Type} {enc : TypeId × Value → H} {W : World} {sp : Nat → Bool} {hd : Bool} {base : Nat} {v : Value} {d : DataW H} {p : List MemPlace}
end
end Go.Proofs.YtebbgdihifihnaaDoor
