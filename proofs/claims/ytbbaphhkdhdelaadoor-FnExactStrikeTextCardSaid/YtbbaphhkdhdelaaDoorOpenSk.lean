/-
  An argument of the struct type Strike, or a slice of them, opened: it reads as plain words. (The text is made by a program of mine.)
-/
import Derived.Test.YtbbaphhkdhdelaaDoorOpenG
import Derived.Test.YtbbaphhkdhdelaaDoorSk
namespace Go.Proofs.YtbbaphhkdhdelaaDoor
open Go.ChangeShapes Go.WideShapes Go.ChangeAt Go.RowKit Go.Joins Go.Deep
set_option linter.unusedVariables false
set_option maxRecDepth 100000

noncomputable def fieldsOfSk : Array Field := match Tryd.prog.underlying 35 with | some (.struct fs) => fs | _ => #[]
theorem und_sk : Tryd.prog.underlying 35 = some (.struct fieldsOfSk) := by kernel_rfl
theorem size_sk : fieldsOfSk.size = 5 := by kernel_rfl
theorem ints_sk : intFields Tryd.prog fieldsOfSk = true := by kernel_rfl
theorem cells_sk : Tryd.prog.cellsOf 35 = fieldsOfSk.size := by kernel_rfl
def toSk (l : List Int) : Sk := ⟨l.getD 0 0, l.getD 1 0, l.getD 2 0, l.getD 3 0, l.getD 4 0⟩
theorem toSk_zs {l : List Int} (h : l.length = 5) : (toSk l).zs = l := by
  match l, h with
  | [c0, c1, c2, c3, c4], _ => rfl
section
variable {H : Type} {enc : TypeId × Value → H} {W : World} {sp : Nat → Bool} {hd : Bool} {base : Nat} {v : Value} {d : DataW H} {p : List MemPlace}
theorem open_sk (hv : Value.okWide Tryd.prog W .any base 35 v) (h : DataW.Trod enc Tryd.prog W 0 sp hd 35 v d p) : ∃ s : Sk, v = .agg #[.int .i64 s.dep, .int .i64 s.lef, .int .i64 s.fac, .int .i64 s.rig, .int .i64 s.foo] ∧ ∀ z ∈ s.zs, (Lit.int .i64 z).wf = true := by
  obtain ⟨zs, h1, rfl, h3⟩ := open_ints_agg und_sk ints_sk cells_sk hv h
  rw [size_sk] at h1
  refine ⟨toSk zs, ?_, by rw [toSk_zs h1]; exact h3⟩
  have e : intsZ (toSk zs).zs = intsZ zs := by rw [toSk_zs h1]
  rw [← e]
  rfl
end
end Go.Proofs.YtbbaphhkdhdelaaDoor
