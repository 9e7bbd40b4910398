/-
  An argument of the struct type Blend, or a slice of them, opened: it reads as plain words. (The text is made by a program of mine.)
-/
import Derived.Test.YtebbgdihifihnaaDoorOpenG
import Derived.Test.YtebbgdihifihnaaDoorBd
namespace Go.Proofs.YtebbgdihifihnaaDoor
open Go.ChangeShapes Go.WideShapes Go.ChangeAt Go.RowKit Go.Joins Go.Deep
set_option linter.unusedVariables false

noncomputable def fieldsOfBd : Array Field := match Tryd.prog.underlying 23 with | some (.struct fs) => fs | _ => #[]
theorem und_bd : Tryd.prog.underlying 23 = some (.struct fieldsOfBd) := by kernel_rfl
theorem size_bd : fieldsOfBd.size = 4 := by kernel_rfl
theorem ints_bd : intFields Tryd.prog fieldsOfBd = true := by kernel_rfl
theorem cells_bd : Tryd.prog.cellsOf 23 = fieldsOfBd.size := by kernel_rfl
def toBd (l : List Int) : Bd := ⟨l.getD 0 0, l.getD 1 0, l.getD 2 0, l.getD 3 0⟩
theorem toBd_zs {l : List Int} (h : l.length = 4) : (toBd l).zs = l := by
  match l, h with
  | [c0, c1, c2, c3], _ => rfl
section
variable {H : Type} {enc : TypeId × Value → H} {W : World} {sp : Nat → Bool} {hd : Bool} {base : Nat} {v : Value} {d : DataW H} {p : List MemPlace}
set_option maxRecDepth 100000 in
theorem open_bd (hv : Value.okWide Tryd.prog W .any base 23 v) (h : DataW.Trod enc Tryd.prog W 0 sp hd 23 v d p) : ∃ s : Bd, v = .agg #[.int .i64 s.lot, .int .i64 s.hit, .int .i64 s.loa, .int .i64 s.hia] ∧ ∀ z ∈ s.zs, (Lit.int .i64 z).wf = true := by
  obtain ⟨zs, h1, rfl, h3⟩ := open_ints_agg und_bd ints_bd cells_bd hv h
  rw [size_bd] at h1
  refine ⟨toBd zs, ?_, by rw [toBd_zs h1]; exact h3⟩
  have e : intsZ (toBd zs).zs = intsZ zs := by rw [toBd_zs h1]
  rw [← e]
  rfl
end
section
variable {H : Type} {enc : TypeId × Value → H} {W : World} {sp : Nat → Bool} {hd : Bool} {base : Nat} {v : Value} {d : DataW H} {p : List MemPlace}
end
end Go.Proofs.YtebbgdihifihnaaDoor
