/-
  An argument of the struct type Melt, or a slice of them, opened: it reads as plain words. (The text is made by a program of mine.)
-/
import Derived.Test.YtebbgdihifihnaaOpenG
import Derived.Test.YtebbgdihifihnaaMe
namespace Go.Proofs.Ytebbgdihifihnaa
open Go.ChangeShapes Go.WideShapes Go.ChangeAt Go.RowKit Go.Joins Go.Deep
set_option linter.unusedVariables false

noncomputable def fieldsOfMe : Array Field := match Try.prog.underlying 23 with | some (.struct fs) => fs | _ => #[]
theorem und_me : Try.prog.underlying 23 = some (.struct fieldsOfMe) := by kernel_rfl
theorem size_me : fieldsOfMe.size = 3 := by kernel_rfl
theorem ints_me : intFields Try.prog fieldsOfMe = true := by kernel_rfl
theorem cells_me : Try.prog.cellsOf 23 = fieldsOfMe.size := by kernel_rfl
def toMe (l : List Int) : Me := ⟨l.getD 0 0, l.getD 1 0, l.getD 2 0⟩
theorem toMe_zs {l : List Int} (h : l.length = 3) : (toMe l).zs = l := by
  match l, h with
  | [c0, c1, c2], _ => rfl
section
variable {H : Type} {enc : TypeId × Value → H} {W : World} {sp : Nat → Bool} {hd : Bool} {base : Nat} {v : Value} {d : DataW H} {p : List MemPlace}
theorem open_me (hv : Value.okWide Try.prog W .any base 23 v) (h : DataW.Trod enc Try.prog W 0 sp hd 23 v d p) : ∃ s : Me, v = .agg #[.int .i64 s.lea, .int .i64 s.tin, .int .i64 s.ant] ∧ ∀ z ∈ s.zs, (Lit.int .i64 z).wf = true := by
  obtain ⟨zs, h1, rfl, h3⟩ := open_ints_agg und_me ints_me cells_me hv h
  rw [size_me] at h1
  refine ⟨toMe zs, ?_, by rw [toMe_zs h1]; exact h3⟩
  have e : intsZ (toMe zs).zs = intsZ zs := by rw [toMe_zs h1]
  rw [← e]
  rfl
theorem open_mes (hv : Value.okWide Try.prog W .any base 35 v) (h : DataW.Trod enc Try.prog W 0 sp hd 35 v d p) : ∃ (A : Option Addr) (f : List Me) (cap : Nat), v = .slice A f.length cap ∧ MesIn W A f ∧ f.length ≤ maxLen := by
  obtain ⟨A, len, cap, Z, rfl, h1, h2, h3, h4⟩ := open_ints_rows Try.underlying35 und_me ints_me cells_me (by rw [size_me]; decide) hv h
  refine ⟨A, (List.range len).map fun i => toMe (Z i), cap, by simp, ?_, by simpa using h1⟩
  intro h0
  obtain ⟨b, off, rfl, hb, hc⟩ := h4 (by simpa using h0)
  refine ⟨b, off, rfl, hb, fun k hk => ?_⟩
  have hk' : k < len := by simpa using hk
  have hz := h2 k
  rw [size_me] at hz hc
  simp only [List.getElem_map, List.getElem_range]
  have key : ∀ j (hj : j < (Z k).length), W.cell? ⟨b, off + k * 3 + j, none⟩ = some (.int .i64 (Z k)[j]) := fun j hj => hc k hk' j hj
  generalize Z k = zs at *
  match zs, hz with
  | [c0, c1, c2], _ => exact ⟨key 0 (by simp), key 1 (by simp), key 2 (by simp)⟩
end
end Go.Proofs.Ytebbgdihifihnaa
