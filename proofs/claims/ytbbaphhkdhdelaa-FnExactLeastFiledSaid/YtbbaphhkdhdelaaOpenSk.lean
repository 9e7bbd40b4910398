/-
  An argument of the struct type Strike, or a slice of them, opened: it reads as plain words. (The text is made by a program of mine.)
-/
import Derived.Test.YtbbaphhkdhdelaaOpenG
import Derived.Test.YtbbaphhkdhdelaaSk
namespace Go.Proofs.Ytbbaphhkdhdelaa
open Go.ChangeShapes Go.WideShapes Go.ChangeAt Go.RowKit Go.Joins Go.Deep
set_option linter.unusedVariables false

noncomputable def fieldsOfSk : Array Field := match Try.prog.underlying 23 with | some (.struct fs) => fs | _ => #[]
theorem und_sk : Try.prog.underlying 23 = some (.struct fieldsOfSk) := by kernel_rfl
theorem size_sk : fieldsOfSk.size = 5 := by kernel_rfl
theorem ints_sk : intFields Try.prog fieldsOfSk = true := by kernel_rfl
theorem cells_sk : Try.prog.cellsOf 23 = fieldsOfSk.size := by kernel_rfl
def toSk (l : List Int) : Sk := ⟨l.getD 0 0, l.getD 1 0, l.getD 2 0, l.getD 3 0, l.getD 4 0⟩
theorem toSk_zs {l : List Int} (h : l.length = 5) : (toSk l).zs = l := by
  match l, h with
  | [c0, c1, c2, c3, c4], _ => rfl
section
variable {H : Type} {enc : TypeId × Value → H} {W : World} {sp : Nat → Bool} {hd : Bool} {base : Nat} {v : Value} {d : DataW H} {p : List MemPlace}
theorem open_sk (hv : Value.okWide Try.prog W .any base 23 v) (h : DataW.Trod enc Try.prog W 0 sp hd 23 v d p) : ∃ s : Sk, v = .agg #[.int .i64 s.dep, .int .i64 s.lef, .int .i64 s.fac, .int .i64 s.rig, .int .i64 s.foo] ∧ ∀ z ∈ s.zs, (Lit.int .i64 z).wf = true := by
  obtain ⟨zs, h1, rfl, h3⟩ := open_ints_agg und_sk ints_sk cells_sk hv h
  rw [size_sk] at h1
  refine ⟨toSk zs, ?_, by rw [toSk_zs h1]; exact h3⟩
  have e : intsZ (toSk zs).zs = intsZ zs := by rw [toSk_zs h1]
  rw [← e]
  rfl
theorem open_sks (hv : Value.okWide Try.prog W .any base 38 v) (h : DataW.Trod enc Try.prog W 0 sp hd 38 v d p) : ∃ (A : Option Addr) (f : List Sk) (cap : Nat), v = .slice A f.length cap ∧ SksIn W A f ∧ f.length ≤ maxLen := by
  obtain ⟨A, len, cap, Z, rfl, h1, h2, h3, h4⟩ := open_ints_rows Try.underlying38 und_sk ints_sk cells_sk (by rw [size_sk]; decide) hv h
  refine ⟨A, (List.range len).map fun i => toSk (Z i), cap, by simp, ?_, by simpa using h1⟩
  intro h0
  obtain ⟨b, off, rfl, hb, hc⟩ := h4 (by simpa using h0)
  refine ⟨b, off, rfl, hb, fun k hk => ?_⟩
  have hk' : k < len := by simpa using hk
  have hz := h2 k
  rw [size_sk] at hz hc
  simp only [List.getElem_map, List.getElem_range]
  have key : ∀ j (hj : j < (Z k).length), W.cell? ⟨b, off + k * 5 + j, none⟩ = some (.int .i64 (Z k)[j]) := fun j hj => hc k hk' j hj
  generalize Z k = zs at *
  match zs, hz with
  | [c0, c1, c2, c3, c4], _ => exact ⟨key 0 (by simp), key 1 (by simp), key 2 (by simp), key 3 (by simp), key 4 (by simp)⟩
end
end Go.Proofs.Ytbbaphhkdhdelaa
