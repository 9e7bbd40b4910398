/-
  An argument of the struct type Entry, or a slice of them, opened: it reads as plain words; its columns are ints.
-/
import Derived.Test.YtfginbjilpaghaaOpenG
import Derived.Test.YtfginbjilpaghaaEb
namespace Go.Proofs.Ytfginbjilpaghaa
open Go.ChangeShapes Go.WideShapes Go.ChangeAt Go.RowKit Go.Joins Go.Deep
set_option linter.unusedVariables false

noncomputable def fieldsOfEn : Array Field := match Try.prog.underlying 42 with | some (.struct fs) => fs | _ => #[]
theorem und_en : Try.prog.underlying 42 = some (.struct fieldsOfEn) := by kernel_rfl
theorem size_en : fieldsOfEn.size = 3 := by kernel_rfl
theorem ints_en : intFields Try.prog fieldsOfEn = true := by kernel_rfl
theorem cells_en : Try.prog.cellsOf 42 = fieldsOfEn.size := by kernel_rfl
def toEn (l : List Int) : En := ⟨l.getD 0 0, l.getD 1 0, l.getD 2 0⟩
theorem toEn_zs {l : List Int} (h : l.length = 3) : (toEn l).zs = l := by
  match l, h with
  | [c0, c1, c2], _ => rfl
section
variable {H : Type} {enc : TypeId × Value → H} {W : World} {sp : Nat → Bool} {hd : Bool} {base : Nat} {v : Value} {d : DataW H} {p : List MemPlace}
set_option maxRecDepth 100000 in
theorem open_en (hv : Value.okWide Try.prog W .any base 42 v) (h : DataW.Trod enc Try.prog W 0 sp hd 42 v d p) : ∃ s : En, v = .agg #[.int .i64 s.col, .int .i64 s.spa, .int .i64 s.wid] ∧ ∀ z ∈ s.zs, (Lit.int .i64 z).wf = true := by
  obtain ⟨zs, h1, rfl, h3⟩ := open_ints_agg und_en ints_en cells_en hv h
  rw [size_en] at h1
  refine ⟨toEn zs, ?_, by rw [toEn_zs h1]; exact h3⟩
  have e : intsZ (toEn zs).zs = intsZ zs := by rw [toEn_zs h1]
  rw [← e]
  rfl
set_option maxRecDepth 100000 in
theorem open_ens (hv : Value.okWide Try.prog W .any base 22 v) (h : DataW.Trod enc Try.prog W 0 sp hd 22 v d p) : ∃ (A : Option Addr) (f : List En) (cap : Nat), v = .slice A f.length cap ∧ EnsIn W A f ∧ f.length ≤ maxLen ∧ EnR f := by
  have h' := h
  obtain ⟨A, len, cap, Z, rfl, h1, h2, h3, h4⟩ := open_ints_rows Try.underlying22 und_en ints_en cells_en (by rw [size_en]; decide) hv h
  have hw : ∀ i, i < len → ∀ z ∈ Z i, (Lit.int .i64 z).wf = true := by
    obtain ⟨fuel, hf⟩ := h'
    intro i hi
    obtain ⟨b, off, rfl, hbl, hc⟩ := h4 (by omega)
    rcases open_slice Try.underlying22 hf with ⟨hcs, _⟩ | ⟨a, l, c, m, n, D, Pl, hcs, hb, hl, hm, hmm, _, hel⟩
    · simp [Value.cells] at hcs
    · simp [Value.cells] at hcs
      obtain ⟨rfl, rfl, rfl⟩ := hcs
      have hlm : len ≤ m := by rw [hmm]; split <;> omega
      obtain ⟨cs', hcc, ht'⟩ := hel i (by omega)
      rw [cells_en] at hcc
      obtain ⟨zs, e1, e2, e3⟩ := trod_ints und_en ints_en cells_en ht'
      obtain ⟨_, hcl, hat⟩ := World.cells?_some hcc
      have e : Z i = zs := by
        apply List.ext_getElem
        · rw [h2 i, e1]
        · intro j g1 g2
          have k1 := hat j (by omega)
          have k2 := hc i hi j g1
          rw [add_flat, add_flat] at k1
          rw [k1] at k2
          rw [e2, intsZ, List.getElem?_map, List.getElem?_eq_getElem g2] at k2
          have k3 := Option.some.inj k2
          injection k3 with _ k4
          exact k4.symm
      rw [e]; exact e3
  refine ⟨A, (List.range len).map fun i => toEn (Z i), cap, by simp, ?_, by simpa using h1, ?_⟩
  · intro h0
    obtain ⟨b, off, rfl, hb, hc⟩ := h4 (by simpa using h0)
    refine ⟨b, off, rfl, hb, fun k hk => ?_⟩
    have hk' : k < len := by simpa using hk
    have hz := h2 k
    rw [size_en] at hz hc
    simp only [List.getElem_map, List.getElem_range]
    have key : ∀ j (hj : j < (Z k).length), W.cell? ⟨b, off + k * 3 + j, none⟩ = some (.int .i64 (Z k)[j]) := fun j hj => hc k hk' j hj
    generalize Z k = zs at *
    match zs, hz with
    | [c0, c1, c2], _ => exact ⟨key 0 (by simp), key 1 (by simp), key 2 (by simp)⟩
  · intro j hj
    have hj' : j < len := by simpa using hj
    have hz := h2 j
    have hq := hw j hj'
    rw [size_en] at hz
    simp only [List.getElem_map, List.getElem_range]
    generalize Z j = zs at *
    match zs, hz with
    | [c0, c1, c2], _ => exact (wf_range (hq c0 (by simp))).2
end
end Go.Proofs.Ytfginbjilpaghaa
