/-
  An argument that is a struct of ints, or a slice of such structs, opened: its cells are ints. (No function is named here.)
-/
import Derived.Test.YteagclokobkigaaBase
import Derived.ProofKit
import Derived.OpenShut
import Derived.ShutString
import Derived.ChangeOld
import Derived.Lib.SmallJoins
import Derived.Deep.Slices
import Derived.Deep.Fields
import Derived.ChangeSame
namespace Go.Proofs.Yteagclokobkigaa
open Go.ChangeShapes Go.WideShapes Go.ChangeAt Go.RowKit Go.Joins Go.Deep
set_option linter.unusedVariables false

section
variable {H : Type} {enc : TypeId × Value → H} {P : Program} {W : World} {base : Nat} {sp : Nat → Bool} {hd : Bool}

def isI64 : Option TypeDesc → Bool | some (.int .i64) => true | _ => false
theorem isI64_eq {d : Option TypeDesc} (h : isI64 d = true) : d = some (.int .i64) := by
  unfold isI64 at h
  split at h
  · rfl
  · cases h
/-- All fields are ints, one cell each. -/
def intFields (P : Program) (fs : Array Field) : Bool :=
  (List.range fs.size).all fun j => match fs[j]? with
    | some f => f.offset == j && P.cellsOf f.type == 1 && isI64 (P.underlying f.type)
    | none => false
theorem intFields_at {fs : Array Field} (h : intFields P fs = true) {j : Nat} (hj : j < fs.size) : fs[j].offset = j ∧ P.cellsOf fs[j].type = 1 ∧ P.underlying fs[j].type = some (.int .i64) := by
  have h1 := List.all_eq_true.1 h j (List.mem_range.2 hj)
  rw [Array.getElem?_eq_getElem hj] at h1
  simp only [Bool.and_eq_true, beq_iff_eq] at h1
  exact ⟨h1.1.1, h1.1.2, isI64_eq h1.2⟩

theorem trod_ints {t : TypeId} {fs : Array Field} {m : Nat} {cs : List Value} {x : DataW H × List MemPlace} (ht : P.underlying t = some (.struct fs)) (hi : intFields P fs = true) (hC : P.cellsOf t = fs.size)
    (h : DataW.trod enc P W base sp hd m t cs = some x) : ∃ zs : List Int, zs.length = fs.size ∧ cs = intsZ zs ∧ ∀ z ∈ zs, (Lit.int .i64 z).wf = true := by
  obtain ⟨xs, n, _, _, hlen, hxl, hg⟩ := DataW.trod_struct ht h
  rw [hC] at hlen
  have key : ∀ j (hj : j < cs.length), ∃ z, cs[j] = .int .i64 z ∧ (Lit.int .i64 z).wf = true := by
    intro j hj
    have hj' : j < fs.size := by omega
    obtain ⟨h1, h2, h3⟩ := intFields_at hi hj'
    have h4 := hg j fs[j] (Array.getElem?_eq_getElem hj')
    rw [h1, h2, List.drop_eq_getElem_cons hj, List.take_succ_cons, List.take_zero, List.getElem?_eq_getElem (by omega)] at h4
    obtain ⟨z, e, _, hz⟩ := DataW.trod_int h3 h4
    simp at e
    exact ⟨z, e, hz⟩
  refine ⟨cs.map intOf, by simpa using hlen, ?_, ?_⟩
  · apply List.ext_getElem
    · simp [intsZ]
    · intro j h1 h2
      obtain ⟨z, e, _⟩ := key j h1
      simp [intsZ, e]; rfl
  · intro z hz
    obtain ⟨v, hv, rfl⟩ := List.mem_map.1 hz
    obtain ⟨j, hj, rfl⟩ := List.getElem_of_mem hv
    obtain ⟨z, e, hw⟩ := key j hj
    rw [e]; exact hw

theorem open_ints_agg {r : Reach} {b0 : Nat} {t : TypeId} {fs : Array Field} {v : Value} {d : DataW H} {p : List MemPlace} (ht : P.underlying t = some (.struct fs)) (hi : intFields P fs = true) (hC : P.cellsOf t = fs.size)
    (hv : Value.okWide P W r b0 t v) (h : DataW.Trod enc P W base sp hd t v d p) : ∃ zs : List Int, zs.length = fs.size ∧ v = .agg (intsZ zs).toArray ∧ ∀ z ∈ zs, (Lit.int .i64 z).wf = true := by
  obtain ⟨cs, rfl, hsz⟩ := okWide_struct ht hv
  obtain ⟨fuel, hf⟩ := h
  obtain ⟨zs, h1, h2, h3⟩ := trod_ints ht hi hC hf
  refine ⟨zs, h1, ?_, h3⟩
  have : cs.toList = intsZ zs := by simpa [Value.cells] using h2
  rw [← this]

theorem open_ints_rows {r : Reach} {b0 : Nat} {t e : TypeId} {fs : Array Field} {v : Value} {d : DataW H} {p : List MemPlace} (hs : P.underlying t = some (.slice e)) (ht : P.underlying e = some (.struct fs)) (hi : intFields P fs = true) (hC : P.cellsOf e = fs.size) (hpos : 0 < fs.size)
    (hv : Value.okWide P W r b0 t v) (h : DataW.Trod enc P W base sp hd t v d p) :
    ∃ (A : Option Addr) (len cap : Nat) (Z : Nat → List Int), v = .slice A len cap ∧ len ≤ maxLen ∧ (∀ i, (Z i).length = fs.size) ∧ len ≤ cap ∧
      (0 < len → ∃ b off, A = some ⟨b, off, none⟩ ∧ b < W.heap.size ∧ ∀ i, i < len → ∀ j (hj : j < (Z i).length), W.cell? ⟨b, off + i * fs.size + j, none⟩ = some (.int .i64 (Z i)[j])) := by
  obtain ⟨A, len, cap, rfl⟩ := okWide_slice hs hv
  obtain ⟨fuel, hf⟩ := h
  rcases open_slice hs hf with ⟨hcs, _⟩ | ⟨a, l, c, m, n, D, Pl, hcs, hb, hl, hm, hmm, _, hel⟩
  · simp [Value.cells] at hcs
    obtain ⟨rfl, rfl, rfl⟩ := hcs
    exact ⟨none, 0, 0, fun _ => List.replicate fs.size 0, rfl, by simp, by simp, Nat.le_refl _, fun h => absurd h (by omega)⟩
  · simp [Value.cells] at hcs
    obtain ⟨rfl, rfl, rfl⟩ := hcs
    have hlm : len ≤ m := by rw [hmm]; split <;> omega
    have key : ∀ i, ∃ zs : List Int, zs.length = fs.size ∧ (i < len → ∀ j (hj : j < zs.length), W.cell? ((a.add (i * fs.size)).add j) = some (.int .i64 zs[j])) := by
      intro i
      by_cases hi' : i < len
      · obtain ⟨cs', hc, ht'⟩ := hel i (by omega)
        rw [hC] at hc
        obtain ⟨zs, h1, h2, _⟩ := trod_ints ht hi hC ht'
        obtain ⟨_, hcl, hat⟩ := World.cells?_some hc
        refine ⟨zs, h1, fun _ j hj => ?_⟩
        have := hat j (by omega)
        rw [this, h2]
        simp [intsZ, hj]
      · exact ⟨List.replicate fs.size 0, by simp, fun h => absurd h hi'⟩
    obtain ⟨Z, hZ⟩ := Classical.axiomOfChoice key
    refine ⟨some a, len, cap, Z, rfl, by omega, fun i => (hZ i).1, hl, ?_⟩
    intro h0
    obtain ⟨b, off, s⟩ := a
    have hl0 : 0 < (Z 0).length := by rw [(hZ 0).1]; exact hpos
    have g0 := (hZ 0).2 h0 0 hl0
    generalize (Z 0)[0] = z0 at g0
    have e0 : (⟨b, off, s⟩ : Addr).add (0 * fs.size) = ⟨b, off, s⟩ := by simp [Addr.add]
    rw [e0] at g0
    obtain rfl := spot_of_cell g0
    refine ⟨b, off, rfl, ?_, fun i hlt j hj => ?_⟩
    · have := World.block_lt_of_cell? W _ g0
      rwa [add_flat] at this
    · have := (hZ i).2 hlt j hj
      rwa [add_flat, add_flat] at this
end
theorem wf_range {z : Int} (h : (Lit.int .i64 z).wf = true) : -9223372036854775808 ≤ z ∧ z ≤ 9223372036854775807 := by
  simpa [Lit.wf, IntKind.min, IntKind.max, IntKind.signed, IntKind.bits] using h
end Go.Proofs.Yteagclokobkigaa
